/- What is proved: whether two commits are one in all fields, by the program and by the document. Conditions: the parents' cells are there. -/
import Derived.Test.YtppddpbacpeadaaDoorRwg
namespace Go.Proofs.YtppddpbacpeadaaDoor
open Go.RowKit Go.Sort Go.Shelf
open Ids (idC dgt big idC_size idC_get idC_one cellD zero32 size32 dgt_lt hexB eq_nums)
set_option linter.unusedVariables false

def sameR (T1 T2 : Nat) (p1 p2 : List Nat) (a1 a2 : List UInt8) (n1 n2 : Int) (t1 t2 : List UInt8) : Bool := T1 == T2 && (p1 == p2 && (a1 == a2 && (n1 == n2 && t1 == t2)))
theorem sameR_self (T : Nat) (p : List Nat) (a : List UInt8) (n : Int) (t : List UInt8) : sameR T T p p a a n n t t = true := by simp [sameR]

set_option maxHeartbeats 6400000 in
set_option maxRecDepth 100000 in
theorem QvSame_any (T1 T2 : Nat) (hT1 : T1 < big) (hT2 : T2 < big) (A B : Option Addr) (c d : Nat) (p1 p2 : List Nat) (a1 a2 : List UInt8) (n1 n2 : Int) (t1 t2 : List UInt8) (hb1 : ∀ n ∈ p1, n < big) (hb2 : ∀ n ∈ p2, n < big) (hl1 : p1.length ≤ 9223372036854775807) (w : World) (h1 : Lies w A (flatI p1)) (h2 : Lies w B (flatI p2)) :
    Calls Tryd.prog 20 #[.agg (revC T1 (.slice A p1.length c) a1 n1 t1), .agg (revC T2 (.slice B p2.length d) a2 n2 t2)] w fun e w' => e = .returned (.bool (sameR T1 T2 p1 p2 a1 a2 n1 n2 t1 t2)) ∧ Below w.heap.size w w' := by
  (
    obtain ⟨w1, hw1⟩ : ∃ w1, w.alloc (.cells (revC T1 (.slice A p1.length c) a1 n1 t1) 26) = w1 := ⟨_, rfl⟩
    obtain ⟨w2, hw2⟩ : ∃ w2, w1.alloc (.cells (revC T2 (.slice B p2.length d) a2 n2 t2) 26) = w2 := ⟨_, rfl⟩
    have hF1 : Fr (fun _ => False) w w1 := by subst hw1; exact (Fr.refl _ w).alloc _
    have hF2 : Fr (fun _ => False) w1 w2 := by subst hw2; exact (Fr.refl _ w1).alloc _
    have hsz1 : w1.heap.size = w.heap.size + 1 := by subst hw1; exact alloc_size _ _
    have hR1 : RevAt w2 w.heap.size T1 (.slice A p1.length c) a1 n1 t1 := RevAt.fr (by subst hw1; exact RevAt.new w) hF2
    have hR2 : RevAt w2 w1.heap.size T2 (.slice B p2.length d) a2 n2 t2 := by subst hw2; exact RevAt.new w1
    rw [hsz1] at hR2
    have HF := Lib.hid (hF1.trans hF2 (fun _ _ e => e))
    have hc1 := hR1.cv
    have hc2 := hR2.cv
    have hd1 := hR1.id
    have hd2 := hR2.id
    have heq := fun w => eq_nums T1 T2 hT1 hT2 w
    have hcall := QSame_any A B c d p1 p2 hb1 hb2 hl1 w2 (h1.fr (hF1.trans hF2 (fun _ _ e => e)) (fun _ _ e => e)) (h2.fr (hF1.trans hF2 (fun _ _ e => e)) (fun _ _ e => e))
    have HC1 : Hid (∀ w', Below w2.heap.size w2 w' → RevAt w' w.heap.size T1 (.slice A p1.length c) a1 n1 t1 ∧ RevAt w' (w.heap.size + 1) T2 (.slice B p2.length d) a2 n2 t2) := Lib.hid (fun w' b => ⟨hR1.fr (Fr.of_below b), hR2.fr (Fr.of_below b)⟩)
    have hA : ((strB a1).toList == (strB a2).toList) = (a1 == a2) := str_eq _ _
    have hX : ((strB t1).toList == (strB t2).toList) = (t1 == t2) := str_eq _ _
    have HRV : Hid (sameR T1 T2 p1 p2 a1 a2 n1 n2 t1 t2 = (T1 == T2 && (p1 == p2 && (a1 == a2 && (n1 == n2 && t1 == t2))))) := Lib.hid rfl
    obtain ⟨R, hR⟩ : ∃ R, sameR T1 T2 p1 p2 a1 a2 n1 n2 t1 t2 = R := ⟨_, rfl⟩
    rw [hR] at HRV ⊢
    obtain ⟨b0, hb0⟩ : ∃ b, (T1 == T2) = b := ⟨_, rfl⟩
    obtain ⟨b1, hb1'⟩ : ∃ b, (p1 == p2) = b := ⟨_, rfl⟩
    obtain ⟨b2, hb2'⟩ : ∃ b, (a1 == a2) = b := ⟨_, rfl⟩
    obtain ⟨b3, hb3⟩ : ∃ b, (n1 == n2) = b := ⟨_, rfl⟩
    obtain ⟨b4, hb4⟩ : ∃ b, (t1 == t2) = b := ⟨_, rfl⟩
    rw [hb0, hb1', hb2', hb3, hb4] at HRV
    rw [hb0] at heq
    rw [hb1'] at hcall
    rw [hb2'] at hA
    rw [hb4] at hX
    obtain ⟨x1, hx1⟩ : ∃ x, idC (dgt T1) = x := ⟨_, rfl⟩
    obtain ⟨x2, hx2⟩ : ∃ x, idC (dgt T2) = x := ⟨_, rfl⟩
    have hs1 : x1.size = 32 := by rw [← hx1]; exact idC_size _
    have hs2 : x2.size = 32 := by rw [← hx2]; exact idC_size _
    rw [hx1] at heq hd1
    rw [hx2] at heq hd2
    obtain ⟨r1, hr1⟩ : ∃ c', revC T1 (.slice A p1.length c) a1 n1 t1 = c' := ⟨_, rfl⟩
    obtain ⟨r2, hr2⟩ : ∃ c', revC T2 (.slice B p2.length d) a2 n2 t2 = c' := ⟨_, rfl⟩
    rw [hr1] at hw1 ⊢
    rw [hr2] at hw2 ⊢
    obtain ⟨l1, hl1'⟩ : ∃ n, p1.length = n := ⟨_, rfl⟩
    obtain ⟨l2, hl2'⟩ : ∃ n, p2.length = n := ⟨_, rfl⟩
    rw [hl1'] at hc1 HC1
    rw [hl2'] at hc2 HC1
    rw [hl1', hl2'] at hcall
    have HRC : Hid (∀ w', Below w2.heap.size w2 w' → w'.cell? ⟨w.heap.size, 33, none⟩ = some (.string (strB a1)) ∧ w'.cell? ⟨w.heap.size + 1, 33, none⟩ = some (.string (strB a2)) ∧ w'.cell? ⟨w.heap.size, 34, none⟩ = some (.int .i64 n1) ∧ w'.cell? ⟨w.heap.size + 1, 34, none⟩ = some (.int .i64 n2) ∧ w'.cell? ⟨w.heap.size, 35, none⟩ = some (.string (strB t1)) ∧ w'.cell? ⟨w.heap.size + 1, 35, none⟩ = some (.string (strB t2))) := Lib.hid (fun w' b => by
      obtain ⟨q1, q2⟩ := HC1.out w' b
      exact ⟨q1.ca, q2.ca, q1.cn, q2.cn, q1.ct, q2.ct⟩)
    obtain ⟨S1, hS1⟩ : ∃ S, strB a1 = S := ⟨_, rfl⟩
    obtain ⟨S2, hS2⟩ : ∃ S, strB a2 = S := ⟨_, rfl⟩
    obtain ⟨U1, hU1⟩ : ∃ S, strB t1 = S := ⟨_, rfl⟩
    obtain ⟨U2, hU2⟩ : ∃ S, strB t2 = S := ⟨_, rfl⟩
    rw [hS1, hS2, hU1, hU2] at HRC
    rw [hS1, hS2] at hA
    rw [hU1, hU2] at hX
    have HCALL := Lib.hid hcall
    have HD1 := Lib.hid hd1
    have HD2 := Lib.hid hd2
    clear hcall hd1 hd2 HC1 hR1 hR2 hF1 hF2 hR hb0 hb1' hb2' hb4 hx1 hx2 hr1 hr2 hl1' hl2' hS1 hS2 hU1 hU2 h1 h2 hb1 hb2 hl1 hT1 hT2)
  cases b0
  · clear HCALL HRC hA hX hb3
    go_enter Tryd.func20, Tryd.ntmps20
    go_wp2_with (
      (first
        | (refine wpList_load_mid rfl 23 _ rfl w.heap.size 0 rfl _ _ HD1.out Tryd.underlying23 rfl (by rw [Array.length_toList, hs1]; exact size32) ?_)
        | (refine wpList_load_mid rfl 23 _ rfl (w.heap.size + 1) 0 rfl _ _ HD2.out Tryd.underlying23 rfl (by rw [Array.length_toList, hs2]; exact size32) ?_)
        | (go_at_call 42; refine HCALL.out.mono ?_; rintro e w3 ⟨rfl, b3⟩; obtain ⟨ca1, ca2, cn1, cn2, ct1, ct2⟩ := HRC.out _ b3)))
    go_ret
    exact ⟨ret_bool (by rw [HRV.out]; rfl), HF.out.below (fun _ _ e => e)⟩
  · cases b1
    · clear hA hX hb3
      go_enter Tryd.func20, Tryd.ntmps20
      go_wp2_with (
        (first
          | (refine wpList_load_mid rfl 23 _ rfl w.heap.size 0 rfl _ _ HD1.out Tryd.underlying23 rfl (by rw [Array.length_toList, hs1]; exact size32) ?_)
          | (refine wpList_load_mid rfl 23 _ rfl (w.heap.size + 1) 0 rfl _ _ HD2.out Tryd.underlying23 rfl (by rw [Array.length_toList, hs2]; exact size32) ?_)
          | (go_at_call 42; refine HCALL.out.mono ?_; rintro e w3 ⟨rfl, b3⟩; obtain ⟨ca1, ca2, cn1, cn2, ct1, ct2⟩ := HRC.out _ b3)))
      go_ret
      exact ⟨ret_bool (by rw [HRV.out]; rfl), (HF.out.then_below b3).below (fun _ _ e => e)⟩
    · cases b2
      · have hA2 : ¬ S1.toList = S2.toList := by simpa using hA
        clear hX hb3
        go_enter Tryd.func20, Tryd.ntmps20
        go_wp2_with (
          (first
            | (refine wpList_load_mid rfl 23 _ rfl w.heap.size 0 rfl _ _ HD1.out Tryd.underlying23 rfl (by rw [Array.length_toList, hs1]; exact size32) ?_)
            | (refine wpList_load_mid rfl 23 _ rfl (w.heap.size + 1) 0 rfl _ _ HD2.out Tryd.underlying23 rfl (by rw [Array.length_toList, hs2]; exact size32) ?_)
            | (go_at_call 42; refine HCALL.out.mono ?_; rintro e w3 ⟨rfl, b3⟩; obtain ⟨ca1, ca2, cn1, cn2, ct1, ct2⟩ := HRC.out _ b3)))
        go_ret
        exact ⟨ret_bool (by rw [HRV.out]; rfl), (HF.out.then_below b3).below (fun _ _ e => e)⟩
      · have hA2 : S1.toList = S2.toList := by simpa using hA
        clear hA
        cases b3
        · have hn2 : ¬ n1 = n2 := by simpa using hb3
          clear hX
          go_enter Tryd.func20, Tryd.ntmps20
          go_wp2_with (
            (first
              | (refine wpList_load_mid rfl 23 _ rfl w.heap.size 0 rfl _ _ HD1.out Tryd.underlying23 rfl (by rw [Array.length_toList, hs1]; exact size32) ?_)
              | (refine wpList_load_mid rfl 23 _ rfl (w.heap.size + 1) 0 rfl _ _ HD2.out Tryd.underlying23 rfl (by rw [Array.length_toList, hs2]; exact size32) ?_)
              | (go_at_call 42; refine HCALL.out.mono ?_; rintro e w3 ⟨rfl, b3⟩; obtain ⟨ca1, ca2, cn1, cn2, ct1, ct2⟩ := HRC.out _ b3)))
          go_ret
          exact ⟨ret_bool (by rw [HRV.out]; rfl), (HF.out.then_below b3).below (fun _ _ e => e)⟩
        · obtain rfl : n1 = n2 := by simpa using hb3
          clear hb3
          cases b4
          · have hX2 : ¬ U1.toList = U2.toList := by simpa using hX
            go_enter Tryd.func20, Tryd.ntmps20
            go_wp2_with (
              (first
                | (refine wpList_load_mid rfl 23 _ rfl w.heap.size 0 rfl _ _ HD1.out Tryd.underlying23 rfl (by rw [Array.length_toList, hs1]; exact size32) ?_)
                | (refine wpList_load_mid rfl 23 _ rfl (w.heap.size + 1) 0 rfl _ _ HD2.out Tryd.underlying23 rfl (by rw [Array.length_toList, hs2]; exact size32) ?_)
                | (go_at_call 42; refine HCALL.out.mono ?_; rintro e w3 ⟨rfl, b3⟩; obtain ⟨ca1, ca2, cn1, cn2, ct1, ct2⟩ := HRC.out _ b3)))
            go_ret
            exact ⟨ret_bool (by rw [HRV.out]; rfl), (HF.out.then_below b3).below (fun _ _ e => e)⟩
          · have hX2 : U1.toList = U2.toList := by simpa using hX
            clear hX
            go_enter Tryd.func20, Tryd.ntmps20
            go_wp2_with (
              (first
                | (refine wpList_load_mid rfl 23 _ rfl w.heap.size 0 rfl _ _ HD1.out Tryd.underlying23 rfl (by rw [Array.length_toList, hs1]; exact size32) ?_)
                | (refine wpList_load_mid rfl 23 _ rfl (w.heap.size + 1) 0 rfl _ _ HD2.out Tryd.underlying23 rfl (by rw [Array.length_toList, hs2]; exact size32) ?_)
                | (go_at_call 42; refine HCALL.out.mono ?_; rintro e w3 ⟨rfl, b3⟩; obtain ⟨ca1, ca2, cn1, cn2, ct1, ct2⟩ := HRC.out _ b3)))
            go_ret
            exact ⟨ret_bool (by rw [HRV.out]; rfl), (HF.out.then_below b3).below (fun _ _ e => e)⟩
set_option maxHeartbeats 6400000 in
set_option maxRecDepth 100000 in
theorem VSame_any (T1 T2 : Nat) (hT1 : T1 < big) (hT2 : T2 < big) (A B : Option Addr) (c d : Nat) (p1 p2 : List Nat) (a1 a2 : List UInt8) (n1 n2 : Int) (t1 t2 : List UInt8) (hb1 : ∀ n ∈ p1, n < big) (hb2 : ∀ n ∈ p2, n < big) (hl1 : p1.length ≤ 9223372036854775807) (w : World) (h1 : Lies w A (flatI p1)) (h2 : Lies w B (flatI p2)) :
    Calls Tryd.prog 21 #[.agg (revC T1 (.slice A p1.length c) a1 n1 t1), .agg (revC T2 (.slice B p2.length d) a2 n2 t2)] w fun e w' => e = .returned (.bool (sameR T1 T2 p1 p2 a1 a2 n1 n2 t1 t2)) ∧ Below w.heap.size w w' := by
  (
    obtain ⟨w1, hw1⟩ : ∃ w1, w.alloc (.cells (revC T1 (.slice A p1.length c) a1 n1 t1) 26) = w1 := ⟨_, rfl⟩
    obtain ⟨w2, hw2⟩ : ∃ w2, w1.alloc (.cells (revC T2 (.slice B p2.length d) a2 n2 t2) 26) = w2 := ⟨_, rfl⟩
    have hF1 : Fr (fun _ => False) w w1 := by subst hw1; exact (Fr.refl _ w).alloc _
    have hF2 : Fr (fun _ => False) w1 w2 := by subst hw2; exact (Fr.refl _ w1).alloc _
    have hsz1 : w1.heap.size = w.heap.size + 1 := by subst hw1; exact alloc_size _ _
    have hR1 : RevAt w2 w.heap.size T1 (.slice A p1.length c) a1 n1 t1 := RevAt.fr (by subst hw1; exact RevAt.new w) hF2
    have hR2 : RevAt w2 w1.heap.size T2 (.slice B p2.length d) a2 n2 t2 := by subst hw2; exact RevAt.new w1
    rw [hsz1] at hR2
    have HF := Lib.hid (hF1.trans hF2 (fun _ _ e => e))
    have hc1 := hR1.cv
    have hc2 := hR2.cv
    have hd1 := hR1.id
    have hd2 := hR2.id
    have heq := fun w => eq_nums T1 T2 hT1 hT2 w
    have hcall := GEqI_any A B c d p1 p2 hb1 hb2 hl1 w2 (h1.fr (hF1.trans hF2 (fun _ _ e => e)) (fun _ _ e => e)) (h2.fr (hF1.trans hF2 (fun _ _ e => e)) (fun _ _ e => e))
    have HC1 : Hid (∀ w', Below w2.heap.size w2 w' → RevAt w' w.heap.size T1 (.slice A p1.length c) a1 n1 t1 ∧ RevAt w' (w.heap.size + 1) T2 (.slice B p2.length d) a2 n2 t2) := Lib.hid (fun w' b => ⟨hR1.fr (Fr.of_below b), hR2.fr (Fr.of_below b)⟩)
    have hA : ((strB a1).toList == (strB a2).toList) = (a1 == a2) := str_eq _ _
    have hX : ((strB t1).toList == (strB t2).toList) = (t1 == t2) := str_eq _ _
    have HRV : Hid (sameR T1 T2 p1 p2 a1 a2 n1 n2 t1 t2 = (T1 == T2 && (p1 == p2 && (a1 == a2 && (n1 == n2 && t1 == t2))))) := Lib.hid rfl
    obtain ⟨R, hR⟩ : ∃ R, sameR T1 T2 p1 p2 a1 a2 n1 n2 t1 t2 = R := ⟨_, rfl⟩
    rw [hR] at HRV ⊢
    obtain ⟨b0, hb0⟩ : ∃ b, (T1 == T2) = b := ⟨_, rfl⟩
    obtain ⟨b1, hb1'⟩ : ∃ b, (p1 == p2) = b := ⟨_, rfl⟩
    obtain ⟨b2, hb2'⟩ : ∃ b, (a1 == a2) = b := ⟨_, rfl⟩
    obtain ⟨b3, hb3⟩ : ∃ b, (n1 == n2) = b := ⟨_, rfl⟩
    obtain ⟨b4, hb4⟩ : ∃ b, (t1 == t2) = b := ⟨_, rfl⟩
    rw [hb0, hb1', hb2', hb3, hb4] at HRV
    rw [hb0] at heq
    rw [hb1'] at hcall
    rw [hb2'] at hA
    rw [hb4] at hX
    obtain ⟨x1, hx1⟩ : ∃ x, idC (dgt T1) = x := ⟨_, rfl⟩
    obtain ⟨x2, hx2⟩ : ∃ x, idC (dgt T2) = x := ⟨_, rfl⟩
    have hs1 : x1.size = 32 := by rw [← hx1]; exact idC_size _
    have hs2 : x2.size = 32 := by rw [← hx2]; exact idC_size _
    rw [hx1] at heq hd1
    rw [hx2] at heq hd2
    obtain ⟨r1, hr1⟩ : ∃ c', revC T1 (.slice A p1.length c) a1 n1 t1 = c' := ⟨_, rfl⟩
    obtain ⟨r2, hr2⟩ : ∃ c', revC T2 (.slice B p2.length d) a2 n2 t2 = c' := ⟨_, rfl⟩
    rw [hr1] at hw1 ⊢
    rw [hr2] at hw2 ⊢
    obtain ⟨l1, hl1'⟩ : ∃ n, p1.length = n := ⟨_, rfl⟩
    obtain ⟨l2, hl2'⟩ : ∃ n, p2.length = n := ⟨_, rfl⟩
    rw [hl1'] at hc1 HC1
    rw [hl2'] at hc2 HC1
    rw [hl1', hl2'] at hcall
    have HRC : Hid (∀ w', Below w2.heap.size w2 w' → w'.cell? ⟨w.heap.size, 33, none⟩ = some (.string (strB a1)) ∧ w'.cell? ⟨w.heap.size + 1, 33, none⟩ = some (.string (strB a2)) ∧ w'.cell? ⟨w.heap.size, 34, none⟩ = some (.int .i64 n1) ∧ w'.cell? ⟨w.heap.size + 1, 34, none⟩ = some (.int .i64 n2) ∧ w'.cell? ⟨w.heap.size, 35, none⟩ = some (.string (strB t1)) ∧ w'.cell? ⟨w.heap.size + 1, 35, none⟩ = some (.string (strB t2))) := Lib.hid (fun w' b => by
      obtain ⟨q1, q2⟩ := HC1.out w' b
      exact ⟨q1.ca, q2.ca, q1.cn, q2.cn, q1.ct, q2.ct⟩)
    obtain ⟨S1, hS1⟩ : ∃ S, strB a1 = S := ⟨_, rfl⟩
    obtain ⟨S2, hS2⟩ : ∃ S, strB a2 = S := ⟨_, rfl⟩
    obtain ⟨U1, hU1⟩ : ∃ S, strB t1 = S := ⟨_, rfl⟩
    obtain ⟨U2, hU2⟩ : ∃ S, strB t2 = S := ⟨_, rfl⟩
    rw [hS1, hS2, hU1, hU2] at HRC
    rw [hS1, hS2] at hA
    rw [hU1, hU2] at hX
    have HCALL := Lib.hid hcall
    have HD1 := Lib.hid hd1
    have HD2 := Lib.hid hd2
    clear hcall hd1 hd2 HC1 hR1 hR2 hF1 hF2 hR hb0 hb1' hb2' hb4 hx1 hx2 hr1 hr2 hl1' hl2' hS1 hS2 hU1 hU2 h1 h2 hb1 hb2 hl1 hT1 hT2)
  cases b0
  · clear HCALL HRC hA hX hb3
    go_enter Tryd.func21, Tryd.ntmps21
    go_wp2_with (
      (first
        | (refine wpList_load_mid rfl 23 _ rfl w.heap.size 0 rfl _ _ HD1.out Tryd.underlying23 rfl (by rw [Array.length_toList, hs1]; exact size32) ?_)
        | (refine wpList_load_mid rfl 23 _ rfl (w.heap.size + 1) 0 rfl _ _ HD2.out Tryd.underlying23 rfl (by rw [Array.length_toList, hs2]; exact size32) ?_)
        | (go_at_call 43; refine HCALL.out.mono ?_; rintro e w3 ⟨rfl, b3⟩; obtain ⟨ca1, ca2, cn1, cn2, ct1, ct2⟩ := HRC.out _ b3)))
    go_ret
    exact ⟨ret_bool (by rw [HRV.out]; rfl), HF.out.below (fun _ _ e => e)⟩
  · cases b1
    · clear hA hX hb3
      go_enter Tryd.func21, Tryd.ntmps21
      go_wp2_with (
        (first
          | (refine wpList_load_mid rfl 23 _ rfl w.heap.size 0 rfl _ _ HD1.out Tryd.underlying23 rfl (by rw [Array.length_toList, hs1]; exact size32) ?_)
          | (refine wpList_load_mid rfl 23 _ rfl (w.heap.size + 1) 0 rfl _ _ HD2.out Tryd.underlying23 rfl (by rw [Array.length_toList, hs2]; exact size32) ?_)
          | (go_at_call 43; refine HCALL.out.mono ?_; rintro e w3 ⟨rfl, b3⟩; obtain ⟨ca1, ca2, cn1, cn2, ct1, ct2⟩ := HRC.out _ b3)))
      go_ret
      exact ⟨ret_bool (by rw [HRV.out]; rfl), (HF.out.then_below b3).below (fun _ _ e => e)⟩
    · cases b2
      · have hA2 : ¬ S1.toList = S2.toList := by simpa using hA
        clear hX hb3
        go_enter Tryd.func21, Tryd.ntmps21
        go_wp2_with (
          (first
            | (refine wpList_load_mid rfl 23 _ rfl w.heap.size 0 rfl _ _ HD1.out Tryd.underlying23 rfl (by rw [Array.length_toList, hs1]; exact size32) ?_)
            | (refine wpList_load_mid rfl 23 _ rfl (w.heap.size + 1) 0 rfl _ _ HD2.out Tryd.underlying23 rfl (by rw [Array.length_toList, hs2]; exact size32) ?_)
            | (go_at_call 43; refine HCALL.out.mono ?_; rintro e w3 ⟨rfl, b3⟩; obtain ⟨ca1, ca2, cn1, cn2, ct1, ct2⟩ := HRC.out _ b3)))
        go_ret
        exact ⟨ret_bool (by rw [HRV.out]; rfl), (HF.out.then_below b3).below (fun _ _ e => e)⟩
      · have hA2 : S1.toList = S2.toList := by simpa using hA
        clear hA
        cases b3
        · have hn2 : ¬ n1 = n2 := by simpa using hb3
          clear hX
          go_enter Tryd.func21, Tryd.ntmps21
          go_wp2_with (
            (first
              | (refine wpList_load_mid rfl 23 _ rfl w.heap.size 0 rfl _ _ HD1.out Tryd.underlying23 rfl (by rw [Array.length_toList, hs1]; exact size32) ?_)
              | (refine wpList_load_mid rfl 23 _ rfl (w.heap.size + 1) 0 rfl _ _ HD2.out Tryd.underlying23 rfl (by rw [Array.length_toList, hs2]; exact size32) ?_)
              | (go_at_call 43; refine HCALL.out.mono ?_; rintro e w3 ⟨rfl, b3⟩; obtain ⟨ca1, ca2, cn1, cn2, ct1, ct2⟩ := HRC.out _ b3)))
          go_ret
          exact ⟨ret_bool (by rw [HRV.out]; rfl), (HF.out.then_below b3).below (fun _ _ e => e)⟩
        · obtain rfl : n1 = n2 := by simpa using hb3
          clear hb3
          cases b4
          · have hX2 : ¬ U1.toList = U2.toList := by simpa using hX
            go_enter Tryd.func21, Tryd.ntmps21
            go_wp2_with (
              (first
                | (refine wpList_load_mid rfl 23 _ rfl w.heap.size 0 rfl _ _ HD1.out Tryd.underlying23 rfl (by rw [Array.length_toList, hs1]; exact size32) ?_)
                | (refine wpList_load_mid rfl 23 _ rfl (w.heap.size + 1) 0 rfl _ _ HD2.out Tryd.underlying23 rfl (by rw [Array.length_toList, hs2]; exact size32) ?_)
                | (go_at_call 43; refine HCALL.out.mono ?_; rintro e w3 ⟨rfl, b3⟩; obtain ⟨ca1, ca2, cn1, cn2, ct1, ct2⟩ := HRC.out _ b3)))
            go_ret
            exact ⟨ret_bool (by rw [HRV.out]; rfl), (HF.out.then_below b3).below (fun _ _ e => e)⟩
          · have hX2 : U1.toList = U2.toList := by simpa using hX
            clear hX
            go_enter Tryd.func21, Tryd.ntmps21
            go_wp2_with (
              (first
                | (refine wpList_load_mid rfl 23 _ rfl w.heap.size 0 rfl _ _ HD1.out Tryd.underlying23 rfl (by rw [Array.length_toList, hs1]; exact size32) ?_)
                | (refine wpList_load_mid rfl 23 _ rfl (w.heap.size + 1) 0 rfl _ _ HD2.out Tryd.underlying23 rfl (by rw [Array.length_toList, hs2]; exact size32) ?_)
                | (go_at_call 43; refine HCALL.out.mono ?_; rintro e w3 ⟨rfl, b3⟩; obtain ⟨ca1, ca2, cn1, cn2, ct1, ct2⟩ := HRC.out _ b3)))
            go_ret
            exact ⟨ret_bool (by rw [HRV.out]; rfl), (HF.out.then_below b3).below (fun _ _ e => e)⟩
end Go.Proofs.YtppddpbacpeadaaDoor

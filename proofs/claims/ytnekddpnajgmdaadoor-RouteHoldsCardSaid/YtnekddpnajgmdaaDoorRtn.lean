/- What is proved: for how many first parts a pattern stands, and whether some first parts of it stand for all, by the program. Conditions: the lists are there. -/
import Derived.Test.YtnekddpnajgmdaaDoorRtm
namespace Go.Proofs.YtnekddpnajgmdaaDoor
open Go.RowKit
set_option linter.unusedVariables false

/-- Whether some of the first i parts, taken as a beginning, stand for all. -/
def allB (P L : List (List UInt8)) (i : Nat) : Bool := (List.range (i + 1)).any fun j => standB (P.take j) L
theorem all_succ (P L : List (List UInt8)) (i : Nat) : allB P L (i + 1) = (allB P L i || standB (P.take (i + 1)) L) := by
  unfold allB
  rw [List.range_succ (n := i + 1), List.any_append]
  simp
theorem row_end (P L : List (List UInt8)) : rowB P L L.length = standB P L := by rw [rowB, List.take_length]

/-- What stands at the head of a round of stand. -/
structure SdRel (w0 : World) (ga gb : Nat) (R : Nat → Bool) (m : Nat) (wr : World) : Prop where
  ends : Whole wr ga 4 (tabC R m)
  next : ∃ T, Whole wr gb 4 (tabC T m)
  old : Fr (fun _ => False) w0 wr
  ne : ga ≠ gb
  la : w0.heap.size ≤ ga
  lb : w0.heap.size ≤ gb

set_option maxHeartbeats 6400000 in
theorem Rtstand_any (P L : List (List UInt8)) (hP : P.length ≤ 900000) (hL : L.length ≤ 900000) (hp : ∀ k, k < P.length → (P.getD k []).length ≤ 900000) (hs : ∀ k, k < L.length → (L.getD k []).length ≤ 900000)
    (A A' : Option Addr) (c c' : Nat) (w : World) (hl' : Lies w A' (strV P)) (hl : Lies w A (strV L)) :
    Calls Tryd.prog 45 #[.slice A' P.length c', .slice A L.length c] w fun e w' =>
      ∃ g, e = .returned (.tuple #[.slice (some ⟨g, 0, none⟩) (L.length + 1) (L.length + 1), .bool (allB P L P.length)]) ∧ Whole w' g 4 (tabC (rowB P L) (L.length + 1)) ∧ Below w.heap.size w w' := by
  have HP := Lib.hid (fun w' (f : Fr (fun _ => False) w w') => lies_str hl' f)
  have HSt := Lib.hid (fun k (hk : k < P.length) P' f g w' hfg hg0 h => Rtstep_any (P.getD k []) P' L (hp k hk) hL hs A c f g w w' hl hfg hg0 h)
  have hmk := fun w => make_bools (L.length + 1) (by omega) w
  rw [Int.natCast_add, Int.natCast_one] at hmk
  obtain ⟨n, hn⟩ : ∃ n, L.length = n := ⟨_, rfl⟩
  obtain ⟨m, hm⟩ : ∃ n, P.length = n := ⟨_, rfl⟩
  have HNn := Lib.hid hn
  have HMm := Lib.hid hm
  rw [hn] at hL hmk HSt ⊢
  rw [hm] at hP HP HSt ⊢
  -- the two new rows
  have hA1 : Whole ((w.alloc (.cells (tabC (fun _ => false) (n + 1)) 4)).alloc (.cells (tabC (fun _ => false) (n + 1)) 4)) w.heap.size 4 (tabC (fun _ => false) (n + 1)) :=
    (Whole.new w 4 _).fr ((Fr.refl (fun _ => False) _).alloc _) (fun e => e)
  have c0 := hA1.tcell 0 (by omega)
  have f0 := hA1.frozen 0
  have h0 : (tabC (fun _ => false) (n + 1)).setIfInBounds 0 (.bool true) = tabC (rowB [] L) (n + 1) := by
    rw [tabC_set _ _ 0 _ (by omega)]
    refine tabC_congr (fun k hk => ?_)
    rw [row_zero L k (by rw [HNn.out]; omega)]
    by_cases e : k = 0
    · simp [e]
    · simp [e]
  have hz := tabC_get (rowB [] L) (n + 1) n (by omega)
  rw [← h0] at hz
  have hal : allB P L 0 = rowB [] L n := by
    rw [← HNn.out, row_end]
    simp [allB]
  have HW : Hid (SdRel w w.heap.size (w.heap.size + 1) (rowB (P.take 0) L) (n + 1) ((w.alloc (.cells ((tabC (fun _ => false) (n + 1)).setIfInBounds 0 (.bool true)) 4)).alloc (.cells (tabC (fun _ => false) (n + 1)) 4))) := Lib.hid (by
    refine ⟨?_, ⟨fun _ => false, ?_⟩, ((Fr.refl _ w).alloc _).alloc _, by omega, Nat.le_refl _, by omega⟩
    · rw [h0, List.take_zero]
      exact (Whole.new w 4 _).fr ((Fr.refl (fun _ => False) _).alloc _) (fun e => e)
    · have e : (w.alloc (.cells ((tabC (fun _ => false) (n + 1)).setIfInBounds 0 (.bool true)) 4)).heap.size = w.heap.size + 1 := by simp
      have := Whole.new (w.alloc (.cells ((tabC (fun _ => false) (n + 1)).setIfInBounds 0 (.bool true)) 4)) 4 (tabC (fun _ => false) (n + 1))
      rwa [e] at this)
  obtain ⟨Z, hZ⟩ : ∃ Z, tabC (fun _ => false) (n + 1) = Z := ⟨_, rfl⟩
  obtain ⟨b0, hb0⟩ : ∃ b, rowB [] L n = b := ⟨_, rfl⟩
  rw [hb0] at hz hal
  rw [hZ] at hmk hA1 c0 f0 hz HW
  have HAL := Lib.hid hal
  clear hl hl' hp hs hn hm hZ h0 hb0 hal hA1
  go_enter Tryd.func45, Tryd.ntmps45
  go_wp2
  clear c0 f0 hz hmk
  go_loopw [4, 5, 6, 26] (fun s4 s5 s6 s26 wr => ∃ i ga gb : Nat, i ≤ m ∧ s26 = .int .i64 i ∧ s4 = .slice (some ⟨ga, 0, none⟩) (n + 1) (n + 1) ∧ s6 = .slice (some ⟨gb, 0, none⟩) (n + 1) (n + 1) ∧ s5 = .bool (allB P L i) ∧ SdRel w ga gb (rowB (P.take i) L) (n + 1) wr) (fun _ _ _ s26 _ => m - (intOf s26).toNat)
  case atStart => exact ⟨0, w.heap.size, w.heap.size + 1, by omega, rfl, rfl, rfl, by rw [HAL.out], HW.out⟩
  case round =>
    obtain ⟨i, ga, gb, hi, rfl, rfl, rfl, rfl, hr⟩ := hrel
    have HR := Lib.hid hr
    by_cases hlt : i < m
    · obtain ⟨T, hT⟩ := hr.next
      have HT := Lib.hid hT
      obtain ⟨bb, o, rfl, hc⟩ := HP.out wr hr.old i hlt
      have HS := HSt.out i hlt (P.take i) ga gb
      have hsu := all_succ P L i
      rw [part_take P i (by rw [HMm.out]; exact hlt)] at hsu
      have hen := row_end (P.take i ++ [P.getD i []]) L
      rw [HNn.out] at hen
      rw [← hen] at hsu
      have HPT := Lib.hid (part_take P i (by rw [HMm.out]; exact hlt))
      obtain ⟨x, hx⟩ : ∃ x, P.getD i [] = x := ⟨_, rfl⟩
      rw [hx] at hc HS hsu HPT
      have hq := HPT.out
      obtain ⟨Pi, hPi⟩ : ∃ Q, P.take i ++ [x] = Q := ⟨_, rfl⟩
      rw [hPi] at HS hsu HPT
      obtain ⟨X, hX⟩ : ∃ X, strB x = X := ⟨_, rfl⟩
      rw [hX] at hc HS
      obtain ⟨b5, hb5⟩ : ∃ b, allB P L i = b := ⟨_, rfl⟩
      rw [hb5] at hsu ⊢
      have HSU := Lib.hid hsu
      have HSs := Lib.hid HS
      clear hr hT hx hX hb5 hsu hen HS hq hPi
      cases b5
      · go_wp2_with (first
          | (have HX := Lib.hid (show StRel w w2 ga gb (rowB (P.take i) L) (fun _ => false) (n + 1) w2 from ⟨HR.out.ends.fr f2 HR.out.ne, h2, HR.out.old.trans f2 (fun k hk e => by have := HR.out.lb; omega), Fr.refl _ _⟩)
             go_at_call 59; refine (HSs.out w2 HR.out.ne HR.out.lb HX.out).mono ?_; rintro e w3 ⟨rfl, h3⟩
             have c3 := h3.dst.tcell n (by omega)
             have H3 := Lib.hid h3
             clear h3 f2 h2)
          | (refine wpList_clear_bools rfl (.tmp 30) rfl gb (n + 1) (n + 1) T rfl HT.out (by omega) ?_
             intro w2 h2 f2))
        have HN : Hid (SdRel w gb ga (rowB (P.take (i + 1)) L) (n + 1) w3) := Lib.hid ⟨by rw [HPT.out]; exact H3.out.dst, ⟨_, H3.out.src⟩, H3.out.old, fun e => HR.out.ne e.symm, HR.out.lb, HR.out.la⟩
        go_roundw
        case rel => exact ⟨i + 1, gb, ga, by omega, by go_num, rfl, rfl, by rw [HSU.out]; rfl, HN.out⟩
        case measure => simp [intOf]; omega
      · go_wp2_with (first
          | (have HX := Lib.hid (show StRel w w2 ga gb (rowB (P.take i) L) (fun _ => false) (n + 1) w2 from ⟨HR.out.ends.fr f2 HR.out.ne, h2, HR.out.old.trans f2 (fun k hk e => by have := HR.out.lb; omega), Fr.refl _ _⟩)
             go_at_call 59; refine (HSs.out w2 HR.out.ne HR.out.lb HX.out).mono ?_; rintro e w3 ⟨rfl, h3⟩
             have H3 := Lib.hid h3
             clear h3 f2 h2)
          | (refine wpList_clear_bools rfl (.tmp 30) rfl gb (n + 1) (n + 1) T rfl HT.out (by omega) ?_
             intro w2 h2 f2))
        have HN : Hid (SdRel w gb ga (rowB (P.take (i + 1)) L) (n + 1) w3) := Lib.hid ⟨by rw [HPT.out]; exact H3.out.dst, ⟨_, H3.out.src⟩, H3.out.old, fun e => HR.out.ne e.symm, HR.out.lb, HR.out.la⟩
        go_roundw
        case rel => exact ⟨i + 1, gb, ga, by omega, by go_num, rfl, rfl, by rw [HSU.out]; rfl, HN.out⟩
        case measure => simp [intOf]; omega
    · obtain rfl : i = m := by omega
      have HB := Lib.hid (hr.old.below (fun _ _ e => e))
      have hends := hr.ends
      rw [← HMm.out, List.take_length] at hends
      have HE := Lib.hid hends
      obtain ⟨b5, hb5⟩ : ∃ b, allB P L i = b := ⟨_, rfl⟩
      have HB5 := Lib.hid hb5
      rw [hb5]
      clear hr hends hb5
      go_wp2_with fail
      go_ret2
      exact ⟨ga, by rw [HB5.out]; rfl, HE.out, HB.out⟩
end Go.Proofs.YtnekddpnajgmdaaDoor

/- What is proved: whether an id stands in a list, by the library; whether two of a list are one, by the program. Conditions: the list's cells are there. -/
import Derived.Test.YtppddpbacpeadaaDoorRvf
import Derived.Test.YtppddpbacpeadaaDoorIdf
namespace Go.Proofs.YtppddpbacpeadaaDoor
open Go.RowKit Go.Sort Go.Shelf
open Ids (idC dgt big idC_size idC_get idC_one cellD zero32 size32 dgt_lt eq_nums)
set_option linter.unusedVariables false

def idxN (l : List Nat) (x : Nat) : Int := if l.contains x then ((l.idxOf x : Nat) : Int) else -1
theorem idxN_at (l : List Nat) (x k : Nat) (hk : k < l.length) (h : ∀ j, j < k → gt l j ≠ x) (he : gt l k = x) : idxN l x = k := by
  have hm : x ∈ l := by rw [← he]; exact gt_mem l k hk
  rw [idxN, if_pos (by simpa using hm)]
  congr 1
  have h1 : l.idxOf x < l.length := List.idxOf_lt_length_of_mem hm
  have h2 : gt l (l.idxOf x) = x := by
    rw [gt, List.getD_eq_getElem?_getD, List.getElem?_eq_getElem h1]
    simp
  rcases Nat.lt_trichotomy (l.idxOf x) k with h3 | h3 | h3
  · exact absurd h2 (h _ h3)
  · exact h3
  · exfalso
    have : l.idxOf x ≤ k := by
      rw [gt, List.getD_eq_getElem?_getD, List.getElem?_eq_getElem hk] at he
      simp only [Option.getD_some] at he
      rw [List.idxOf]
      apply Classical.byContradiction
      intro hn
      have := List.not_of_lt_findIdx (p := fun y => y == x) (xs := l) (i := k) (by omega)
      rw [he] at this
      simp at this
    omega
theorem idxN_none (l : List Nat) (x : Nat) (h : ∀ j, j < l.length → gt l j ≠ x) : idxN l x = -1 := by
  rw [idxN, if_neg]
  intro hc
  have hm : x ∈ l := by simpa using hc
  obtain ⟨j, hj, e⟩ := List.getElem_of_mem hm
  refine h j hj ?_
  rw [gt, List.getD_eq_getElem?_getD, List.getElem?_eq_getElem hj]
  exact e
theorem idxN_ge (l : List Nat) (x : Nat) : decide (0 ≤ idxN l x) = l.contains x := by
  unfold idxN
  split
  · rename_i h; rw [h]; simp
  · rename_i h
    have : l.contains x = false := by simpa using h
    rw [this]; rfl
theorem wrap_k1 (k : Nat) (h : k ≤ 9223372036854775806) : IntKind.i64.wrap ((k : Int) + 1) = ((k + 1 : Nat) : Int) := by rw [IntKind.wrap_i64]; omega

set_option maxHeartbeats 3200000 in
set_option maxRecDepth 100000 in
theorem GIdxI_any (A : Option Addr) (c : Nat) (l : List Nat) (x : Nat) (hb : ∀ n ∈ l, n < big) (hx : x < big) (hn : l.length ≤ 1000000) (w : World) (h1 : Lies w A (flatI l)) :
    Calls Tryd.prog 60 #[.slice A l.length c, .agg (idC (dgt x))] w fun e w' => e = .returned (.int .i64 (idxN l x)) ∧ Below w.heap.size w w' := by
  have HL1 := Lib.hid h1
  have HB := Lib.hid hb
  have HX := Lib.hid hx
  obtain ⟨L, hL⟩ : ∃ L, l.length = L := ⟨_, rfl⟩
  have HLn := Lib.hid hL
  obtain ⟨w1, hw1⟩ : ∃ w1, w.alloc (.cells (idC (dgt x)) 23) = w1 := ⟨_, rfl⟩
  have HF : Hid (Fr (fun _ => False) w w1) := Lib.hid (by subst hw1; exact (Fr.refl _ w).alloc _)
  have HS : Hid (Whole w1 w.heap.size 23 (idC (dgt x))) := Lib.hid (by subst hw1; exact Whole.new w 23 _)
  obtain ⟨T32, hT32⟩ : ∃ T : TypeId, T = 23 := ⟨_, rfl⟩
  obtain ⟨n32, hn32⟩ : ∃ n : Nat, n = 32 := ⟨_, rfl⟩
  have ag32 : ∀ w, (isAgg T32).run Tryd.prog w = .ok true w := by rw [hT32]; exact fun _ => by kernel_rfl
  have sz32 : ∀ w, (sizeOf T32).run Tryd.prog w = .ok n32 w := by rw [hT32, hn32]; exact fun _ => by kernel_rfl
  have HN32 := Lib.hid hn32
  have HAT := Lib.hid (fun k hk h he => idxN_at l x k hk h he)
  have HNO := Lib.hid (idxN_none l x)
  obtain ⟨R, hR⟩ : ∃ R, idxN l x = R := ⟨_, rfl⟩
  rw [hR] at HAT HNO
  obtain ⟨cx, hcx⟩ : ∃ c, idC (dgt x) = c := ⟨_, rfl⟩
  have HCX := Lib.hid hcx
  rw [hcx] at hw1 HS
  rw [hL, hR, hcx]
  rw [hL] at hn HAT HNO
  clear h1 hb hx hL hn32 hcx hR
  go_enter Tryd.func60, Tryd.ntmps60
  rw [show Op.load 23 (.tmp 3) = Op.load T32 (.tmp 3) by rw [hT32], show Op.load 23 (.tmp 14) = Op.load T32 (.tmp 14) by rw [hT32]]
  clear hT32
  go_wp2
  go_loopw [8] (fun i wr => ∃ k : Nat, k ≤ L ∧ i = .int .i64 k ∧ Hid (∀ j, j < k → gt l j ≠ x) ∧ Fr (fun _ => False) w1 wr) (fun i _ => L - (intOf i).toNat)
  case atStart => exact ⟨0, by omega, rfl, Lib.hid (fun j hj => by omega), Fr.refl _ _⟩
  case round =>
    obtain ⟨k, hk, rfl, HJ, hf⟩ := hrel
    have HFr := Lib.hid hf
    by_cases hlt : k < L
    · obtain ⟨b, o, hA⟩ := HL1.out.some_of (by rw [HLn.out]; omega)
      subst hA
      have hka := gt_some l k (by rw [HLn.out]; exact hlt)
      have hma := HB.out _ (gt_mem l k (by rw [HLn.out]; exact hlt))
      have l1 : ∀ q : Later wr, (loadCellsFrom ⟨b, o + k * 32, none⟩ 0 n32 #[]).run Tryd.prog q.w' = .ok (idC (dgt (gt l k))) q.w' := fun q => by rw [HN32.out]; exact load_at HL1.out hka ((HF.out.trans HFr.out (fun _ _ e => e)).trans q.fr (fun _ _ e => e))
      have l2 : ∀ q : Later wr, (loadCellsFrom ⟨w.heap.size, 0, none⟩ 0 n32 #[]).run Tryd.prog q.w' = .ok cx q.w' := fun q => load_mid HS.out (HFr.out.trans q.fr (fun _ _ e => e)) (by rw [HN32.out, ← HCX.out, idC_size]) (fun j v hv => by rw [Nat.zero_add, ← hv, Array.getElem?_toList])
      have heq := fun w => eq_nums x (gt l k) HX.out hma w
      rw [HCX.out] at heq
      obtain ⟨ca1, hca⟩ : ∃ c, idC (dgt (gt l k)) = c := ⟨_, rfl⟩
      rw [hca] at l1 heq
      obtain ⟨s, hs⟩ : ∃ s, (x == gt l k) = s := ⟨_, rfl⟩
      rw [hs] at heq
      have HSs := Lib.hid hs
      have hk0 : (k : Int) < L := by omega
      have wk := wrap_n k (by omega)
      have wk1 := wrap_k1 k (by omega)
      clear hka hma hca hf hs
      cases s
      · have HNE : Hid (gt l k ≠ x) := Lib.hid (fun e => by have := HSs.out; rw [e] at this; simp at this)
        go_wp2_with fail
        refine wp_region_later (w0 := wr) (Fr.refl _ _) (by kernel_rfl) (by kernel_rfl) ?_
        repeat (quiet_step (fail))
        refine wpQuiet_nil ?_
        intro _ hw'
        obtain ⟨q, hw''⟩ := hw'
        subst hw''
        go_wp2_with fail
        go_roundw
        case rel => exact ⟨k + 1, by omega, by go_num, Lib.hid (fun j hj => by
          rcases Nat.lt_or_ge j k with h | h
          · exact HJ.out j h
          · obtain rfl : j = k := by omega
            exact HNE.out), HFr.out.trans q.fr (fun _ _ e => e)⟩
        case measure => simp [intOf]; omega
      · have HR : Hid (R = k) := Lib.hid (HAT.out k hlt HJ.out (by have := HSs.out; exact (eq_of_beq this).symm))
        go_wp2_with fail
        refine wp_region_later (w0 := wr) (Fr.refl _ _) (by kernel_rfl) (by kernel_rfl) ?_
        repeat (quiet_step (fail))
        refine wpQuiet_nil ?_
        intro _ hw'
        obtain ⟨q, hw''⟩ := hw'
        subst hw''
        go_wp2_with fail
        go_ret
        exact ⟨ret_num (by rw [HR.out]), ((HF.out.trans HFr.out (fun _ _ e => e)).trans q.fr (fun _ _ e => e)).below (fun _ _ e => e)⟩
    · obtain rfl : k = L := by omega
      have HR := Lib.hid (HNO.out HJ.out)
      clear hf
      go_wp2_with fail
      go_ret
      exact ⟨ret_num (by rw [HR.out]), (HF.out.trans HFr.out (fun _ _ e => e)).below (fun _ _ e => e)⟩
set_option maxHeartbeats 1000000 in
theorem GContI_any (A : Option Addr) (c : Nat) (l : List Nat) (x : Nat) (hb : ∀ n ∈ l, n < big) (hx : x < big) (hn : l.length ≤ 1000000) (w : World) (h1 : Lies w A (flatI l)) :
    Calls Tryd.prog 47 #[.slice A l.length c, .agg (idC (dgt x))] w fun e w' => e = .returned (.bool (l.contains x)) ∧ Below w.heap.size w w' := by
  obtain ⟨w1, hw1⟩ : ∃ w1, w.alloc (.cells (idC (dgt x)) 23) = w1 := ⟨_, rfl⟩
  have hF : Fr (fun _ => False) w w1 := by subst hw1; exact (Fr.refl _ w).alloc _
  have HF := Lib.hid hF
  have HS : Hid (Whole w1 w.heap.size 23 (idC (dgt x))) := Lib.hid (by subst hw1; exact Whole.new w 23 _)
  have HC := Lib.hid (GIdxI_any A c l x hb hx hn w1 (h1.fr hF (fun _ _ e => e)))
  rw [← idxN_ge]
  have hcs := idC_size (dgt x)
  obtain ⟨r, hr⟩ : ∃ r, idxN l x = r := ⟨_, rfl⟩
  obtain ⟨cx, hcx⟩ : ∃ c, idC (dgt x) = c := ⟨_, rfl⟩
  obtain ⟨L, hL⟩ : ∃ L, l.length = L := ⟨_, rfl⟩
  rw [hr, hcx, hL] at HC
  rw [hcx] at hw1 HS hcs
  rw [hr, hcx, hL]
  clear hr hcx hL hb hn h1 hF
  go_enter Tryd.func47, Tryd.ntmps47
  go_wp2_with (first
    | (refine wpList_load_row rfl 23 _ rfl _ rfl 23 _ _ _ HS.out Tryd.underlying23 rfl (by rw [hcs]; exact size32) ?_)
    | (go_at_call 60; refine HC.out.mono ?_; rintro e w' ⟨rfl, bb⟩))
  go_ret
  exact ⟨rfl, (HF.out.then_below bb).below (fun _ _ e => e)⟩

/-- Whether two of a list are one. -/
def twN (l : List Nat) : Bool := (List.range l.length).any fun k => (l.take k).contains (gt l k)
theorem twN_at (l : List Nat) (k : Nat) (hk : k < l.length) (h : (l.take k).contains (gt l k) = true) : twN l = true := by
  rw [twN, List.any_eq_true]
  exact ⟨k, List.mem_range.2 hk, h⟩
theorem twN_none (l : List Nat) (h : ∀ j, j < l.length → (l.take j).contains (gt l j) = false) : twN l = false := by
  rw [twN, List.any_eq_false]
  intro j hj
  rw [h j (List.mem_range.1 hj)]
  decide
set_option maxHeartbeats 3200000 in
set_option maxRecDepth 100000 in
theorem Vtwice_any (A : Option Addr) (c : Nat) (l : List Nat) (hc : l.length ≤ c) (hb : ∀ n ∈ l, n < big) (hn : l.length ≤ 1000000) (w : World) (h1 : Lies w A (flatI l)) :
    Calls Tryd.prog 33 #[.slice A l.length c] w fun e w' => e = .returned (.bool (twN l)) ∧ Below w.heap.size w w' := by
  have HL1 := Lib.hid h1
  have HB := Lib.hid hb
  obtain ⟨L, hL⟩ : ∃ L, l.length = L := ⟨_, rfl⟩
  have HLn := Lib.hid hL
  have HAT := Lib.hid (fun k hk h => twN_at l k hk h)
  have HNO := Lib.hid (twN_none l)
  obtain ⟨R, hR⟩ : ∃ R, twN l = R := ⟨_, rfl⟩
  rw [hR] at HAT HNO
  have HCc := Lib.hid hc
  obtain ⟨T32, hT32⟩ : ∃ T : TypeId, T = 23 := ⟨_, rfl⟩
  obtain ⟨n32, hn32⟩ : ∃ n : Nat, n = 32 := ⟨_, rfl⟩
  have ag32 : ∀ w, (isAgg T32).run Tryd.prog w = .ok true w := by rw [hT32]; exact fun _ => by kernel_rfl
  have sz32 : ∀ w, (sizeOf T32).run Tryd.prog w = .ok n32 w := by rw [hT32, hn32]; exact fun _ => by kernel_rfl
  have HN32 := Lib.hid hn32
  rw [hL, hR]
  rw [hL] at hn HAT HNO
  rw [hL] at HCc
  clear h1 hb hL hR hc hn32
  go_enter Tryd.func33, Tryd.ntmps33
  rw [show Op.load 23 (.tmp 4) = Op.load T32 (.tmp 4) by rw [hT32]]
  clear hT32
  go_wp2
  go_loopw [7] (fun i wr => ∃ k : Nat, k ≤ L ∧ i = .int .i64 k ∧ Hid (∀ j, j < k → (l.take j).contains (gt l j) = false) ∧ Fr (fun _ => False) w wr) (fun i _ => L - (intOf i).toNat)
  case atStart => exact ⟨0, by omega, rfl, Lib.hid (fun j hj => by omega), Fr.refl _ _⟩
  case round =>
    obtain ⟨k, hk, rfl, HJ, hf⟩ := hrel
    obtain ⟨wo, rfl⟩ : ∃ wo, wo = wr := ⟨wr, rfl⟩
    have HFr := Lib.hid hf
    by_cases hlt : k < L
    · obtain ⟨b, o, hA⟩ := HL1.out.some_of (by rw [HLn.out]; omega)
      subst hA
      have hka := gt_some l k (by rw [HLn.out]; exact hlt)
      have hma := HB.out _ (gt_mem l k (by rw [HLn.out]; exact hlt))
      have hld : ∀ q : Later wo, (loadCellsFrom ⟨b, o + k * 32, none⟩ 0 32 #[]).run Tryd.prog q.w' = .ok (idC (dgt (gt l k))) q.w' := fun q => load_at HL1.out hka (HFr.out.trans q.fr (fun _ _ e => e))
      have hrg : Hid (wo.rangeAt b (o + k * 32) (idC (dgt (gt l k))).toList) := Lib.hid (range_at HL1.out hka HFr.out)
      have hsl := fun w => slice_hd (some ⟨b, o, none⟩) (.inr ⟨b, o, rfl⟩) L c k (by have := HCc.out; omega) w
      have hlen : (l.take k).length = k := by rw [List.length_take, HLn.out]; omega
      have HC := Lib.hid (fun (w' : World) (f : Fr (fun _ => False) w w') => GContI_any (some ⟨b, o, none⟩) c (l.take k) (gt l k) (fun n hn => HB.out n (List.mem_of_mem_take hn)) hma (by rw [hlen]; omega) w' (by rw [flatI_take]; exact (HL1.out.fr f (fun _ _ e => e)).take _))
      rw [hlen] at HC
      obtain ⟨s, hs⟩ : ∃ s, (l.take k).contains (gt l k) = s := ⟨_, rfl⟩
      rw [hs] at HC
      have HSs := Lib.hid hs
      have hcs := idC_size (dgt (gt l k))
      have hco := idC_one (dgt (gt l k))
      obtain ⟨cx, hcx⟩ : ∃ c, idC (dgt (gt l k)) = c := ⟨_, rfl⟩
      rw [hcx] at hld hrg HC hcs hco
      have hk0 : (k : Int) < L := by omega
      have wk := wrap_n k (by omega)
      have wk1 := wrap_k1 k (by omega)
      obtain ⟨Z, hZ⟩ : ∃ Z, Z = zero32 := ⟨_, rfl⟩
      clear hka hma hcx hf hs hlen hld
      go_wp2_with (first
        | (refine wpList_load_mid rfl 23 _ rfl b (o + k * 32) rfl _ _ hrg.out Tryd.underlying23 rfl (by rw [Array.length_toList, hcs]; exact size32) ?_)
        | (refine wpList_store_at rfl 23 _ _ rfl wo.heap.size 0 23 _ cx rfl rfl (Whole.new wo 23 zero32) (by rw [hcs]; decide) (by rw [hcs]; exact size32) hco ?_
           intro w4 hw4 hf4
           rw [laidAt_all _ _ (by rw [hcs]; rfl)] at hw4))
      have F4 : Hid (Fr (fun _ => False) w w4) := Lib.hid (HFr.out.trans (((Fr.refl (fun _ => False) wo).alloc _).trans hf4 (fun i hi e => by omega) : Fr (fun _ => False) wo w4) (fun _ _ e => e))
      have l2 : ∀ q : Later w4, (loadCellsFrom ⟨wo.heap.size, 0, none⟩ 0 n32 #[]).run Tryd.prog q.w' = .ok cx q.w' := fun q => load_mid hw4 q.fr (by rw [HN32.out, hcs]) (fun j v hv => by rw [Nat.zero_add, ← hv, Array.getElem?_toList])
      clear hf4 hw4
      refine wp_region_later (w0 := w4) (Fr.refl _ _) (by kernel_rfl) (by kernel_rfl) ?_
      repeat (quiet_step ((go_at_call 47; refine Calls.later_of (HC.out _ (F4.out.trans (Later.fr _) (fun _ _ e => e))))))
      refine wpQuiet_nil ?_
      intro _ hw'
      obtain ⟨q, hw''⟩ := hw'
      subst hw''
      cases s
      · go_wp2_with fail
        go_roundw
        case rel => exact ⟨k + 1, by omega, by go_num, Lib.hid (fun j hj => by
          rcases Nat.lt_or_ge j k with h | h
          · exact HJ.out j h
          · obtain rfl : j = k := by omega
            exact HSs.out), F4.out.trans q.fr (fun _ _ e => e)⟩
        case measure => simp [intOf]; omega
      · have HR := Lib.hid (HAT.out k hlt HSs.out)
        go_wp2_with fail
        go_ret
        exact ⟨ret_bool (by rw [HR.out]), (F4.out.trans q.fr (fun _ _ e => e)).below (fun _ _ e => e)⟩
    · obtain rfl : k = L := by omega
      have HR := Lib.hid (HNO.out HJ.out)
      clear hf
      go_wp2_with fail
      go_ret
      exact ⟨ret_bool (by rw [HR.out]), HFr.out.below (fun _ _ e => e)⟩
end Go.Proofs.YtppddpbacpeadaaDoor

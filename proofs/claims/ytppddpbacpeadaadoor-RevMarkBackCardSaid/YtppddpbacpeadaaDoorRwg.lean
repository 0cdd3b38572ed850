/- What is proved: whether two lists of ids are one, by the library and by the document; whether two commits are one in all fields, by both. Conditions: the lists' cells are there. -/
import Derived.Test.YtppddpbacpeadaaDoorRwe
namespace Go.Proofs.YtppddpbacpeadaaDoor
open Go.RowKit Go.Sort Go.Shelf
open Ids (idC dgt big idC_size idC_get idC_one cellD zero32 size32 dgt_lt hexB eq_nums)
set_option linter.unusedVariables false

theorem ids_ne_len {a b : List Nat} (h : a.length ≠ b.length) : (a == b) = false := by
  rw [beq_eq_false_iff_ne]
  exact fun e => h (by rw [e])
theorem ids_ne_at {a b : List Nat} {k : Nat} (ha : k < a.length) (hb : k < b.length) (h : gt a k ≠ gt b k) : (a == b) = false := by
  rw [beq_eq_false_iff_ne]
  exact fun e => h (by rw [e])
theorem ids_eq_all {a b : List Nat} (h : a.length = b.length) (h2 : ∀ j, j < a.length → gt a j = gt b j) : (a == b) = true := by
  rw [beq_iff_eq]
  apply List.ext_getElem h
  intro i h1 h2'
  have := h2 i h1
  rwa [gt, gt, List.getD_eq_getElem?_getD, List.getD_eq_getElem?_getD, List.getElem?_eq_getElem h1, List.getElem?_eq_getElem h2'] at this

set_option maxHeartbeats 3200000 in
set_option maxRecDepth 100000 in
theorem GEqI_any (A B : Option Addr) (c d : Nat) (a b : List Nat) (hba : ∀ n ∈ a, n < big) (hbb : ∀ n ∈ b, n < big) (hla : a.length ≤ 9223372036854775807) (w : World) (h1 : Lies w A (flatI a)) (h2 : Lies w B (flatI b)) :
    Calls Tryd.prog 43 #[.slice A a.length c, .slice B b.length d] w fun e w' => e = .returned (.bool (a == b)) ∧ Below w.heap.size w w' := by
  (
    have HL1 := Lib.hid h1
    have HL2 := Lib.hid h2
    have HBa := Lib.hid hba
    have HBb := Lib.hid hbb
    have HNE := Lib.hid (fun h => ids_ne_len (a := a) (b := b) h)
    have HNA := Lib.hid (fun k h1 h2 h => ids_ne_at (a := a) (b := b) (k := k) h1 h2 h)
    have HEA := Lib.hid (fun h h2 => ids_eq_all (a := a) (b := b) h h2)
    obtain ⟨R, hR⟩ : ∃ R, (a == b) = R := ⟨_, rfl⟩
    obtain ⟨n, hn⟩ : ∃ n, a.length = n := ⟨_, rfl⟩
    obtain ⟨m, hm⟩ : ∃ n, b.length = n := ⟨_, rfl⟩
    have HNn := Lib.hid hn
    have HMm := Lib.hid hm
    rw [hR] at HNE HNA HEA
    rw [hn] at HNE HNA HEA hla
    rw [hm] at HNE HNA HEA
    rw [hR, hn, hm]
    obtain ⟨T32, hT32⟩ : ∃ T : TypeId, T = 23 := ⟨_, rfl⟩
    obtain ⟨n32, hn32⟩ : ∃ n : Nat, n = 32 := ⟨_, rfl⟩
    have ag32 : ∀ w, (isAgg T32).run Tryd.prog w = .ok true w := by rw [hT32]; exact fun _ => by kernel_rfl
    have sz32 : ∀ w, (sizeOf T32).run Tryd.prog w = .ok n32 w := by rw [hT32, hn32]; exact fun _ => by kernel_rfl
    have HN32 := Lib.hid hn32
    clear h1 h2 hba hbb hR hn hm hn32)
  by_cases hnm : n = m
  · subst hnm
    clear HNE
    go_enter Tryd.func43, Tryd.ntmps43
    rw [show Op.load 23 (.tmp 18) = Op.load T32 (.tmp 18) by rw [hT32], show Op.load 23 (.tmp 22) = Op.load T32 (.tmp 22) by rw [hT32]]
    clear hT32
    go_wp2
    go_loopw [13] (fun i wr => ∃ k : Nat, k ≤ n ∧ i = .int .i64 k ∧ Hid (∀ j, j < k → gt a j = gt b j) ∧ Fr (fun _ => False) w wr) (fun i _ => n - (intOf i).toNat)
    case atStart => exact ⟨0, by omega, rfl, Lib.hid (fun j hj => by omega), Fr.refl _ _⟩
    case round =>
      (
        obtain ⟨k, hk, rfl, HJ, hf⟩ := hrel
        have HFr := Lib.hid hf
        by_cases hlt : k < n
        · obtain ⟨ba, oa, hA⟩ := HL1.out.some_of (by rw [HNn.out]; omega)
          subst hA
          obtain ⟨bb, ob, hA⟩ := HL2.out.some_of (by rw [HMm.out]; omega)
          subst hA
          have hka := gt_some a k (by rw [HNn.out]; exact hlt)
          have hkb := gt_some b k (by rw [HMm.out]; exact hlt)
          have hma := HBa.out _ (gt_mem a k (by rw [HNn.out]; exact hlt))
          have hmb := HBb.out _ (gt_mem b k (by rw [HMm.out]; exact hlt))
          have l1 : ∀ q : Later wr, (loadCellsFrom ⟨ba, oa + k * 32, none⟩ 0 n32 #[]).run Tryd.prog q.w' = .ok (idC (dgt (gt a k))) q.w' := fun q => by rw [HN32.out]; exact load_at HL1.out hka (HFr.out.trans q.fr (fun _ _ e => e))
          have l2 : ∀ q : Later wr, (loadCellsFrom ⟨bb, ob + k * 32, none⟩ 0 n32 #[]).run Tryd.prog q.w' = .ok (idC (dgt (gt b k))) q.w' := fun q => by rw [HN32.out]; exact load_at HL2.out hkb (HFr.out.trans q.fr (fun _ _ e => e))
          have heq := fun w => eq_nums (gt a k) (gt b k) hma hmb w
          obtain ⟨s, hs⟩ : ∃ s, (gt a k == gt b k) = s := ⟨_, rfl⟩
          rw [hs] at heq
          have HSs := Lib.hid hs
          obtain ⟨c1, hc1⟩ : ∃ c, idC (dgt (gt a k)) = c := ⟨_, rfl⟩
          obtain ⟨c2, hc2⟩ : ∃ c, idC (dgt (gt b k)) = c := ⟨_, rfl⟩
          rw [hc1] at l1 heq
          rw [hc2] at l2 heq
          have hk0 : (k : Int) < n := by omega
          have wk := wrap_n k (by omega)
          have wk1 := wrap_k1 k (by omega)
          clear hka hkb hma hmb hs hc1 hc2 hf
          cases s
          · have HR := Lib.hid (HNA.out k hlt hlt (fun e => by have := HSs.out; rw [e] at this; simp at this))
            go_wp2_with fail
            refine wp_region_later (w0 := wr) (Fr.refl _ _) (by kernel_rfl) (by kernel_rfl) ?_
            repeat (quiet_step (fail))
            refine wpQuiet_nil ?_
            intro _ hw'
            obtain ⟨q, hw''⟩ := hw'
            subst hw''
            go_wp2_with fail
            go_ret
            exact ⟨ret_bool (by rw [HR.out]), (HFr.out.trans q.fr (fun _ _ e => e)).below (fun _ _ e => e)⟩
          · go_wp2_with fail
            refine wp_region_later (w0 := wr) (Fr.refl _ _) (by kernel_rfl) (by kernel_rfl) ?_
            repeat (quiet_step (fail))
            refine wpQuiet_nil ?_
            intro _ hw'
            obtain ⟨q, hw''⟩ := hw'
            subst hw''
            go_wp2_with fail
            go_roundw
            case rel => exact ⟨k + 1, by omega, by go_num, Lib.hid (fun j hj => by
              rcases Nat.lt_or_ge j k with h | h
              · exact HJ.out j h
              · obtain rfl : j = k := by omega
                exact eq_of_beq HSs.out), HFr.out.trans q.fr (fun _ _ e => e)⟩
            case measure => simp [intOf]; omega
        · obtain rfl : k = n := by omega
          have HR := Lib.hid (HEA.out (by first | rfl | trivial) HJ.out)
          clear hf
          go_wp2_with fail
          go_ret
          exact ⟨ret_bool (by rw [HR.out]), HFr.out.below (fun _ _ e => e)⟩)
  · have hne : ((n : Int) == (m : Int)) = false := by rw [beq_eq_false_iff_ne]; omega
    have HR := Lib.hid (HNE.out hnm)
    clear hT32
    go_enter Tryd.func43, Tryd.ntmps43
    go_wp2_with fail
    go_ret
    exact ⟨ret_bool (by rw [HR.out]), (Fr.refl (fun _ => False) w).below (fun _ _ e => e)⟩
set_option maxHeartbeats 3200000 in
set_option maxRecDepth 100000 in
theorem QSame_any (A B : Option Addr) (c d : Nat) (a b : List Nat) (hba : ∀ n ∈ a, n < big) (hbb : ∀ n ∈ b, n < big) (hla : a.length ≤ 9223372036854775807) (w : World) (h1 : Lies w A (flatI a)) (h2 : Lies w B (flatI b)) :
    Calls Tryd.prog 42 #[.slice A a.length c, .slice B b.length d] w fun e w' => e = .returned (.bool (a == b)) ∧ Below w.heap.size w w' := by
  (
    have HL1 := Lib.hid h1
    have HL2 := Lib.hid h2
    have HBa := Lib.hid hba
    have HBb := Lib.hid hbb
    have HNE := Lib.hid (fun h => ids_ne_len (a := a) (b := b) h)
    have HNA := Lib.hid (fun k h1 h2 h => ids_ne_at (a := a) (b := b) (k := k) h1 h2 h)
    have HEA := Lib.hid (fun h h2 => ids_eq_all (a := a) (b := b) h h2)
    obtain ⟨R, hR⟩ : ∃ R, (a == b) = R := ⟨_, rfl⟩
    obtain ⟨n, hn⟩ : ∃ n, a.length = n := ⟨_, rfl⟩
    obtain ⟨m, hm⟩ : ∃ n, b.length = n := ⟨_, rfl⟩
    have HNn := Lib.hid hn
    have HMm := Lib.hid hm
    rw [hR] at HNE HNA HEA
    rw [hn] at HNE HNA HEA hla
    rw [hm] at HNE HNA HEA
    rw [hR, hn, hm]
    obtain ⟨T32, hT32⟩ : ∃ T : TypeId, T = 23 := ⟨_, rfl⟩
    obtain ⟨n32, hn32⟩ : ∃ n : Nat, n = 32 := ⟨_, rfl⟩
    have ag32 : ∀ w, (isAgg T32).run Tryd.prog w = .ok true w := by rw [hT32]; exact fun _ => by kernel_rfl
    have sz32 : ∀ w, (sizeOf T32).run Tryd.prog w = .ok n32 w := by rw [hT32, hn32]; exact fun _ => by kernel_rfl
    have HN32 := Lib.hid hn32
    clear h1 h2 hba hbb hR hn hm hn32)
  by_cases hnm : n = m
  · subst hnm
    clear HNE
    go_enter Tryd.func42, Tryd.ntmps42
    rw [show Op.load 23 (.tmp 19) = Op.load T32 (.tmp 19) by rw [hT32], show Op.load 23 (.tmp 23) = Op.load T32 (.tmp 23) by rw [hT32]]
    clear hT32
    go_wp2
    go_loopw [5] (fun i wr => ∃ k : Nat, k ≤ n ∧ i = .int .i64 k ∧ Hid (∀ j, j < k → gt a j = gt b j) ∧ Fr (fun _ => False) w wr) (fun i _ => n - (intOf i).toNat)
    case atStart => exact ⟨0, by omega, rfl, Lib.hid (fun j hj => by omega), Fr.refl _ _⟩
    case round =>
      (
        obtain ⟨k, hk, rfl, HJ, hf⟩ := hrel
        have HFr := Lib.hid hf
        by_cases hlt : k < n
        · obtain ⟨ba, oa, hA⟩ := HL1.out.some_of (by rw [HNn.out]; omega)
          subst hA
          obtain ⟨bb, ob, hA⟩ := HL2.out.some_of (by rw [HMm.out]; omega)
          subst hA
          have hka := gt_some a k (by rw [HNn.out]; exact hlt)
          have hkb := gt_some b k (by rw [HMm.out]; exact hlt)
          have hma := HBa.out _ (gt_mem a k (by rw [HNn.out]; exact hlt))
          have hmb := HBb.out _ (gt_mem b k (by rw [HMm.out]; exact hlt))
          have l1 : ∀ q : Later wr, (loadCellsFrom ⟨ba, oa + k * 32, none⟩ 0 n32 #[]).run Tryd.prog q.w' = .ok (idC (dgt (gt a k))) q.w' := fun q => by rw [HN32.out]; exact load_at HL1.out hka (HFr.out.trans q.fr (fun _ _ e => e))
          have l2 : ∀ q : Later wr, (loadCellsFrom ⟨bb, ob + k * 32, none⟩ 0 n32 #[]).run Tryd.prog q.w' = .ok (idC (dgt (gt b k))) q.w' := fun q => by rw [HN32.out]; exact load_at HL2.out hkb (HFr.out.trans q.fr (fun _ _ e => e))
          have heq := fun w => eq_nums (gt a k) (gt b k) hma hmb w
          obtain ⟨s, hs⟩ : ∃ s, (gt a k == gt b k) = s := ⟨_, rfl⟩
          rw [hs] at heq
          have HSs := Lib.hid hs
          obtain ⟨c1, hc1⟩ : ∃ c, idC (dgt (gt a k)) = c := ⟨_, rfl⟩
          obtain ⟨c2, hc2⟩ : ∃ c, idC (dgt (gt b k)) = c := ⟨_, rfl⟩
          rw [hc1] at l1 heq
          rw [hc2] at l2 heq
          have hk0 : (k : Int) < n := by omega
          have wk := wrap_n k (by omega)
          have wk1 := wrap_k1 k (by omega)
          clear hka hkb hma hmb hs hc1 hc2 hf
          cases s
          · have HR := Lib.hid (HNA.out k hlt hlt (fun e => by have := HSs.out; rw [e] at this; simp at this))
            go_wp2_with fail
            refine wp_region_later (w0 := wr) (Fr.refl _ _) (by kernel_rfl) (by kernel_rfl) ?_
            repeat (quiet_step (fail))
            refine wpQuiet_nil ?_
            intro _ hw'
            obtain ⟨q, hw''⟩ := hw'
            subst hw''
            go_wp2_with fail
            go_ret
            exact ⟨ret_bool (by rw [HR.out]), (HFr.out.trans q.fr (fun _ _ e => e)).below (fun _ _ e => e)⟩
          · go_wp2_with fail
            refine wp_region_later (w0 := wr) (Fr.refl _ _) (by kernel_rfl) (by kernel_rfl) ?_
            repeat (quiet_step (fail))
            refine wpQuiet_nil ?_
            intro _ hw'
            obtain ⟨q, hw''⟩ := hw'
            subst hw''
            go_wp2_with fail
            go_roundw
            case rel => exact ⟨k + 1, by omega, by go_num, Lib.hid (fun j hj => by
              rcases Nat.lt_or_ge j k with h | h
              · exact HJ.out j h
              · obtain rfl : j = k := by omega
                exact eq_of_beq HSs.out), HFr.out.trans q.fr (fun _ _ e => e)⟩
            case measure => simp [intOf]; omega
        · obtain rfl : k = n := by omega
          have HR := Lib.hid (HEA.out (by first | rfl | trivial) HJ.out)
          clear hf
          go_wp2_with fail
          go_ret
          exact ⟨ret_bool (by rw [HR.out]), HFr.out.below (fun _ _ e => e)⟩)
  · have hne : ((n : Int) == (m : Int)) = false := by rw [beq_eq_false_iff_ne]; omega
    have HR := Lib.hid (HNE.out hnm)
    clear hT32
    go_enter Tryd.func42, Tryd.ntmps42
    go_wp2_with fail
    go_ret
    exact ⟨ret_bool (by rw [HR.out]), (Fr.refl (fun _ => False) w).below (fun _ _ e => e)⟩
end Go.Proofs.YtppddpbacpeadaaDoor

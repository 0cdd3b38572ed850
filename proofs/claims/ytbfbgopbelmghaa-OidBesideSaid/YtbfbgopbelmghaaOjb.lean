/- What is proved: whether a list rises, by the program and by the document; where an id stands, by the document. Conditions: the list's cells are there. -/
import Derived.Test.YtbfbgopbelmghaaOja
namespace Go.Proofs.Ytbfbgopbelmghaa
open Go.RowKit
set_option linter.unusedVariables false

theorem wrap_nat (k : Nat) (h : k ≤ 100000) : IntKind.i64.wrap (k : Int) = k := by rw [IntKind.wrap_i64]; omega
theorem wrap_nat1 (k : Nat) (h : k ≤ 100000) : IntKind.i64.wrap ((k : Int) + 1) = (k : Int) + 1 := by rw [IntKind.wrap_i64]; omega
theorem toNat_nat1 (k : Nat) : ((k : Int) + 1).toNat = k + 1 := by omega
theorem nonneg_nat1 (k : Nat) : (0 : Int) ≤ (k : Int) + 1 := by omega

set_option maxHeartbeats 3200000 in
theorem ORising_any (A : Option Addr) (cap : Nat) (ns : List Nat) (hb : ∀ n ∈ ns, n < big) (hn : ns.length ≤ 1000) (w : World) (h : Lies w A (flatI ns)) :
    Calls Try.prog 27 #[.slice A ns.length cap] w fun e w' => e = .returned (.bool (risB ns)) ∧ Below w.heap.size w w' := by
  have HL := Lib.hid h
  have HB := Lib.hid hb
  obtain ⟨L, hL⟩ : ∃ L, ns.length = L := ⟨_, rfl⟩
  have HLn := Lib.hid hL
  obtain ⟨T32, hT32⟩ : ∃ T : TypeId, T = 23 := ⟨_, rfl⟩
  obtain ⟨n32, hn32⟩ : ∃ n : Nat, n = 32 := ⟨_, rfl⟩
  have ag32 : ∀ w, (isAgg T32).run Try.prog w = .ok true w := by rw [hT32]; exact fun _ => by kernel_rfl
  have sz32 : ∀ w, (sizeOf T32).run Try.prog w = .ok n32 w := by rw [hT32, hn32]; exact fun _ => by kernel_rfl
  have HN32 := Lib.hid hn32
  rw [hL] at hn ⊢
  clear h hb hL hn32
  go_enter Try.func27, Try.ntmps27
  rw [show Op.load 23 (.tmp 13) = Op.load T32 (.tmp 13) by rw [hT32], show Op.load 23 (.tmp 17) = Op.load T32 (.tmp 17) by rw [hT32]]
  clear hT32
  go_wp2
  go_loopw [3] (fun i wr => ∃ k : Nat, (k = 0 ∨ k < L) ∧ i = .int .i64 ((k : Int) + 1) ∧ Hid (∀ j, j < k → gt ns j < gt ns (j + 1)) ∧ Fr (fun _ => False) w wr) (fun i _ => L + 1 - (intOf i).toNat)
  case atStart => exact ⟨0, by omega, rfl, Lib.hid (fun j hj => by omega), Fr.refl _ _⟩
  case round =>
    obtain ⟨k, hk, rfl, hz, hf⟩ := hrel
    have HFr := Lib.hid hf
    by_cases hlt : k + 1 < L
    · obtain ⟨b, o, hA⟩ := HL.out.some_of (by rw [HLn.out]; omega)
      subst hA
      have hka := gt_some ns k (by rw [HLn.out]; omega)
      have hkb := gt_some ns (k + 1) (by rw [HLn.out]; omega)
      have hma := HB.out _ (gt_mem ns k (by rw [HLn.out]; omega))
      have hmb := HB.out _ (gt_mem ns (k + 1) (by rw [HLn.out]; omega))
      have l1 : ∀ q : Later wr, (loadCellsFrom ⟨b, o + k * 32, none⟩ 0 n32 #[]).run Try.prog q.w' = .ok (idC (dgt (gt ns k))) q.w' := fun q => by rw [HN32.out]; exact load_at HL.out hka (hf.trans q.fr (fun _ _ e => e))
      have l2 : ∀ q : Later wr, (loadCellsFrom ⟨b, o + (k + 1) * 32, none⟩ 0 n32 #[]).run Try.prog q.w' = .ok (idC (dgt (gt ns (k + 1)))) q.w' := fun q => by rw [HN32.out]; exact load_at HL.out hkb (hf.trans q.fr (fun _ _ e => e))
      have cc := fun w => OCompare_any (gt ns k) (gt ns (k + 1)) hma hmb w
      obtain ⟨r, hr⟩ : ∃ r, cmpN (gt ns k) (gt ns (k + 1)) = r := ⟨_, rfl⟩
      obtain ⟨ca, hca⟩ : ∃ c, idC (dgt (gt ns k)) = c := ⟨_, rfl⟩
      obtain ⟨cb, hcb⟩ : ∃ c, idC (dgt (gt ns (k + 1))) = c := ⟨_, rfl⟩
      rw [hca] at l1 cc
      rw [hcb] at l2 cc
      rw [hr] at cc
      have HRr := Lib.hid hr
      have CC := Lib.hid cc
      have hk1 : (k : Int) + 1 < L := by omega
      have hk0 : (k : Int) < L := by omega
      have wk := wrap_nat k (by omega)
      have wk1 := wrap_nat1 k (by omega)
      have tn1 := toNat_nat1 k
      have nn1 := nonneg_nat1 k
      clear hka hkb hma hmb cc hca hcb hr hf hk
      by_cases hge : gt ns k < gt ns (k + 1)
      · have hr0 : r = -1 := by rw [← HRr.out, cmpN, if_pos hge]
        have HG := Lib.hid hge
        subst hr0
        clear hge
        go_wp2_with fail
        refine wp_region_later (w0 := wr) (Fr.refl _ _) (by kernel_rfl) (by kernel_rfl) ?_
        repeat (quiet_step ((go_at_call 20; refine Calls.later_of (CC.out _))))
        refine wpQuiet_nil ?_
        intro _ hw'
        obtain ⟨q, hw''⟩ := hw'
        subst hw''
        go_wp2_with fail
        go_roundw
        case rel => exact ⟨k + 1, by omega, by go_num, Lib.hid (fun j hj => (by omega : j < k ∨ j = k).elim (hz.out j) (fun e => e ▸ HG.out)), HFr.out.trans q.fr (fun _ _ e => e)⟩
        case measure => simp [intOf]; omega
      · have hr0 : decide (0 ≤ r) = true := decide_eq_true (by rw [← HRr.out, cmpN, if_neg hge]; split <;> omega)
        have HZ := Lib.hid (risB_no ns k (by rw [HLn.out]; exact hlt) hge)
        clear hge
        go_wp2_with fail
        refine wp_region_later (w0 := wr) (Fr.refl _ _) (by kernel_rfl) (by kernel_rfl) ?_
        repeat (quiet_step ((go_at_call 20; refine Calls.later_of (CC.out _))))
        refine wpQuiet_nil ?_
        intro _ hw'
        obtain ⟨q, hw''⟩ := hw'
        subst hw''
        go_wp2_with fail
        go_ret
        exact ⟨by rw [HZ.out]; rfl, (HFr.out.trans q.fr (fun _ _ e => e)).below (fun _ _ e => e)⟩
    · have HZ := Lib.hid ((risB_iff ns).2 (ris_adj ns (fun j hj => hz.out j (by rw [HLn.out] at hj; omega))))
      have hk1 : ¬ ((k : Int) + 1 < L) := by omega
      have wk1 := wrap_nat1 k (by omega)
      clear hk
      go_wp2_with fail
      go_ret
      exact ⟨by rw [HZ.out]; rfl, HFr.out.below (fun _ _ e => e)⟩

set_option maxHeartbeats 3200000 in
theorem QRising_any (A : Option Addr) (cap : Nat) (ns : List Nat) (hb : ∀ n ∈ ns, n < big) (hn : ns.length ≤ 1000) (w : World) (h : Lies w A (flatI ns)) :
    Calls Try.prog 28 #[.slice A ns.length cap] w fun e w' => e = .returned (.bool (risB ns)) ∧ Below w.heap.size w w' := by
  have HL := Lib.hid h
  have HB := Lib.hid hb
  obtain ⟨L, hL⟩ : ∃ L, ns.length = L := ⟨_, rfl⟩
  have HLn := Lib.hid hL
  obtain ⟨T32, hT32⟩ : ∃ T : TypeId, T = 23 := ⟨_, rfl⟩
  obtain ⟨n32, hn32⟩ : ∃ n : Nat, n = 32 := ⟨_, rfl⟩
  have ag32 : ∀ w, (isAgg T32).run Try.prog w = .ok true w := by rw [hT32]; exact fun _ => by kernel_rfl
  have sz32 : ∀ w, (sizeOf T32).run Try.prog w = .ok n32 w := by rw [hT32, hn32]; exact fun _ => by kernel_rfl
  have HN32 := Lib.hid hn32
  rw [hL] at hn ⊢
  clear h hb hL hn32
  go_enter Try.func28, Try.ntmps28
  rw [show Op.load 23 (.tmp 13) = Op.load T32 (.tmp 13) by rw [hT32], show Op.load 23 (.tmp 18) = Op.load T32 (.tmp 18) by rw [hT32]]
  clear hT32
  go_wp2
  go_loopw [3] (fun i wr => ∃ k : Nat, (k = 0 ∨ k < L) ∧ i = .int .i64 k ∧ Hid (∀ j, j < k → gt ns j < gt ns (j + 1)) ∧ Fr (fun _ => False) w wr) (fun i _ => L + 1 - (intOf i).toNat)
  case atStart => exact ⟨0, by omega, rfl, Lib.hid (fun j hj => by omega), Fr.refl _ _⟩
  case round =>
    obtain ⟨k, hk, rfl, hz, hf⟩ := hrel
    have HFr := Lib.hid hf
    by_cases hlt : k + 1 < L
    · obtain ⟨b, o, hA⟩ := HL.out.some_of (by rw [HLn.out]; omega)
      subst hA
      have hka := gt_some ns k (by rw [HLn.out]; omega)
      have hkb := gt_some ns (k + 1) (by rw [HLn.out]; omega)
      have hma := HB.out _ (gt_mem ns k (by rw [HLn.out]; omega))
      have hmb := HB.out _ (gt_mem ns (k + 1) (by rw [HLn.out]; omega))
      have l1 : ∀ q : Later wr, (loadCellsFrom ⟨b, o + k * 32, none⟩ 0 n32 #[]).run Try.prog q.w' = .ok (idC (dgt (gt ns k))) q.w' := fun q => by rw [HN32.out]; exact load_at HL.out hka (hf.trans q.fr (fun _ _ e => e))
      have l2 : ∀ q : Later wr, (loadCellsFrom ⟨b, o + (k + 1) * 32, none⟩ 0 n32 #[]).run Try.prog q.w' = .ok (idC (dgt (gt ns (k + 1)))) q.w' := fun q => by rw [HN32.out]; exact load_at HL.out hkb (hf.trans q.fr (fun _ _ e => e))
      have cc := fun w => QBelow_any (gt ns k) (gt ns (k + 1)) hma hmb w
      obtain ⟨r, hr⟩ : ∃ r, decide (gt ns k < gt ns (k + 1)) = r := ⟨_, rfl⟩
      obtain ⟨ca, hca⟩ : ∃ c, idC (dgt (gt ns k)) = c := ⟨_, rfl⟩
      obtain ⟨cb, hcb⟩ : ∃ c, idC (dgt (gt ns (k + 1))) = c := ⟨_, rfl⟩
      rw [hca] at l1 cc
      rw [hcb] at l2 cc
      rw [hr] at cc
      have HRr := Lib.hid hr
      have CC := Lib.hid cc
      have hk1 : (k : Int) + 1 < L := by omega
      have hk0 : (k : Int) < L := by omega
      have wk := wrap_nat k (by omega)
      have wk1 := wrap_nat1 k (by omega)
      have tn1 := toNat_nat1 k
      have nn1 := nonneg_nat1 k
      clear hka hkb hma hmb cc hca hcb hr hf hk
      cases r
      · have HZ := Lib.hid (risB_no ns k (by rw [HLn.out]; exact hlt) (of_decide_eq_false HRr.out))
        go_wp2_with fail
        refine wp_region_later (w0 := wr) (Fr.refl _ _) (by kernel_rfl) (by kernel_rfl) ?_
        repeat (quiet_step ((go_at_call 38; refine Calls.later_of (CC.out _))))
        refine wpQuiet_nil ?_
        intro _ hw'
        obtain ⟨q, hw''⟩ := hw'
        subst hw''
        go_wp2_with fail
        go_ret
        exact ⟨by rw [HZ.out]; rfl, (HFr.out.trans q.fr (fun _ _ e => e)).below (fun _ _ e => e)⟩
      · go_wp2_with fail
        refine wp_region_later (w0 := wr) (Fr.refl _ _) (by kernel_rfl) (by kernel_rfl) ?_
        repeat (quiet_step ((go_at_call 38; refine Calls.later_of (CC.out _))))
        refine wpQuiet_nil ?_
        intro _ hw'
        obtain ⟨q, hw''⟩ := hw'
        subst hw''
        go_wp2_with fail
        go_roundw
        case rel => exact ⟨k + 1, by omega, by go_num, Lib.hid (fun j hj => (by omega : j < k ∨ j = k).elim (hz.out j) (fun e => e ▸ of_decide_eq_true HRr.out)), HFr.out.trans q.fr (fun _ _ e => e)⟩
        case measure => simp [intOf]; omega
    · have HZ := Lib.hid ((risB_iff ns).2 (ris_adj ns (fun j hj => hz.out j (by rw [HLn.out] at hj; omega))))
      have hk1 : ¬ ((k : Int) + 1 < L) := by omega
      have wk1 := wrap_nat1 k (by omega)
      clear hk
      go_wp2_with fail
      go_ret
      exact ⟨by rw [HZ.out]; rfl, HFr.out.below (fun _ _ e => e)⟩

set_option maxHeartbeats 3200000 in
theorem QFind_any (A : Option Addr) (cap : Nat) (ns : List Nat) (x : Nat) (hb : ∀ n ∈ ns, n < big) (hx : x < big) (hn : ns.length ≤ 1000) (w : World) (h : Lies w A (flatI ns)) :
    Calls Try.prog 24 #[.slice A ns.length cap, .agg (idC (dgt x))] w fun e w' => e = .returned (.tuple #[.int .i64 (fAt ns x), .bool (fHas ns x)]) ∧ Below w.heap.size w w' := by
  obtain ⟨w1, hw1⟩ : ∃ w1, w.alloc (.cells (idC (dgt x)) 23) = w1 := ⟨_, rfl⟩
  have hF : Fr (fun _ => False) w w1 := by subst hw1; exact (Fr.refl _ w).alloc _
  have hX : Whole w1 w.heap.size 23 (idC (dgt x)) := by subst hw1; exact Whole.new w 23 _
  have hl1 := h.fr hF (fun _ _ e => e)
  have cr := fun w' (h' : Lies w' A (flatI ns)) => QRising_any A cap ns hb hn w' h'
  have HL := Lib.hid hl1
  have HB := Lib.hid hb
  have HF := Lib.hid hF
  have HX := Lib.hid hX
  have HXB := Lib.hid hx
  obtain ⟨L, hL⟩ : ∃ L, ns.length = L := ⟨_, rfl⟩
  have HLn := Lib.hid hL
  obtain ⟨cx, hcx⟩ : ∃ c, idC (dgt x) = c := ⟨_, rfl⟩
  have HCX := Lib.hid hcx
  obtain ⟨T32, hT32⟩ : ∃ T : TypeId, T = 23 := ⟨_, rfl⟩
  obtain ⟨n32, hn32⟩ : ∃ n : Nat, n = 32 := ⟨_, rfl⟩
  have ag32 : ∀ w, (isAgg T32).run Try.prog w = .ok true w := by rw [hT32]; exact fun _ => by kernel_rfl
  have sz32 : ∀ w, (sizeOf T32).run Try.prog w = .ok n32 w := by rw [hT32, hn32]; exact fun _ => by kernel_rfl
  have hgi := guardI
  have HN32 := Lib.hid hn32
  have hcr := cr w1 hl1
  rw [hL] at hn hcr ⊢
  rw [hcx] at hw1 ⊢
  have HCR := Lib.hid hcr
  clear h hb hL hn32 hF hX hl1 hx hcx hcr cr
  by_cases hr : risB ns = true
  · have HR := Lib.hid hr
    rw [hr] at HCR
    have HAT : Hid (fAt ns x = posN ns x) := Lib.hid (by rw [fAt, if_pos hr])
    have HHA : Hid (fHas ns x = hasN ns x) := Lib.hid (by rw [fHas, hr, Bool.true_and])
    rw [HAT.out, HHA.out]
    clear hr
    go_enter Try.func24, Try.ntmps24
    rw [show Op.load 23 (.tmp 18) = Op.load T32 (.tmp 18) by rw [hT32], show Op.load 23 (.tmp 3) = Op.load T32 (.tmp 3) by rw [hT32], show Op.load 23 (.tmp 26) = Op.load T32 (.tmp 26) by rw [hT32]]
    clear hT32
    go_wp2_with (go_at_call 28; refine HCR.out.mono ?_; rintro e w2 ⟨rfl, b2⟩)
    have HF2 := Lib.hid ((Fr.refl (fun _ => False) w1).then_below b2)
    clear hw1 b2
    go_loopw [6] (fun i wr => ∃ k : Nat, k ≤ L ∧ i = .int .i64 k ∧ Hid (∀ j, j < k → gt ns j < x) ∧ Fr (fun _ => False) w2 wr) (fun i _ => L - (intOf i).toNat)
    case atStart => exact ⟨0, by omega, rfl, Lib.hid (fun j hj => by omega), Fr.refl _ _⟩
    case round =>
      obtain ⟨k, hk, rfl, hz, hf⟩ := hrel
      have HFr := Lib.hid hf
      have HFa := Lib.hid (HF2.out.trans hf (fun _ _ e => e))
      by_cases hlt : k < L
      · obtain ⟨b, o, hA⟩ := HL.out.some_of (by rw [HLn.out]; omega)
        subst hA
        have hka := gt_some ns k (by rw [HLn.out]; omega)
        have hma := HB.out _ (gt_mem ns k (by rw [HLn.out]; omega))
        have l1 : ∀ q : Later wr, (loadCellsFrom ⟨b, o + k * 32, none⟩ 0 n32 #[]).run Try.prog q.w' = .ok (idC (dgt (gt ns k))) q.w' := fun q => by rw [HN32.out]; exact load_at HL.out hka (HFa.out.trans q.fr (fun _ _ e => e))
        have l2 : ∀ q : Later wr, (loadCellsFrom ⟨w.heap.size, 0, none⟩ 0 n32 #[]).run Try.prog q.w' = .ok cx q.w' := fun q => by rw [← HCX.out]; exact load_later HX.out (by rw [idC_size]; exact HN32.out) HFa.out q
        have cc := fun w => QBelow_any (gt ns k) x hma HXB.out w
        have heq := fun w => eq_nums (gt ns k) x hma HXB.out w
        obtain ⟨r, hr⟩ : ∃ r, decide (gt ns k < x) = r := ⟨_, rfl⟩
        obtain ⟨s, hs⟩ : ∃ s, (gt ns k == x) = s := ⟨_, rfl⟩
        obtain ⟨ca, hca⟩ : ∃ c, idC (dgt (gt ns k)) = c := ⟨_, rfl⟩
        rw [hca] at l1 cc heq
        rw [hr, HCX.out] at cc
        rw [hs, HCX.out] at heq
        have HRr := Lib.hid hr
        have HSs := Lib.hid hs
        have CC := Lib.hid cc
        have hk0 : (k : Int) < L := by omega
        have wk := wrap_nat k (by omega)
        have wk1 := wrap_nat1 k (by omega)
        clear hka hma cc hca hr hs hf hk
        cases r
        · have hnb := of_decide_eq_false HRr.out
          have HPO := Lib.hid (pos_unique ns x k (by rw [HLn.out]; omega) hz.out (fun _ => by omega))
          have HHS : Hid (hasN ns x = s) := Lib.hid (by
            rw [hasN, HPO.out, ← HSs.out, Bool.eq_iff_iff, decide_eq_true_eq, beq_iff_eq]
            exact ⟨fun e => e.2, fun e => ⟨by rw [HLn.out]; exact hlt, e⟩⟩)
          clear hnb
          go_wp2_with fail
          refine wp_region_later (w0 := wr) (Fr.refl _ _) (by kernel_rfl) (by kernel_rfl) ?_
          repeat (quiet_step ((go_at_call 38; refine Calls.later_of (CC.out _))))
          refine wpQuiet_nil ?_
          intro _ hw'
          obtain ⟨q, hw''⟩ := hw'
          subst hw''
          have l3 : ∀ p : Later q.w', (loadCellsFrom ⟨b, o + k * 32, none⟩ 0 n32 #[]).run Try.prog p.w' = .ok ca p.w' := fun p => l1 ⟨_, q.fr.trans p.fr (fun _ _ e => e)⟩
          have l4 : ∀ p : Later q.w', (loadCellsFrom ⟨w.heap.size, 0, none⟩ 0 n32 #[]).run Try.prog p.w' = .ok cx p.w' := fun p => l2 ⟨_, q.fr.trans p.fr (fun _ _ e => e)⟩
          clear l1 l2
          go_wp2_with fail
          refine wp_region_later (w0 := q.w') (Fr.refl _ _) (by kernel_rfl) (by kernel_rfl) ?_
          repeat (quiet_step (fail))
          refine wpQuiet_nil ?_
          intro _ hw'
          obtain ⟨p, hw''⟩ := hw'
          subst hw''
          go_wp2_with fail
          go_ret2
          exact ⟨by rw [HPO.out, HHS.out]; rfl, (HF.out.trans (HFa.out.trans (q.fr.trans p.fr (fun _ _ e => e)) (fun _ _ e => e)) (fun _ _ e => e)).below (fun _ _ e => e)⟩
        · go_wp2_with fail
          refine wp_region_later (w0 := wr) (Fr.refl _ _) (by kernel_rfl) (by kernel_rfl) ?_
          repeat (quiet_step ((go_at_call 38; refine Calls.later_of (CC.out _))))
          refine wpQuiet_nil ?_
          intro _ hw'
          obtain ⟨q, hw''⟩ := hw'
          subst hw''
          go_wp2_with fail
          go_roundw
          case rel => exact ⟨k + 1, by omega, by go_num, Lib.hid (fun j hj => (by omega : j < k ∨ j = k).elim (hz.out j) (fun e => e ▸ of_decide_eq_true HRr.out)), HFr.out.trans q.fr (fun _ _ e => e)⟩
          case measure => simp [intOf]; omega
      · obtain rfl : k = L := by omega
        have HPO := Lib.hid (pos_unique ns x k (by rw [HLn.out]; omega) hz.out (fun e => by rw [HLn.out] at e; omega))
        have HHS : Hid (hasN ns x = false) := Lib.hid (by rw [hasN, HPO.out, HLn.out]; simp)
        go_wp2_with fail
        go_ret2
        exact ⟨by rw [HPO.out, HHS.out]; rfl, (HF.out.trans HFa.out (fun _ _ e => e)).below (fun _ _ e => e)⟩
  · have hr' : risB ns = false := by simpa using hr
    rw [hr'] at HCR
    have HAT : Hid (fAt ns x = 0) := Lib.hid (by rw [fAt, if_neg hr])
    have HHA : Hid (fHas ns x = false) := Lib.hid (by rw [fHas, hr', Bool.false_and])
    rw [HAT.out, HHA.out]
    clear hr hr'
    go_enter Try.func24, Try.ntmps24
    go_wp2_with (go_at_call 28; refine HCR.out.mono ?_; rintro e w2 ⟨rfl, b2⟩)
    go_ret2
    exact ⟨rfl, (HF.out.then_below b2).below (fun _ _ e => e)⟩
end Go.Proofs.Ytbfbgopbelmghaa

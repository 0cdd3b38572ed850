/- What is proved: which of a list's ids begin so, by the document. Conditions: the list's cells are there. -/
import Derived.Test.YtbfbgopbelmghaaOrc
namespace Go.Proofs.Ytbfbgopbelmghaa
open Go.RowKit
set_option linter.unusedVariables false

set_option maxHeartbeats 6400000 in
theorem QRange_any (A : Option Addr) (cap : Nat) (ns : List Nat) (a : Nat) (N : Int) (h0 : -9223372036854775808 ≤ N) (h1 : N ≤ 9223372036854775807) (hb : ∀ n ∈ ns, n < big) (ha : a < big) (hn : ns.length ≤ 1000) (w : World) (h : Lies w A (flatI ns)) :
    Calls Try.prog 30 #[.slice A ns.length cap, .agg (idC (dgt a)), .int .i64 N] w fun e w' => e = .returned (.tuple #[.int .i64 (rgA ns a N), .int .i64 (rgB ns a N)]) ∧ Below w.heap.size w w' := by
  obtain ⟨w1, hw1⟩ : ∃ w1, w.alloc (.cells (idC (dgt a)) 23) = w1 := ⟨_, rfl⟩
  have hF : Fr (fun _ => False) w w1 := by subst hw1; exact (Fr.refl _ w).alloc _
  have hX : Whole w1 w.heap.size 23 (idC (dgt a)) := by subst hw1; exact Whole.new w 23 _
  have hl1 := h.fr hF (fun _ _ e => e)
  have HL := Lib.hid hl1
  have HB := Lib.hid hb
  have HF := Lib.hid hF
  have HX := Lib.hid hX
  have HAB := Lib.hid ha
  have HNN := Lib.hid (And.intro h0 h1)
  have CR := Lib.hid (fun w => QRight_any a ha N h0 h1 w)
  have CI := Lib.hid (fun w' (f : Fr (fun _ => False) w1 w') => QRising_any A cap ns hb hn w' (hl1.fr f (fun _ _ e => e)))
  obtain ⟨L, hL⟩ : ∃ L, ns.length = L := ⟨_, rfl⟩
  have HLn := Lib.hid hL
  obtain ⟨cx, hcx⟩ : ∃ c, idC (dgt a) = c := ⟨_, rfl⟩
  have HCX := Lib.hid hcx
  obtain ⟨T32, hT32⟩ : ∃ T : TypeId, T = 23 := ⟨_, rfl⟩
  obtain ⟨n32, hn32⟩ : ∃ n : Nat, n = 32 := ⟨_, rfl⟩
  have ag32 : ∀ w, (isAgg T32).run Try.prog w = .ok true w := by rw [hT32]; exact fun _ => by kernel_rfl
  have sz32 : ∀ w, (sizeOf T32).run Try.prog w = .ok n32 w := by rw [hT32, hn32]; exact fun _ => by kernel_rfl
  have HN32 := Lib.hid hn32
  have lx : (loadCellsFrom ⟨w.heap.size, 0, none⟩ 0 n32 #[]).run Try.prog w1 = .ok (idC (dgt a)) w1 := load_later hX (by rw [idC_size]; exact hn32) (Fr.refl _ _) ⟨w1, Fr.refl _ _⟩
  rw [hL] at hn CI ⊢
  rw [hcx] at hw1 CR lx ⊢
  clear h hb hL hn32 hF hX hl1 ha hcx h0 h1
  by_cases hrt : rightB a N = true
  · rw [hrt] at CR
    by_cases hr : risB ns = true
    · have HR := Lib.hid hr
      obtain ⟨e1, e2⟩ := rg_yes ns a N hrt hr
      rw [e1, e2]
      rw [hr] at CI
      clear hr hrt e1 e2
      go_enter Try.func30, Try.ntmps30
      rw [show Op.load 23 (.tmp 4) = Op.load T32 (.tmp 4) by rw [hT32], show Op.load 23 (.tmp 27) = Op.load T32 (.tmp 27) by rw [hT32], show Op.load 23 (.tmp 44) = Op.load T32 (.tmp 44) by rw [hT32]]
      clear hT32
      go_wp2_with (first
        | (go_at_call 28; refine (CI.out w2 F2).mono ?_; rintro e w3 ⟨rfl, b3⟩
           have HF3 := Lib.hid (F2.then_below b3))
        | (go_at_call 17; refine (CR.out _).mono ?_; rintro e w2 ⟨rfl, b2⟩
           have F2 := (Fr.refl (fun _ => False) w1).then_below b2))
      clear hw1 F2 b2 b3 lx
      go_loopw [8] (fun i wr => ∃ k : Nat, k ≤ L ∧ i = .int .i64 k ∧ Hid (∀ j, j < k → gt ns j < a) ∧ Fr (fun _ => False) w1 wr) (fun i _ => L - (intOf i).toNat)
      case atStart => exact ⟨0, by omega, rfl, Lib.hid (fun j hj => by omega), HF3.out⟩
      case round =>
        obtain ⟨k, hk, rfl, hz, hf⟩ := hrel
        have HFr := Lib.hid hf
        by_cases hlt : k < L
        · obtain ⟨b, o, hA⟩ := HL.out.some_of (by rw [HLn.out]; omega)
          subst hA
          have hma := HB.out _ (gt_mem ns k (by rw [HLn.out]; omega))
          have l1 : ∀ q : Later wr, (loadCellsFrom ⟨b, o + k * 32, none⟩ 0 n32 #[]).run Try.prog q.w' = .ok (idC (dgt (gt ns k))) q.w' := fun q => by rw [HN32.out]; exact load_at HL.out (gt_some ns k (by rw [HLn.out]; exact hlt)) (HFr.out.trans q.fr (fun _ _ e => e))
          have l2 : ∀ q : Later wr, (loadCellsFrom ⟨w.heap.size, 0, none⟩ 0 n32 #[]).run Try.prog q.w' = .ok cx q.w' := fun q => by rw [← HCX.out]; exact load_later HX.out (by rw [idC_size]; exact HN32.out) HFr.out q
          have cc := fun w => QBelow_any (gt ns k) a hma HAB.out w
          obtain ⟨r, hr⟩ : ∃ r, decide (gt ns k < a) = r := ⟨_, rfl⟩
          obtain ⟨ca, hca⟩ : ∃ c, idC (dgt (gt ns k)) = c := ⟨_, rfl⟩
          rw [hca] at l1 cc
          rw [hr, HCX.out] at cc
          have HRr := Lib.hid hr
          have CC := Lib.hid cc
          have hk0 : (k : Int) < L := by omega
          have hd0 : decide ((k : Int) < L) = true := decide_eq_true hk0
          have wk := wrap_nat k (by omega)
          have wk1 := wrap_nat1 k (by omega)
          clear hma cc hca hr hf
          cases r
          · have HPO := Lib.hid (pos_unique ns a k (by rw [HLn.out]; omega) hz.out (fun _ => by have := of_decide_eq_false HRr.out; omega))
            go_wp2_with fail
            refine wp_region_later (w0 := wr) (Fr.refl _ _) (by kernel_rfl) (by kernel_rfl) ?_
            repeat (quiet_step ((go_at_call 38; refine Calls.later_of (CC.out _))))
            refine wpQuiet_nil ?_
            intro _ hw'
            obtain ⟨q, hw''⟩ := hw'
            subst hw''
            have HFz := Lib.hid (HFr.out.trans q.fr (fun _ _ e => e))
            clear l1 l2 CC hk0 hd0 wk wk1 HRr hlt
            go_wp2_with fail
            (
              go_loopw [9, 10] (fun c i wr2 => ∃ j : Nat, j ≤ L ∧ i = .int .i64 j ∧ c = .int .i64 ((ns.take j).countP (fitB a N) : Nat) ∧ Fr (fun _ => False) w1 wr2) (fun _ i _ => L - (intOf i).toNat)
              case atStart => exact ⟨0, by omega, rfl, by simp, HFz.out⟩
              case round =>
                obtain ⟨j, hj, rfl, rfl, hf⟩ := hrel
                obtain ⟨cN, hcN⟩ : ∃ c, (ns.take j).countP (fitB a N) = c := ⟨_, rfl⟩
                have hcL : cN ≤ L := by
                  have h1 : (ns.take j).countP (fitB a N) ≤ (ns.take j).length := List.countP_le_length
                  rw [List.length_take, HLn.out, hcN] at h1
                  omega
                rw [hcN]
                have HCN := Lib.hid hcN
                have HFj := Lib.hid hf
                by_cases hlt : j < L
                · obtain ⟨b, o, hA⟩ := HL.out.some_of (by rw [HLn.out]; omega)
                  first | subst hA | (injection hA with hA; injection hA with hA1 hA2 hA3; subst hA1; subst hA2)
                  have l1 : ∀ q : Later wr, (loadCellsFrom ⟨b, o + j * 32, none⟩ 0 n32 #[]).run Try.prog q.w' = .ok (idC (dgt (gt ns j))) q.w' := fun q => by rw [HN32.out]; exact load_at HL.out (gt_some ns j (by rw [HLn.out]; exact hlt)) (HFj.out.trans q.fr (fun _ _ e => e))
                  have l2 : ∀ q : Later wr, (loadCellsFrom ⟨w.heap.size, 0, none⟩ 0 n32 #[]).run Try.prog q.w' = .ok cx q.w' := fun q => by rw [← HCX.out]; exact load_later HX.out (by rw [idC_size]; exact HN32.out) HFj.out q
                  have cc := fun w => QFits_any a (gt ns j) HAB.out (HB.out _ (gt_mem ns j (by rw [HLn.out]; exact hlt))) N HNN.out.1 HNN.out.2 w
                  have HST := Lib.hid (cnt_succ (fitB a N) ns j (by rw [HLn.out]; exact hlt))
                  obtain ⟨r, hr⟩ : ∃ r, fitB a N (gt ns j) = r := ⟨_, rfl⟩
                  obtain ⟨ca, hca⟩ : ∃ c, idC (dgt (gt ns j)) = c := ⟨_, rfl⟩
                  rw [hca] at l1 cc
                  rw [hr, HCX.out] at cc
                  rw [hr, HCN.out] at HST
                  have CC := Lib.hid cc
                  have hj0 : (j : Int) < L := by omega
                  have wj := wrap_nat j (by omega)
                  have wj1 := wrap_nat1 j (by omega)
                  have wc1 := wrap_nat1 cN (by omega)
                  clear hca hr cc hcN hf hj
                  cases r
                  · go_wp2_with fail
                    refine wp_region_later (w0 := wr) (Fr.refl _ _) (by kernel_rfl) (by kernel_rfl) ?_
                    repeat (quiet_step ((go_at_call 19; refine Calls.later_of (CC.out _))))
                    refine wpQuiet_nil ?_
                    intro _ hw'
                    obtain ⟨q, hw''⟩ := hw'
                    subst hw''
                    go_wp2_with fail
                    go_roundw
                    case rel => exact ⟨j + 1, by omega, by go_num, by rw [HST.out] <;> simp, HFj.out.trans q.fr (fun _ _ e => e)⟩
                    case measure => simp [intOf]; omega
                  · go_wp2_with fail
                    refine wp_region_later (w0 := wr) (Fr.refl _ _) (by kernel_rfl) (by kernel_rfl) ?_
                    repeat (quiet_step ((go_at_call 19; refine Calls.later_of (CC.out _))))
                    refine wpQuiet_nil ?_
                    intro _ hw'
                    obtain ⟨q, hw''⟩ := hw'
                    subst hw''
                    go_wp2_with fail
                    go_roundw
                    case rel => exact ⟨j + 1, by omega, by go_num, by rw [HST.out] <;> simp, HFj.out.trans q.fr (fun _ _ e => e)⟩
                    case measure => simp [intOf]; omega
                · have HAll : Hid (ns.countP (fitB a N) = cN) := Lib.hid (by
                    have := HCN.out
                    rwa [List.take_of_length_le (by rw [HLn.out]; omega)] at this)
                  have hj0 : ¬ (j : Int) < L := by omega
                  have wkc := wrap_nat2 k cN (by omega)
                  clear hcN hf hj hlt
                  go_wp2_with fail
                  go_ret2
                  exact ⟨by rw [HPO.out, HAll.out]; rfl, (HF.out.trans HFj.out (fun _ _ e => e)).below (fun _ _ e => e)⟩)
          · go_wp2_with fail
            refine wp_region_later (w0 := wr) (Fr.refl _ _) (by kernel_rfl) (by kernel_rfl) ?_
            repeat (quiet_step ((go_at_call 38; refine Calls.later_of (CC.out _))))
            refine wpQuiet_nil ?_
            intro _ hw'
            obtain ⟨q, hw''⟩ := hw'
            subst hw''
            go_wp2_with fail
            go_roundw
            case rel => exact ⟨k + 1, by omega, by go_num, Lib.hid (fun j hj => (by omega : j < k ∨ j = k).elim (hz.out j) (fun e => e ▸ of_decide_eq_true HRr.out)), HFr.out.trans q.fr (fun _ _ e => e)⟩
            case measure => simp [intOf]; omega
        · have HPO := Lib.hid (pos_unique ns a k (by rw [HLn.out]; omega) hz.out (fun e => by rw [HLn.out] at e; omega))
          have hk0 : ¬ (k : Int) < L := by omega
          have hd0 : decide ((k : Int) < L) = false := decide_eq_false hk0
          have HFz := Lib.hid HFr.out.drew
          have hdn : decide (k < L) = false := decide_eq_false hlt
          clear hf
          go_wp2_with fail
          go_region
          all_goals clear hk0 hd0 hdn hlt
          all_goals go_wp2_with fail
          all_goals (
            go_loopw [9, 10] (fun c i wr2 => ∃ j : Nat, j ≤ L ∧ i = .int .i64 j ∧ c = .int .i64 ((ns.take j).countP (fitB a N) : Nat) ∧ Fr (fun _ => False) w1 wr2) (fun _ i _ => L - (intOf i).toNat)
            case atStart => exact ⟨0, by omega, rfl, by simp, HFz.out⟩
            case round =>
              obtain ⟨j, hj, rfl, rfl, hf⟩ := hrel
              obtain ⟨cN, hcN⟩ : ∃ c, (ns.take j).countP (fitB a N) = c := ⟨_, rfl⟩
              have hcL : cN ≤ L := by
                have h1 : (ns.take j).countP (fitB a N) ≤ (ns.take j).length := List.countP_le_length
                rw [List.length_take, HLn.out, hcN] at h1
                omega
              rw [hcN]
              have HCN := Lib.hid hcN
              have HFj := Lib.hid hf
              by_cases hlt : j < L
              · obtain ⟨b, o, hA⟩ := HL.out.some_of (by rw [HLn.out]; omega)
                first | subst hA | (injection hA with hA; injection hA with hA1 hA2 hA3; subst hA1; subst hA2)
                have l1 : ∀ q : Later wr, (loadCellsFrom ⟨b, o + j * 32, none⟩ 0 n32 #[]).run Try.prog q.w' = .ok (idC (dgt (gt ns j))) q.w' := fun q => by rw [HN32.out]; exact load_at HL.out (gt_some ns j (by rw [HLn.out]; exact hlt)) (HFj.out.trans q.fr (fun _ _ e => e))
                have l2 : ∀ q : Later wr, (loadCellsFrom ⟨w.heap.size, 0, none⟩ 0 n32 #[]).run Try.prog q.w' = .ok cx q.w' := fun q => by rw [← HCX.out]; exact load_later HX.out (by rw [idC_size]; exact HN32.out) HFj.out q
                have cc := fun w => QFits_any a (gt ns j) HAB.out (HB.out _ (gt_mem ns j (by rw [HLn.out]; exact hlt))) N HNN.out.1 HNN.out.2 w
                have HST := Lib.hid (cnt_succ (fitB a N) ns j (by rw [HLn.out]; exact hlt))
                obtain ⟨r, hr⟩ : ∃ r, fitB a N (gt ns j) = r := ⟨_, rfl⟩
                obtain ⟨ca, hca⟩ : ∃ c, idC (dgt (gt ns j)) = c := ⟨_, rfl⟩
                rw [hca] at l1 cc
                rw [hr, HCX.out] at cc
                rw [hr, HCN.out] at HST
                have CC := Lib.hid cc
                have hj0 : (j : Int) < L := by omega
                have wj := wrap_nat j (by omega)
                have wj1 := wrap_nat1 j (by omega)
                have wc1 := wrap_nat1 cN (by omega)
                clear hca hr cc hcN hf hj
                cases r
                · go_wp2_with fail
                  refine wp_region_later (w0 := wr) (Fr.refl _ _) (by kernel_rfl) (by kernel_rfl) ?_
                  repeat (quiet_step ((go_at_call 19; refine Calls.later_of (CC.out _))))
                  refine wpQuiet_nil ?_
                  intro _ hw'
                  obtain ⟨q, hw''⟩ := hw'
                  subst hw''
                  go_wp2_with fail
                  go_roundw
                  case rel => exact ⟨j + 1, by omega, by go_num, by rw [HST.out] <;> simp, HFj.out.trans q.fr (fun _ _ e => e)⟩
                  case measure => simp [intOf]; omega
                · go_wp2_with fail
                  refine wp_region_later (w0 := wr) (Fr.refl _ _) (by kernel_rfl) (by kernel_rfl) ?_
                  repeat (quiet_step ((go_at_call 19; refine Calls.later_of (CC.out _))))
                  refine wpQuiet_nil ?_
                  intro _ hw'
                  obtain ⟨q, hw''⟩ := hw'
                  subst hw''
                  go_wp2_with fail
                  go_roundw
                  case rel => exact ⟨j + 1, by omega, by go_num, by rw [HST.out] <;> simp, HFj.out.trans q.fr (fun _ _ e => e)⟩
                  case measure => simp [intOf]; omega
              · have HAll : Hid (ns.countP (fitB a N) = cN) := Lib.hid (by
                  have := HCN.out
                  rwa [List.take_of_length_le (by rw [HLn.out]; omega)] at this)
                have hj0 : ¬ (j : Int) < L := by omega
                have wkc := wrap_nat2 k cN (by omega)
                clear hcN hf hj hlt
                go_wp2_with fail
                go_ret2
                exact ⟨by rw [HPO.out, HAll.out]; rfl, (HF.out.trans HFj.out (fun _ _ e => e)).below (fun _ _ e => e)⟩)
    · have hr' : risB ns = false := by simpa using hr
      rw [hr'] at CI
      obtain ⟨e1, e2⟩ := rg_no1 ns a N (.inr hr')
      rw [e1, e2]
      clear hr hr' hrt e1 e2
      go_enter Try.func30, Try.ntmps30
      rw [show Op.load 23 (.tmp 4) = Op.load T32 (.tmp 4) by rw [hT32]]
      clear hT32
      go_wp2_with (first
        | (go_at_call 28; refine (CI.out w2 F2).mono ?_; rintro e w3 ⟨rfl, b3⟩
           have F3 := F2.then_below b3)
        | (go_at_call 17; refine (CR.out _).mono ?_; rintro e w2 ⟨rfl, b2⟩
           have F2 := (Fr.refl (fun _ => False) w1).then_below b2))
      go_ret2
      exact ⟨rfl, (HF.out.trans F3 (fun _ _ e => e)).below (fun _ _ e => e)⟩
  · have hr' : rightB a N = false := by simpa using hrt
    rw [hr'] at CR
    obtain ⟨e1, e2⟩ := rg_no1 ns a N (.inl hr')
    rw [e1, e2]
    clear hrt hr' e1 e2 CI
    go_enter Try.func30, Try.ntmps30
    rw [show Op.load 23 (.tmp 4) = Op.load T32 (.tmp 4) by rw [hT32]]
    clear hT32
    go_wp2_with (go_at_call 17; refine (CR.out _).mono ?_; rintro e w2 ⟨rfl, b2⟩
                 have F2 := (Fr.refl (fun _ => False) w1).then_below b2)
    go_ret2
    exact ⟨rfl, (HF.out.trans F2 (fun _ _ e => e)).below (fun _ _ e => e)⟩
end Go.Proofs.Ytbfbgopbelmghaa

/- What is proved: whether entries stand in order, whether they may be a tree, by the program. Conditions: the list's cells are there. -/
import Derived.Test.YtcbgpbcfpeanjaaTrk
import Derived.Test.YtcbgpbcfpeanjaaRow
namespace Go.Proofs.Ytcbgpbcfpeanjaa
open Go.RowKit Go.Sort Go.Shelf
set_option linter.unusedVariables false

theorem TcompareKeys_any (x y : Ent) (w : World) : Calls Try.prog 24 #[.agg (entV x).toArray, .agg (entV y).toArray] w fun e w' => e = .returned (.int .i64 (keyCmp x y)) ∧ Below w.heap.size w w' :=
  (TcompareKeys_grow x y w).mono fun _ _ ⟨h, q, os, hw⟩ => ⟨h, by rw [hw]; exact grow_below _ _ _⟩

set_option maxHeartbeats 3200000 in
theorem GIsSorted_any (A : Option Addr) (cap : Nat) (es : List Ent) (hn : es.length ≤ 100000) (w : World) (h : Lies w A (flatE es)) :
    Calls Try.prog 28 #[.slice A es.length cap, .func (.func 24) #[] #[]] w fun e w' => e = .returned (.bool (isrB es)) ∧ Below w.heap.size w w' := by
  have HLI := Lib.hid h
  have HY : Hid ((∀ k, k + 1 < es.length → ltB (keyE es[k + 1]!) (keyE es[k]!) = false) → isrB es = true) := Lib.hid (isrB_iff es).2
  have HX : Hid (∀ k, k + 1 < es.length → ltB (keyE es[k + 1]!) (keyE es[k]!) = true → isrB es = false) := Lib.hid (fun k hk hl => by
    cases hq : isrB es with
    | false => rfl
    | true => have := (isrB_iff es).1 hq k hk; rw [hl] at this; cases this)
  have eg := enters_keys
  obtain ⟨r, hr⟩ : ∃ r, isrB es = r := ⟨_, rfl⟩
  obtain ⟨L, hL⟩ : ∃ L, es.length = L := ⟨_, rfl⟩
  have HLn := Lib.hid hL
  obtain ⟨T, hT⟩ : ∃ T : TypeId, T = 45 := ⟨_, rfl⟩
  obtain ⟨n34, h34⟩ : ∃ n : Nat, n = 34 := ⟨_, rfl⟩
  have ag34 : ∀ w, (isAgg T).run Try.prog w = .ok true w := by rw [hT]; exact fun _ => by kernel_rfl
  have sz34 : ∀ w, (sizeOf T).run Try.prog w = .ok n34 w := by rw [hT, h34]; exact fun _ => by kernel_rfl
  have HN := Lib.hid h34
  rw [hr] at HX HY ⊢
  rw [hL] at hn HX HY ⊢
  clear h hr hL h34
  go_enter Try.func28, Try.ntmps28
  rw [show Op.load 45 (.tmp 16) = Op.load T (.tmp 16) by rw [hT], show Op.load 45 (.tmp 21) = Op.load T (.tmp 21) by rw [hT]]
  clear hT
  go_wp2
  go_loopg [5] L (fun kx s5 wr => ∃ i : Nat, s5 = .int .i64 ((i : Int) - 1) ∧ i ≤ L ∧ i ≤ kx ∧ Fr (fun _ => False) w wr ∧ Hid (∀ j, i ≤ j + 1 → j + 1 < L → ltB (keyE es[j + 1]!) (keyE es[j]!) = false))
  case atStart => exact ⟨L, rfl, Nat.le_refl _, Nat.le_refl _, Fr.refl _ _, Lib.hid (fun j h1 h2 => by omega)⟩
  case round =>
    obtain ⟨i, rfl, hi, hkx, hf, HI⟩ := hrel
    obtain ⟨wo, rfl⟩ : ∃ wo, wo = wr := ⟨wr, rfl⟩
    have HFr := Lib.hid hf
    clear hf
    by_cases h2 : 2 ≤ i
    · obtain ⟨k, rfl⟩ : ∃ k, i = k + 2 := ⟨i - 2, by omega⟩
      rw [show (((k + 2 : Nat) : Int) - 1) = (k : Int) + 1 by omega]
      have wk := wrap_nat k (by omega)
      have wk1 := wrap_nat1 k (by omega)
      have tn1 := toNat_nat1 k
      have nn1 := nonneg_nat1 k
      obtain ⟨b, o, hB⟩ := HLI.out.someE (by rw [HLn.out]; omega)
      subst hB
      have hltz : (k : Int) + 1 < L := by omega
      have hkz : (k : Int) < L := by omega
      have hpz : (0 : Int) < (k : Int) + 1 := by omega
      cases hq : ltB (keyE es[k + 1]!) (keyE es[k]!) with
      | true =>
        (
          have l1 : ∀ q : Later wo, (loadCellsFrom ⟨b, o + (k + 1) * 34, none⟩ 0 n34 #[]).run Try.prog q.w' = .ok (entV es[k + 1]!).toArray q.w' := fun q => load_ent HLI.out (some_of_mem (by rw [HLn.out]; omega)) (HFr.out.trans q.fr (fun _ _ e => e)) n34 HN.out
          have l2 : ∀ q : Later wo, (loadCellsFrom ⟨b, o + k * 34, none⟩ 0 n34 #[]).run Try.prog q.w' = .ok (entV es[k]!).toArray q.w' := fun q => load_ent HLI.out (some_of_mem (by rw [HLn.out]; omega)) (HFr.out.trans q.fr (fun _ _ e => e)) n34 HN.out
          have cc := fun w => TcompareKeys_any es[k + 1]! es[k]! w
          have hd : decide (keyCmp es[k + 1]! es[k]! < 0) = true := by rw [← hq, ← ltOf_key]; rfl
          obtain ⟨c1, hc1⟩ : ∃ c, (entV es[k + 1]!).toArray = c := ⟨_, rfl⟩
          obtain ⟨c2, hc2⟩ : ∃ c, (entV es[k]!).toArray = c := ⟨_, rfl⟩
          obtain ⟨m, hm⟩ : ∃ m, keyCmp es[k + 1]! es[k]! = m := ⟨_, rfl⟩
          rw [hc1] at l1 cc
          rw [hc2] at l2 cc
          rw [hm] at cc hd
          have CC := Lib.hid cc
          have HQ := Lib.hid hq
          have hv := hd
          first | replace hv := of_decide_eq_true hv | replace hv := of_decide_eq_false hv
          clear hc1 hc2 hm cc hq
          go_wp2_with fail
          refine wp_region_later (w0 := wo) (Fr.refl _ _) (by kernel_rfl) (by kernel_rfl) ?_
          repeat (quiet_step ((go_at_fn 24; refine Calls.later_of (CC.out _))))
          refine wpQuiet_nil ?_
          intro _ hw'
          obtain ⟨q, hw''⟩ := hw'
          subst hw''
          go_wp2_with fail)
        (try simp only [Exit.inBlock, Exit.then])
        go_ret
        exact ⟨by rw [HX.out k (by omega) HQ.out]; rfl, (HFr.out.trans q.fr (fun _ _ e => e)).below (fun _ _ e => e)⟩
      | false =>
        (
          have l1 : ∀ q : Later wo, (loadCellsFrom ⟨b, o + (k + 1) * 34, none⟩ 0 n34 #[]).run Try.prog q.w' = .ok (entV es[k + 1]!).toArray q.w' := fun q => load_ent HLI.out (some_of_mem (by rw [HLn.out]; omega)) (HFr.out.trans q.fr (fun _ _ e => e)) n34 HN.out
          have l2 : ∀ q : Later wo, (loadCellsFrom ⟨b, o + k * 34, none⟩ 0 n34 #[]).run Try.prog q.w' = .ok (entV es[k]!).toArray q.w' := fun q => load_ent HLI.out (some_of_mem (by rw [HLn.out]; omega)) (HFr.out.trans q.fr (fun _ _ e => e)) n34 HN.out
          have cc := fun w => TcompareKeys_any es[k + 1]! es[k]! w
          have hd : decide (keyCmp es[k + 1]! es[k]! < 0) = false := by rw [← hq, ← ltOf_key]; rfl
          obtain ⟨c1, hc1⟩ : ∃ c, (entV es[k + 1]!).toArray = c := ⟨_, rfl⟩
          obtain ⟨c2, hc2⟩ : ∃ c, (entV es[k]!).toArray = c := ⟨_, rfl⟩
          obtain ⟨m, hm⟩ : ∃ m, keyCmp es[k + 1]! es[k]! = m := ⟨_, rfl⟩
          rw [hc1] at l1 cc
          rw [hc2] at l2 cc
          rw [hm] at cc hd
          have CC := Lib.hid cc
          have HQ := Lib.hid hq
          have hv := hd
          first | replace hv := of_decide_eq_true hv | replace hv := of_decide_eq_false hv
          clear hc1 hc2 hm cc hq
          go_wp2_with fail
          refine wp_region_later (w0 := wo) (Fr.refl _ _) (by kernel_rfl) (by kernel_rfl) ?_
          repeat (quiet_step ((go_at_fn 24; refine Calls.later_of (CC.out _))))
          refine wpQuiet_nil ?_
          intro _ hw'
          obtain ⟨q, hw''⟩ := hw'
          subst hw''
          go_wp2_with fail)
        go_roundg (k + 1)
        case measure => omega
        case rel => exact ⟨k + 1, by go_num, by omega, Nat.le_refl _, HFr.out.trans q.fr (fun _ _ e => e), Lib.hid (fun j hj hj1 => by
          by_cases e : j = k
          · subst e; exact HQ.out
          · exact HI.out j (by omega) hj1)⟩
    · have hpz : ¬ ((0 : Int) < (i : Int) - 1) := by omega
      go_wp2_with fail
      go_ret
      exact ⟨by rw [HY.out (fun j hj => HI.out j (by omega) hj)]; rfl, HFr.out.below (fun _ _ e => e)⟩
end Go.Proofs.Ytcbgpbcfpeanjaa

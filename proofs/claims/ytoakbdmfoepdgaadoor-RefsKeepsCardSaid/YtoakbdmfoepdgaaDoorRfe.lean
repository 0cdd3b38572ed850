/- What is proved: whether refs may be a table, by the program. Conditions: the list's cells are there. -/
import Derived.Test.YtoakbdmfoepdgaaDoorRfd
namespace Go.Proofs.YtoakbdmfoepdgaaDoor
open Go.RowKit Go.Sort Go.Shelf
set_option linter.unusedVariables false

theorem RtRight_all (l : List UInt8) (w : World) : Calls Tryd.prog 30 #[.string (strB l)] w fun e w' => e = .returned (.bool (rightB l)) ∧ Below w.heap.size w w' := by
  by_cases h : 120 < l.length
  · refine (RtRight_long l h w).mono ?_
    rintro e w' ⟨rfl, rfl⟩
    exact ⟨by rw [right_long h], (Fr.refl (fun _ => False) _).below (fun _ _ e => e)⟩
  · exact RtRight_any l (by omega) w
theorem QrRight_all (l : List UInt8) (w : World) : Calls Tryd.prog 35 #[.string (strB l)] w fun e w' => e = .returned (.bool (rightB l)) ∧ Below w.heap.size w w' := by
  by_cases h : 120 < l.length
  · refine (QrRight_long l h w).mono ?_
    rintro e w' ⟨rfl, rfl⟩
    exact ⟨by rw [right_long h], (Fr.refl (fun _ => False) _).below (fun _ _ e => e)⟩
  · exact QrRight_any l (by omega) w

set_option maxHeartbeats 1600000 in
theorem RfCheck1_any (x : Rf) (w : World) : Calls Tryd.prog 29 #[.agg (refV x).toArray] w fun e w' => e = .returned (.bool (!rightB x.name)) ∧ Below w.heap.size w w' := by
  have hc := Lib.hid (fun w => RtRight_all x.name w)
  have HN0 := refV_name x
  obtain ⟨cx, hcx⟩ : ∃ c, (refV x).toArray = c := ⟨_, rfl⟩
  obtain ⟨S, hS⟩ : ∃ S, strB x.name = S := ⟨_, rfl⟩
  obtain ⟨r, hr⟩ : ∃ r, rightB x.name = r := ⟨_, rfl⟩
  rw [hcx, hS] at HN0
  rw [hS, hr] at hc
  rw [hcx, hr]
  obtain ⟨w1, hw1⟩ : ∃ w1, w.alloc (.cells cx 50) = w1 := ⟨_, rfl⟩
  have HW1 := Lib.hid (show Whole w1 w.heap.size 50 cx from by subst hw1; exact Whole.new w 50 cx)
  have HF1 := Lib.hid (show Fr (fun _ => False) w w1 from by subst hw1; exact (Fr.refl (fun _ => False) w).alloc _)
  have c0 : w1.cell? ⟨w.heap.size, 0, none⟩ = some (.string S) := by rw [HW1.out.cell]; exact HN0
  clear hcx hS hr HN0
  go_enter Tryd.func29, Tryd.ntmps29
  go_wp2_with (go_at_call 30; refine (hc.out _).mono ?_; rintro e w2 ⟨rfl, b2⟩)
  go_ret
  exact ⟨rfl, (HF1.out.then_below b2).below (fun _ _ e => e)⟩
theorem enters_check1 : ∀ args w, (callFunc 29 args).run Tryd.prog w = .ok (.enter 29 args) w := enters_of Tryd.func29 (by kernel_rfl) rfl
theorem enters_rnames : ∀ args w, (callFunc 34 args).run Tryd.prog w = .ok (.enter 34 args) w := enters_of Tryd.func34 (by kernel_rfl) rfl

set_option maxHeartbeats 1600000 in
set_option maxRecDepth 100000 in
/-- Where the first ref stands whose name is no path. -/
theorem GrIndexF_any (A : Option Addr) (cap : Nat) (l : List Rf) (hn : l.length ≤ 100000) (w : World) (h : Lies w A (flatR l)) :
    Calls Tryd.prog 53 #[.slice A l.length cap, .func (.func 29) #[] #[]] w fun e w' => ∃ r : Int, e = .returned (.int .i64 r) ∧ decide (0 ≤ r) = !(l.all fun x => rightB x.name) ∧ Below w.heap.size w w' := by
  have HLI := Lib.hid h
  have HY : Hid ((∀ k, k < l.length → rightB l[k]!.name = true) → (l.all fun x => rightB x.name) = true) := Lib.hid (fun hh => List.all_eq_true.2 (fun x hx => by
    obtain ⟨k, hk, rfl⟩ := List.getElem_of_mem hx
    have := hh k hk
    rwa [getElem!_pos l k hk] at this))
  have HX : Hid (∀ k, k < l.length → rightB l[k]!.name = false → (l.all fun x => rightB x.name) = false) := Lib.hid (fun k hk hh => by
    cases e : (l.all fun x => rightB x.name) with
    | false => rfl
    | true => have := List.all_eq_true.1 e _ (rf_mem hk); rw [hh] at this; cases this)
  obtain ⟨R, hR⟩ : ∃ b, (l.all fun x => rightB x.name) = b := ⟨_, rfl⟩
  rw [hR] at HX HY ⊢
  obtain ⟨L, hL⟩ : ∃ L, l.length = L := ⟨_, rfl⟩
  have HLn := Lib.hid hL
  obtain ⟨T, hT⟩ : ∃ T : TypeId, T = 50 := ⟨_, rfl⟩
  obtain ⟨n33, h33⟩ : ∃ n : Nat, n = 33 := ⟨_, rfl⟩
  have ag33 : ∀ w, (isAgg T).run Tryd.prog w = .ok true w := by rw [hT]; exact fun _ => by kernel_rfl
  have sz33 : ∀ w, (sizeOf T).run Tryd.prog w = .ok n33 w := by rw [hT, h33]; exact fun _ => by kernel_rfl
  have HN := Lib.hid h33
  have eg := enters_check1
  rw [hL] at hn HX HY ⊢
  clear h hL h33 hR
  go_enter Tryd.func53, Tryd.ntmps53
  rw [show Op.load 50 (.tmp 14) = Op.load T (.tmp 14) by rw [hT]]
  clear hT
  go_wp2
  go_loopg [8] L (fun kx s8 wr => ∃ k : Nat, s8 = .int .i64 k ∧ k ≤ L ∧ L - k ≤ kx ∧ Fr (fun _ => False) w wr ∧ Hid (∀ j, j < k → rightB l[j]!.name = true))
  case atStart => exact ⟨0, rfl, by omega, by omega, Fr.refl _ _, Lib.hid (fun j hj => by omega)⟩
  case round =>
    obtain ⟨k, rfl, hk, hkx, hf, HB⟩ := hrel
    obtain ⟨wo, rfl⟩ : ∃ wo, wo = wr := ⟨wr, rfl⟩
    have HFo := Lib.hid hf
    clear hf
    have wk := wrap_nat k (by omega)
    by_cases hlt : k < L
    · have hltz : (k : Int) < L := by omega
      obtain ⟨b, o, hB⟩ := HLI.out.someR (by rw [HLn.out]; omega)
      subst hB
      have l1 : (loadCellsFrom ⟨b, o + k * 33, none⟩ 0 n33 #[]).run Tryd.prog wo = .ok (refV l[k]!).toArray wo := load_ref HLI.out (rf_some (by rw [HLn.out]; omega)) HFo.out n33 HN.out
      have HXk := Lib.hid (HX.out k hlt)
      have hc := RfCheck1_any l[k]! wo
      obtain ⟨bq, hbq⟩ : ∃ b, rightB l[k]!.name = b := ⟨_, rfl⟩
      have HBQ := Lib.hid hbq
      obtain ⟨cx, hcx⟩ : ∃ c, (refV l[k]!).toArray = c := ⟨_, rfl⟩
      rw [hcx] at l1 hc
      rw [hbq] at hc HXk
      have HC := Lib.hid hc
      clear hcx hbq hc
      cases bq
      · go_wp2_with (go_at_fn 29; refine HC.out.mono ?_; rintro e w3 ⟨rfl, b3⟩)
        (try simp only [Exit.inBlock, Exit.then])
        go_ret
        exact ⟨k, rfl, by rw [HXk.out (by first | rfl | trivial)]; simp, (HFo.out.then_below b3).below (fun _ _ e => e)⟩
      · go_wp2_with (go_at_fn 29; refine HC.out.mono ?_; rintro e w3 ⟨rfl, b3⟩)
        have HF3 := Lib.hid (HFo.out.then_below b3)
        go_roundg (L - (k + 1))
        case measure => omega
        case rel => exact ⟨k + 1, by go_num, by omega, Nat.le_refl _, HF3.out, Lib.hid (fun j hj => by
          by_cases e : j = k
          · subst e; exact HBQ.out
          · exact HB.out j (by omega))⟩
    · have hltz : ¬ ((k : Int) < L) := by omega
      go_wp2_with fail
      go_ret
      exact ⟨-1, rfl, by rw [HY.out (fun j hj => HB.out j (by omega))]; rfl, HFo.out.below (fun _ _ e => e)⟩
set_option maxHeartbeats 1600000 in
theorem GrContains_any (A : Option Addr) (cap : Nat) (l : List Rf) (hn : l.length ≤ 100000) (w : World) (h : Lies w A (flatR l)) :
    Calls Tryd.prog 31 #[.slice A l.length cap, .func (.func 29) #[] #[]] w fun e w' => e = .returned (.bool (!(l.all fun x => rightB x.name))) ∧ Below w.heap.size w w' := by
  have HC := Lib.hid (GrIndexF_any A cap l hn w h)
  obtain ⟨R, hR⟩ : ∃ b, (!(l.all fun x => rightB x.name)) = b := ⟨_, rfl⟩
  rw [hR] at HC ⊢
  clear h hR
  go_enter Tryd.func31, Tryd.ntmps31
  go_wp2_with (go_at_call 53; refine HC.out.mono ?_; rintro e w' ⟨r, rfl, hr, b⟩; have HR := Lib.hid hr; clear hr)
  go_ret
  exact ⟨by rw [← HR.out]; rfl, b⟩

/-- Which of two refs stands behind the other. -/
def rfCmp (a b : Rf) : Int := Lib.compareBytes a.name b.name
set_option maxHeartbeats 1600000 in
theorem RfNames_any (x y : Rf) (w : World) : Calls Tryd.prog 34 #[.agg (refV x).toArray, .agg (refV y).toArray] w fun e w' => e = .returned (.int .i64 (rfCmp x y)) ∧ Below w.heap.size w w' := by
  have hc := Lib.hid (fun w => GsCompare_any x.name y.name w)
  have hx0 := refV_name x
  have hy0 := refV_name y
  obtain ⟨r, hr⟩ : ∃ r, Lib.compareBytes x.name y.name = r := ⟨_, rfl⟩
  have HR : Hid (rfCmp x y = r) := Lib.hid hr
  obtain ⟨cx, hcx⟩ : ∃ c, (refV x).toArray = c := ⟨_, rfl⟩
  obtain ⟨cy, hcy⟩ : ∃ c, (refV y).toArray = c := ⟨_, rfl⟩
  obtain ⟨S, hS⟩ : ∃ S, strB x.name = S := ⟨_, rfl⟩
  obtain ⟨S2, hS2⟩ : ∃ S, strB y.name = S := ⟨_, rfl⟩
  rw [hcx, hS] at hx0
  rw [hcy, hS2] at hy0
  rw [hS, hS2, hr] at hc
  rw [hcx, hcy, HR.out]
  obtain ⟨w1, hw1⟩ : ∃ w1, w.alloc (.cells cx 50) = w1 := ⟨_, rfl⟩
  obtain ⟨w2, hw2⟩ : ∃ w2, w1.alloc (.cells cy 50) = w2 := ⟨_, rfl⟩
  have HF2 := Lib.hid (show Fr (fun _ => False) w1 w2 from by subst hw2; exact (Fr.refl (fun _ => False) w1).alloc _)
  have HF1 := Lib.hid (show Fr (fun _ => False) w w1 from by subst hw1; exact (Fr.refl (fun _ => False) w).alloc _)
  have HW1 := Lib.hid (show Whole w2 w.heap.size 50 cx from by subst hw1; exact (Whole.new w 50 cx).fr HF2.out (fun e => e))
  have HW2 := Lib.hid (show Whole w2 w1.heap.size 50 cy from by subst hw2; exact Whole.new w1 50 cy)
  have c0 : w2.cell? ⟨w.heap.size, 0, none⟩ = some (.string S) := by rw [HW1.out.cell]; exact hx0
  have d0 : w2.cell? ⟨w1.heap.size, 0, none⟩ = some (.string S2) := by rw [HW2.out.cell]; exact hy0
  clear hcx hcy hS hS2 hr hx0 hy0
  go_enter Tryd.func34, Tryd.ntmps34
  go_wp2_with (go_at_call 54; refine (hc.out _).mono ?_; rintro e w' ⟨rfl, rfl⟩)
  go_ret
  exact ⟨rfl, (HF1.out.trans HF2.out (fun _ _ e => e)).below (fun _ _ e => e)⟩

set_option maxHeartbeats 3200000 in
set_option maxRecDepth 100000 in
theorem GrIsSorted_any (A : Option Addr) (cap : Nat) (l : List Rf) (hn : l.length ≤ 100000) (w : World) (h : Lies w A (flatR l)) :
    Calls Tryd.prog 33 #[.slice A l.length cap, .func (.func 34) #[] #[]] w fun e w' => e = .returned (.bool (isrR l)) ∧ Below w.heap.size w w' := by
  have HLI := Lib.hid h
  have HY : Hid ((∀ k, k + 1 < l.length → ltB l[k + 1]!.name l[k]!.name = false) → isrR l = true) := Lib.hid (isrR_iff l).2
  have HX : Hid (∀ k, k + 1 < l.length → ltB l[k + 1]!.name l[k]!.name = true → isrR l = false) := Lib.hid (fun k hk hl => by
    cases hq : isrR l with
    | false => rfl
    | true => have := (isrR_iff l).1 hq k hk; rw [hl] at this; cases this)
  have eg := enters_rnames
  obtain ⟨r, hr⟩ : ∃ r, isrR l = r := ⟨_, rfl⟩
  obtain ⟨L, hL⟩ : ∃ L, l.length = L := ⟨_, rfl⟩
  have HLn := Lib.hid hL
  obtain ⟨T, hT⟩ : ∃ T : TypeId, T = 50 := ⟨_, rfl⟩
  obtain ⟨n33, h33⟩ : ∃ n : Nat, n = 33 := ⟨_, rfl⟩
  have ag33 : ∀ w, (isAgg T).run Tryd.prog w = .ok true w := by rw [hT]; exact fun _ => by kernel_rfl
  have sz33 : ∀ w, (sizeOf T).run Tryd.prog w = .ok n33 w := by rw [hT, h33]; exact fun _ => by kernel_rfl
  have HN := Lib.hid h33
  rw [hr] at HX HY ⊢
  rw [hL] at hn HX HY ⊢
  clear h hr hL h33
  go_enter Tryd.func33, Tryd.ntmps33
  rw [show Op.load 50 (.tmp 16) = Op.load T (.tmp 16) by rw [hT], show Op.load 50 (.tmp 21) = Op.load T (.tmp 21) by rw [hT]]
  clear hT
  go_wp2
  go_loopg [5] L (fun kx s5 wr => ∃ i : Nat, s5 = .int .i64 ((i : Int) - 1) ∧ i ≤ L ∧ i ≤ kx ∧ Fr (fun _ => False) w wr ∧ Hid (∀ j, i ≤ j + 1 → j + 1 < L → ltB l[j + 1]!.name l[j]!.name = false))
  case atStart => exact ⟨L, rfl, Nat.le_refl _, Nat.le_refl _, Fr.refl _ _, Lib.hid (fun j h1 h2 => by omega)⟩
  case round =>
    obtain ⟨i, rfl, hi, hkx, hf, HI⟩ := hrel
    obtain ⟨wo, rfl⟩ : ∃ wo, wo = wr := ⟨wr, rfl⟩
    have HFr := Lib.hid hf
    clear hf
    by_cases h2 : 2 ≤ i
    · obtain ⟨k, rfl⟩ : ∃ k, i = k + 2 := ⟨i - 2, by omega⟩
      rw [show (((k + 2 : Nat) : Int) - 1) = (k : Int) + 1 by omega]
      have wk := wrap_nat k (by omega)
      have wk1 := wrap_nat1 k (by omega)
      have tn1 := toNat_nat1 k
      have nn1 := nonneg_nat1 k
      obtain ⟨b, o, hB⟩ := HLI.out.someR (by rw [HLn.out]; omega)
      subst hB
      have hltz : (k : Int) + 1 < L := by omega
      have hkz : (k : Int) < L := by omega
      have hpz : (0 : Int) < (k : Int) + 1 := by omega
      cases hq : ltB l[k + 1]!.name l[k]!.name with
      | true =>
        (
          have l1 : ∀ q : Later wo, (loadCellsFrom ⟨b, o + (k + 1) * 33, none⟩ 0 n33 #[]).run Tryd.prog q.w' = .ok (refV l[k + 1]!).toArray q.w' := fun q => load_ref HLI.out (rf_some (by rw [HLn.out]; omega)) (HFr.out.trans q.fr (fun _ _ e => e)) n33 HN.out
          have l2 : ∀ q : Later wo, (loadCellsFrom ⟨b, o + k * 33, none⟩ 0 n33 #[]).run Tryd.prog q.w' = .ok (refV l[k]!).toArray q.w' := fun q => load_ref HLI.out (rf_some (by rw [HLn.out]; omega)) (HFr.out.trans q.fr (fun _ _ e => e)) n33 HN.out
          have cc := fun w => RfNames_any l[k + 1]! l[k]! w
          have hd : decide (rfCmp l[k + 1]! l[k]! < 0) = true := by rw [← hq]; exact cmp_lt _ _
          obtain ⟨c1, hc1⟩ : ∃ c, (refV l[k + 1]!).toArray = c := ⟨_, rfl⟩
          obtain ⟨c2, hc2⟩ : ∃ c, (refV l[k]!).toArray = c := ⟨_, rfl⟩
          obtain ⟨m, hm⟩ : ∃ m, rfCmp l[k + 1]! l[k]! = m := ⟨_, rfl⟩
          rw [hc1] at l1 cc
          rw [hc2] at l2 cc
          rw [hm] at cc hd
          have CC := Lib.hid cc
          have HQ := Lib.hid hq
          have hv := hd
          first | replace hv := of_decide_eq_true hv | replace hv := of_decide_eq_false hv
          clear hc1 hc2 hm cc hq
          go_wp2_with fail
          refine wp_region_later (w0 := wo) (Fr.refl _ _) (by kernel_rfl) (by kernel_rfl) ?_
          repeat (quiet_step ((go_at_fn 34; refine Calls.later_of (CC.out _))))
          refine wpQuiet_nil ?_
          intro _ hw'
          obtain ⟨q, hw''⟩ := hw'
          subst hw''
          go_wp2_with fail)
        (try simp only [Exit.inBlock, Exit.then])
        go_ret
        exact ⟨by rw [HX.out k (by omega) HQ.out]; rfl, (HFr.out.trans q.fr (fun _ _ e => e)).below (fun _ _ e => e)⟩
      | false =>
        (
          have l1 : ∀ q : Later wo, (loadCellsFrom ⟨b, o + (k + 1) * 33, none⟩ 0 n33 #[]).run Tryd.prog q.w' = .ok (refV l[k + 1]!).toArray q.w' := fun q => load_ref HLI.out (rf_some (by rw [HLn.out]; omega)) (HFr.out.trans q.fr (fun _ _ e => e)) n33 HN.out
          have l2 : ∀ q : Later wo, (loadCellsFrom ⟨b, o + k * 33, none⟩ 0 n33 #[]).run Tryd.prog q.w' = .ok (refV l[k]!).toArray q.w' := fun q => load_ref HLI.out (rf_some (by rw [HLn.out]; omega)) (HFr.out.trans q.fr (fun _ _ e => e)) n33 HN.out
          have cc := fun w => RfNames_any l[k + 1]! l[k]! w
          have hd : decide (rfCmp l[k + 1]! l[k]! < 0) = false := by rw [← hq]; exact cmp_lt _ _
          obtain ⟨c1, hc1⟩ : ∃ c, (refV l[k + 1]!).toArray = c := ⟨_, rfl⟩
          obtain ⟨c2, hc2⟩ : ∃ c, (refV l[k]!).toArray = c := ⟨_, rfl⟩
          obtain ⟨m, hm⟩ : ∃ m, rfCmp l[k + 1]! l[k]! = m := ⟨_, rfl⟩
          rw [hc1] at l1 cc
          rw [hc2] at l2 cc
          rw [hm] at cc hd
          have CC := Lib.hid cc
          have HQ := Lib.hid hq
          have hv := hd
          first | replace hv := of_decide_eq_true hv | replace hv := of_decide_eq_false hv
          clear hc1 hc2 hm cc hq
          go_wp2_with fail
          refine wp_region_later (w0 := wo) (Fr.refl _ _) (by kernel_rfl) (by kernel_rfl) ?_
          repeat (quiet_step ((go_at_fn 34; refine Calls.later_of (CC.out _))))
          refine wpQuiet_nil ?_
          intro _ hw'
          obtain ⟨q, hw''⟩ := hw'
          subst hw''
          go_wp2_with fail)
        go_roundg (k + 1)
        case measure => omega
        case rel => exact ⟨k + 1, by go_num, by omega, Nat.le_refl _, HFr.out.trans q.fr (fun _ _ e => e), Lib.hid (fun j hj hj1 => by
          by_cases e : j = k
          · subst e; exact HQ.out
          · exact HI.out j (by omega) hj1)⟩
    · have hpz : ¬ ((0 : Int) < (i : Int) - 1) := by omega
      go_wp2_with fail
      go_ret
      exact ⟨by rw [HY.out (fun j hj => HI.out j (by omega) hj)]; rfl, HFr.out.below (fun _ _ e => e)⟩

set_option maxHeartbeats 3200000 in
theorem RfCheck_any (A : Option Addr) (cap : Nat) (l : List Rf) (hn : l.length ≤ 100000) (hcap : l.length ≤ cap) (w : World) (h : Lies w A (flatR l)) :
    Calls Tryd.prog 12 #[.slice A l.length cap] w fun e w' => e = .returned (.int .i64 (chkR l)) ∧ Below w.heap.size w w' := by
  have C1 := Lib.hid (GrContains_any A cap l hn w h)
  have C2 := Lib.hid (fun w1 (f : Fr (fun _ => False) w w1) => RfTwice_any A cap l hn hcap w1 (h.fr f (fun _ _ e => e)))
  have C3 := Lib.hid (fun w1 (f : Fr (fun _ => False) w w1) => GrIsSorted_any A cap l hn w1 (h.fr f (fun _ _ e => e)))
  have HC : Hid (chkR l = if 64 < l.length then 5 else if (l.all fun r => rightB r.name) = true then (if twR l = true then 17 else if isrR l = true then 0 else 18) else 15) := Lib.hid rfl
  obtain ⟨r1, h1⟩ : ∃ b, (l.all fun r => rightB r.name) = b := ⟨_, rfl⟩
  obtain ⟨r2, h2⟩ : ∃ b, twR l = b := ⟨_, rfl⟩
  obtain ⟨r3, h3⟩ : ∃ b, isrR l = b := ⟨_, rfl⟩
  obtain ⟨r, hr⟩ : ∃ r, chkR l = r := ⟨_, rfl⟩
  obtain ⟨L, hL⟩ : ∃ L, l.length = L := ⟨_, rfl⟩
  rw [hr, h1, h2, h3, hL] at HC
  rw [h1, hL] at C1
  rw [h2, hL] at C2
  rw [h3, hL] at C3
  rw [hr, hL]
  clear h h1 h2 h3 hr hL hn hcap
  go_enter Tryd.func12, Tryd.ntmps12
  by_cases hlen : 64 < L
  · have hlz : (64 : Int) < L := by omega
    go_wp2
    (try simp only [Exit.inBlock, Exit.then])
    go_ret
    exact ⟨by rw [HC.out, if_pos hlen]; rfl, (Fr.refl (fun _ => False) w).below (fun _ _ e => e)⟩
  · have hlz : ¬ ((64 : Int) < L) := by omega
    cases r1
    · (
      go_wp2_with (first
        | (go_at_call 33; refine (C3.out w3 F3.out).mono ?_; rintro e w4 ⟨rfl, b4⟩; have F4 := Lib.hid (F3.out.then_below b4); clear b4)
        | (go_at_call 32; refine (C2.out w2 F2.out).mono ?_; rintro e w3 ⟨rfl, b3⟩; have F3 := Lib.hid (F2.out.then_below b3); clear b3)
        | (go_at_call 31; refine C1.out.mono ?_; rintro e w2 ⟨rfl, b2⟩; have F2 := Lib.hid (Fr.of_below (S := fun _ => False) b2); clear b2))
      (try simp only [Exit.inBlock, Exit.then])
      go_ret)
      exact ⟨by rw [HC.out, if_neg hlen]; rfl, F2.out.below (fun _ _ e => e)⟩
    · cases r2
      · cases r3
        · (
          go_wp2_with (first
            | (go_at_call 33; refine (C3.out w3 F3.out).mono ?_; rintro e w4 ⟨rfl, b4⟩; have F4 := Lib.hid (F3.out.then_below b4); clear b4)
            | (go_at_call 32; refine (C2.out w2 F2.out).mono ?_; rintro e w3 ⟨rfl, b3⟩; have F3 := Lib.hid (F2.out.then_below b3); clear b3)
            | (go_at_call 31; refine C1.out.mono ?_; rintro e w2 ⟨rfl, b2⟩; have F2 := Lib.hid (Fr.of_below (S := fun _ => False) b2); clear b2))
          (try simp only [Exit.inBlock, Exit.then])
          go_ret)
          exact ⟨by rw [HC.out, if_neg hlen]; rfl, F4.out.below (fun _ _ e => e)⟩
        · (
          go_wp2_with (first
            | (go_at_call 33; refine (C3.out w3 F3.out).mono ?_; rintro e w4 ⟨rfl, b4⟩; have F4 := Lib.hid (F3.out.then_below b4); clear b4)
            | (go_at_call 32; refine (C2.out w2 F2.out).mono ?_; rintro e w3 ⟨rfl, b3⟩; have F3 := Lib.hid (F2.out.then_below b3); clear b3)
            | (go_at_call 31; refine C1.out.mono ?_; rintro e w2 ⟨rfl, b2⟩; have F2 := Lib.hid (Fr.of_below (S := fun _ => False) b2); clear b2))
          (try simp only [Exit.inBlock, Exit.then])
          go_ret)
          exact ⟨by rw [HC.out, if_neg hlen]; rfl, F4.out.below (fun _ _ e => e)⟩
      · (
        go_wp2_with (first
          | (go_at_call 33; refine (C3.out w3 F3.out).mono ?_; rintro e w4 ⟨rfl, b4⟩; have F4 := Lib.hid (F3.out.then_below b4); clear b4)
          | (go_at_call 32; refine (C2.out w2 F2.out).mono ?_; rintro e w3 ⟨rfl, b3⟩; have F3 := Lib.hid (F2.out.then_below b3); clear b3)
          | (go_at_call 31; refine C1.out.mono ?_; rintro e w2 ⟨rfl, b2⟩; have F2 := Lib.hid (Fr.of_below (S := fun _ => False) b2); clear b2))
        (try simp only [Exit.inBlock, Exit.then])
        go_ret)
        exact ⟨by rw [HC.out, if_neg hlen]; rfl, F3.out.below (fun _ _ e => e)⟩
end Go.Proofs.YtoakbdmfoepdgaaDoor

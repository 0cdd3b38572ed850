/- What is proved: the walk of the law RevBack, for every two commits and all bytes. Conditions: the arguments' cells are there; the library's table lies as its text lays it. -/
import Derived.Test.YtmgkgoncamdflaaDoorRwk
import Derived.Test.YtmgkgoncamdflaaDoorRvn
namespace Go.Proofs.YtmgkgoncamdflaaDoor
open Go.RowKit Go.Sort Go.Shelf
open Ids (idC dgt big idC_size idC_get idC_one cellD zero32 size32 dgt_lt hexB)
set_option linter.unusedVariables false

theorem putR_len (T : Nat) (ps : List Nat) (a : List UInt8) (n : Int) (t : List UInt8) : (putR T ps a n t).length ≤ 1000 := by
  by_cases h : chkE ps a n t = 0
  · obtain ⟨h1, h2, _, h3, h4, h5⟩ := chkE_ok h
    have ha := name_small h3
    have hd := digS_len n (by omega)
    rw [putR, if_pos h, revB, List.length_append, List.length_append, List.length_append, List.length_append, lineB_len, lineB_len, lineB_len, parB_len, hexI_len, List.length_append]
    show 4 + 64 + 2 + _ + (6 + _ + 2) + (4 + _ + 2) + (1 + _) ≤ 1000
    omega
  · rw [putR, if_neg h]; exact Nat.zero_le _

set_option maxHeartbeats 12800000 in
set_option maxRecDepth 100000 in
theorem back_walk (T : Nat) (A : Option Addr) (cap : Nat) (ps : List Nat) (a : List UInt8) (n : Int) (t : List UInt8) (hc : ps.length ≤ cap) (hb : ∀ n ∈ ps, n < big) (hT : T < big) (ha : a.length ≤ 9223372036854775806) (hn : -9223372036854775808 ≤ n) (ht : t.length ≤ 9223372036854775806)
    (Td : Nat) (Ad : Option Addr) (capd : Nat) (psd : List Nat) (ad : List UInt8) (nd : Int) (td : List UInt8) (hcd : psd.length ≤ capd) (hbd : ∀ n ∈ psd, n < big) (hTd : Td < big) (had : ad.length ≤ 9223372036854775806) (hnd : -9223372036854775808 ≤ nd) (htd : td.length ≤ 9223372036854775806)
    (B : Option Addr) (capb : Nat) (bs : List UInt8) (hcapb : bs.length ≤ capb) (w : World) (h1 : Lies w A (flatI ps)) (h2 : Lies w Ad (flatI psd)) (hl : Lies w B (bytesV bs)) (hTab : Tab10 w) (hpl : ps.length ≤ 9223372036854775807) :
    Calls Tryd.prog 5 #[.agg (revC T (.slice A ps.length cap) a n t), .agg (revC Td (.slice Ad psd.length capd) ad nd td), .slice B bs.length capb] w fun e w' => e = .returned (.bool true) ∧ Below w.heap.size w w' := by
  obtain ⟨w1, hw1⟩ : ∃ w1, w.alloc (.cells (revC T (.slice A ps.length cap) a n t) 26) = w1 := ⟨_, rfl⟩
  obtain ⟨w2, hw2⟩ : ∃ w2, w1.alloc (.cells (revC Td (.slice Ad psd.length capd) ad nd td) 26) = w2 := ⟨_, rfl⟩
  have hF1 : Fr (fun _ => False) w w1 := by subst hw1; exact (Fr.refl _ w).alloc _
  have hF2 : Fr (fun _ => False) w1 w2 := by subst hw2; exact (Fr.refl _ w1).alloc _
  have hsz1 : w1.heap.size = w.heap.size + 1 := by subst hw1; exact alloc_size _ _
  have hS1 : RevAt w2 w.heap.size T (.slice A ps.length cap) a n t := RevAt.fr (by subst hw1; exact RevAt.new w) hF2
  have hS2 : RevAt w2 w1.heap.size Td (.slice Ad psd.length capd) ad nd td := by subst hw2; exact RevAt.new w1
  rw [hsz1] at hS2
  obtain ⟨T36, hT36⟩ : ∃ T : TypeId, T = 26 := ⟨_, rfl⟩
  obtain ⟨n36, hn36⟩ : ∃ n : Nat, n = 36 := ⟨_, rfl⟩
  have HN36 := Lib.hid hn36
  have ag36 : ∀ w, (isAgg T36).run Tryd.prog w = .ok true w := by rw [hT36]; exact fun _ => by kernel_rfl
  have sz36 : ∀ w, (sizeOf T36).run Tryd.prog w = .ok n36 w := by rw [hT36, hn36]; exact fun _ => by kernel_rfl
  have HF := Lib.hid (hF1.trans hF2 (fun _ _ e => e))
  have HLD1 : Hid (∀ w', Fr (fun _ => False) w2 w' → (loadCellsFrom ⟨w.heap.size, 0, none⟩ 0 n36 #[]).run Tryd.prog w' = .ok (revC T (.slice A ps.length cap) a n t) w') := Lib.hid (fun w' f => load_all hS1 (by rw [hn36, revC_size]) f)
  have HLD2 : Hid (∀ w', Fr (fun _ => False) w2 w' → (loadCellsFrom ⟨w.heap.size + 1, 0, none⟩ 0 n36 #[]).run Tryd.prog w' = .ok (revC Td (.slice Ad psd.length capd) ad nd td) w') := Lib.hid (fun w' f => load_all hS2 (by rw [hn36, revC_size]) f)
  have HL := Lib.hid (fun w' (f : Fr (fun _ => False) w w') => hl.fr f (fun _ _ e => e))
  have HA := Lib.hid (fun w' (f : Fr (fun _ => False) w w') => h1.fr f (fun _ _ e => e))
  have C9 := Lib.hid (fun w' (f : Fr (fun _ => False) w w') => works7_any w' (hTab.fr f))
  obtain ⟨cr1, hcr1⟩ : ∃ c, revC T (.slice A ps.length cap) a n t = c := ⟨_, rfl⟩
  obtain ⟨cr2, hcr2⟩ : ∃ c, revC Td (.slice Ad psd.length capd) ad nd td = c := ⟨_, rfl⟩
  by_cases hbig : 2000 < bs.length
  · have hgt : (2000 : Int) < (bs.length : Int) := by omega
    obtain ⟨L, hL⟩ : ∃ L, bs.length = L := ⟨_, rfl⟩
    rw [hL] at hgt ⊢
    rw [hcr1] at hw1 ⊢
    rw [hcr2] at hw2 ⊢
    clear hL hl hbig HL HA hcapb hTab h1 h2 hS1 hS2 hF1 hF2 HLD1 HLD2 hT36 hcr1 hcr2
    go_enter Tryd.func5, Tryd.ntmps5
    go_wp2_with (go_at_call 17; refine (C9.out _ HF.out).mono ?_; rintro e w3 ⟨rfl, b3⟩)
    go_ret
    exact ⟨rfl, (HF.out.then_below b3).below (fun _ _ e => e)⟩
  · have hpr := getR_props bs
    have hgb := getR_back (b := bs)
    have C1 := Lib.hid (fun w' (f : Fr (fun _ => False) w w') => VPut_any T A cap ps a n t hc hb ha ht w' (h1.fr f (fun _ _ e => e)) (hTab.fr f))
    have hput := putR_back T ps a n t hT hb
    have hplen := putR_len T ps a n t
    have C2 := Lib.hid (fun w' A c (h : Lies w' A (bytesV (putR T ps a n t))) => VGet_any A c (putR T ps a n t) (by omega) w' h)
    have C4 := Lib.hid (fun w' A c (h : Lies w' A (bytesV bs)) => VGet_any A c bs (by omega) w' h)
    have C3 := Lib.hid (fun w' A B c d (h : Lies w' A (bytesV bs)) (h2 : Lies w' B (bytesV bs)) => Same_any A B c d bs bs w' h h2)
    rw [beq_self_eq_true] at C3
    have C6 := Lib.hid (fun w' (f : Fr (fun _ => False) w w') => VSame_any T Td hT hTd A Ad cap capd ps psd a ad n nd t td hb hbd hpl w' (h1.fr f (fun _ _ e => e)) (h2.fr f (fun _ _ e => e)))
    have C7 := Lib.hid (fun w' (f : Fr (fun _ => False) w w') => QvSame_any T Td hT hTd A Ad cap capd ps psd a ad n nd t td hb hbd hpl w' (h1.fr f (fun _ _ e => e)) (h2.fr f (fun _ _ e => e)))
    have C8 := Lib.hid (fun w' (f : Fr (fun _ => False) w w') => VSame_any T T hT hT A A cap cap ps ps a a n n t t hb hb hpl w' (h1.fr f (fun _ _ e => e)) (h1.fr f (fun _ _ e => e)))
    rw [sameR_self] at C8
    have CM := Lib.hid (fun w' Am cm (h : Lies w' Am (flatI ps)) (hA : Lies w' A (flatI ps)) => QvSame_any T T hT hT Am A cm cap ps ps a a n n t t hb hb hpl w' h hA)
    rw [sameR_self] at CM
    have HSZ1 := Lib.hid (fun A c => revC_size T (.slice A ps.length c) a n t)
    have HON1 := Lib.hid (fun A c => revC_one T (.slice A ps.length c) a n t rfl)
    obtain ⟨SR, hSR⟩ : ∃ s, sameR T Td ps psd a ad n nd t td = s := ⟨_, rfl⟩
    rw [hSR] at C6 C7
    obtain ⟨X, hX⟩ : ∃ X, getR bs = X := ⟨_, rfl⟩
    rw [hX] at C4 hpr hgb
    obtain ⟨⟨T2, ps2, a2, n2, t2⟩, E2⟩ := X
    simp only [] at C4 hpr hgb
    have C5 := Lib.hid (fun w' (f : Fr (fun _ => False) w w') A5 c5 (hc5 : ps2.length ≤ c5) (h5 : Lies w' A5 (flatI ps2)) => VPut_any T2 A5 c5 ps2 a2 n2 t2 hc5 hpr.2.1 (by omega) (by omega) w' h5 (hTab.fr f))
    obtain ⟨N2, hN2⟩ : ∃ N : Int, ((n2 : Nat) : Int) = N := ⟨_, rfl⟩
    rw [hN2] at C4 C5 hgb
    have HSZ2 := Lib.hid (fun A c => revC_size T2 (.slice A ps2.length c) a2 N2 t2)
    have HON2 := Lib.hid (fun A c => revC_one T2 (.slice A ps2.length c) a2 N2 t2 rfl)
    have HGB := Lib.hid hgb
    obtain ⟨P1, hP1⟩ : ∃ P, putR T ps a n t = P := ⟨_, rfl⟩
    rw [hP1] at C1 C2 hput
    obtain ⟨r, hr⟩ : ∃ r, chkE ps a n t = r := ⟨_, rfl⟩
    rw [hr] at C1 hput
    have HPUT := Lib.hid hput
    rw [hcr1] at hw1 HLD1 C1 C6 C7 C8 CM ⊢
    rw [hcr2] at hw2 HLD2 C6 C7 ⊢
    obtain ⟨L, hL⟩ : ∃ L, bs.length = L := ⟨_, rfl⟩
    have HLn := Lib.hid hL
    rw [hL] at C4 C3 hbig ⊢
    have hle : ¬ ((2000 : Int) < (L : Int)) := by omega
    clear hL hl hX hN2 hcapb hTab hpr hgb hP1 hr hput hplen hSR h1 h2 hS1 hS2 hF1 hF2 hcr1 hcr2 hn36
    have l20 := HLD1.out _ (Fr.refl _ w2)
    by_cases hr0 : r = 0
    · subst hr0
      obtain ⟨hp1, hp2⟩ := HPUT.out (by first | rfl | trivial)
      rw [hp1] at C2
      simp only [] at C2
      rw [hp2] at C2
      clear hp1 hp2
      by_cases hE : E2 = 0
      · subst hE
        obtain ⟨hg1, hg2⟩ := HGB.out (by first | rfl | trivial)
        rw [hg1, hg2] at C5
        clear hg1 hg2
        go_enter Tryd.func5, Tryd.ntmps5
        rw [show Op.load 26 (.tmp 3) = Op.load T36 (.tmp 3) by rw [hT36], show Op.load 26 (.tmp 4) = Op.load T36 (.tmp 4) by rw [hT36], show Op.load 26 (.tmp 9) = Op.load T36 (.tmp 9) by rw [hT36]]
        clear hT36
        go_wp2_with (first
          | (
            (go_at_call 12
             refine (C3.out wg _ _ _ _ L6.out (HL.out wg (HF.out.trans Fg.out (fun _ _ e => e)))).mono ?_
             rintro e wy ⟨rfl, rfl⟩))
          | (
            (have _ := M5
             go_at_call 8
             have c5' := C5.out wf (HF.out.trans Ff.out (fun _ _ e => e)) A5 c5 HK5.out L5f.out
             rw [HM2.out] at c5'
             refine c5'.mono ?_
             rintro e wg ⟨v6, rfl, o6⟩
             obtain ⟨A6, c6, rfl, _, l6, _⟩ := o6.slice
             rw [HLn.out]
             have Fg := Lib.hid (Ff.out.trans o6.2 (fun _ _ e => e))
             have L6 := Lib.hid l6
             clear o6 l6))
          | (have _ := M5; refine wpList_load_row rfl 26 _ rfl we.heap.size rfl 26 cm2 _ _ W5.out Tryd.underlying26 rfl (by rw [hs5]; exact size36) ?_)
          | (
            (have _ := M5
             refine wpList_store_at rfl 26 _ _ rfl we.heap.size 0 26 zeroR cm2 rfl rfl (Whole.new we 26 zeroR) (by rw [hs5]; decide) (by rw [hs5]; exact size36) ho5 ?_
             intro wf hwf hff
             rw [laidAt_all _ _ (by rw [hs5]; rfl)] at hwf
             have W5 := Lib.hid hwf
             have fef : Fr (fun _ => False) we wf := ((Fr.refl (fun _ => False) we).alloc (.cells zeroR 26)).trans hff (fun i hi e => by omega)
             have Ff := Lib.hid (Fe.out.trans fef (fun _ _ e => e))
             have L5f := Lib.hid (L5.out.fr fef (fun _ _ e => e))
             clear hwf hff fef))
          | (have _ := M3; (
            (go_at_call 18
             refine (C4.out wd _ _ (HL.out wd (HF.out.trans Fd.out (fun _ _ e => e)))).mono ?_
             rintro e we ⟨v2, rfl, o2⟩
             obtain ⟨A5, c5, hv5, hk5, _, _, l5⟩ := o2.slice
             subst hv5
             have hs5 := HSZ2.out A5 c5
             have ho5 := HON2.out A5 c5
             have L5 := Lib.hid l5
             have Fe := Lib.hid (Fd.out.trans o2.2 (fun _ _ e => e))
             obtain ⟨cm2, hcm2⟩ : ∃ c, revC T2 (.slice A5 ps2.length c5) a2 N2 t2 = c := ⟨_, rfl⟩
             rw [hcm2] at hs5 ho5 ⊢
             have HM2 := Lib.hid hcm2
             have HK5 := Lib.hid hk5
             have M5 := True.intro
             clear o2 hcm2 l5 hk5)))
          | (go_at_call 20
             have c3 := CM.out wc _ c2 L2c.out (HA.out wc (HF.out.trans Fc.out (fun _ _ e => e)))
             rw [HM1.out] at c3
             refine c3.mono ?_
             rintro e wd ⟨rfl, bd⟩
             have Fd := Lib.hid (Fc.out.then_below bd)
             have M3 := True.intro
             clear bd)
          | (refine wpList_store_at rfl 26 _ _ rfl wb.heap.size 0 26 zeroR cm1 rfl rfl (Whole.new wb 26 zeroR) (by rw [hs1]; decide) (by rw [hs1]; exact size36) ho1 ?_
             intro wc hwc hfc
             rw [laidAt_all _ _ (by rw [hs1]; rfl)] at hwc
             have W1 := Lib.hid hwc
             have fbc : Fr (fun _ => False) wb wc := ((Fr.refl (fun _ => False) wb).alloc (.cells zeroR 26)).trans hfc (fun i hi e => by omega)
             have Fc := Lib.hid (Fb.out.trans fbc (fun _ _ e => e))
             have L2c := Lib.hid (L2.out.fr fbc (fun _ _ e => e))
             have l2c := HLD1.out _ Fc.out
             have l9 := load_all (n := n36) W1.out (by rw [HN36.out, hs1]) (Fr.refl _ wc)
             clear hwc hfc fbc)
          | (go_at_call 18
             refine (C2.out wa _ _ L1.out).mono ?_
             rintro e wb ⟨v2, rfl, o2⟩
             obtain ⟨A2, c2, hv2, _, _, _, l2⟩ := o2.slice
             subst hv2
             have hs1 := HSZ1.out A2 c2
             have ho1 := HON1.out A2 c2
             have L2 := Lib.hid l2
             have Fb := Lib.hid (Fa.out.trans o2.2 (fun _ _ e => e))
             obtain ⟨cm1, hcm1⟩ : ∃ c, revC T (.slice A2 ps.length c2) a n t = c := ⟨_, rfl⟩
             rw [hcm1] at hs1 ho1 ⊢
             have HM1 := Lib.hid hcm1
             clear o2 hcm1 l2)
          | (
            (go_at_call 8
             refine (C1.out _ HF.out).mono ?_
             rintro e wa ⟨v1, rfl, o1⟩
             obtain ⟨A1, c1, rfl, _, l1, _⟩ := o1.slice
             have Fa := Lib.hid o1.2
             have L1 := Lib.hid l1
             clear o1 l1)))
        obtain ⟨wz, hwz⟩ : ∃ wz, wg = wz := ⟨_, rfl⟩
        have FZ := Fg
        rw [hwz] at FZ ⊢
        (
          have HFF := Lib.hid (HF.out.trans FZ.out (fun _ _ e => e))
          have lq1 : ∀ q : Later wz, (loadCellsFrom ⟨w.heap.size, 0, none⟩ 0 n36 #[]).run Tryd.prog q.w' = .ok cr1 q.w' := fun q => HLD1.out _ (FZ.out.trans q.fr (fun _ _ e => e))
          have lq2 : ∀ q : Later wz, (loadCellsFrom ⟨w.heap.size + 1, 0, none⟩ 0 n36 #[]).run Tryd.prog q.w' = .ok cr2 q.w' := fun q => HLD2.out _ (FZ.out.trans q.fr (fun _ _ e => e))
          clear hw1 hw2
          refine wp_region_later (w0 := wz) (Fr.refl _ _) (by kernel_rfl) (by kernel_rfl) ?_
          repeat (quiet_step ((first
            | (go_at_call 20; refine Calls.later_of (C7.out _ (HFF.out.trans (Later.fr _) (fun _ _ e => e))))
            | (go_at_call_of 21 (Value.agg cr2); refine Calls.later_of (C6.out _ (HFF.out.trans (Later.fr _) (fun _ _ e => e))))
            | (go_at_call 21; refine Calls.later_of (C8.out _ (HFF.out.trans (Later.fr _) (fun _ _ e => e))))
            | (go_at_call 17; refine Calls.later_of (C9.out _ (HFF.out.trans (Later.fr _) (fun _ _ e => e)))))))
          refine wpQuiet_nil ?_
          intro _ hw'
          obtain ⟨q, hw''⟩ := hw'
          subst hw''
          go_wp2_with fail
          go_ret
          exact ⟨rfl, (HFF.out.trans q.fr (fun _ _ e => e)).below (fun _ _ e => e)⟩)
      · have hEz : (E2 == 0) = false := by simp [hE]
        go_enter Tryd.func5, Tryd.ntmps5
        rw [show Op.load 26 (.tmp 3) = Op.load T36 (.tmp 3) by rw [hT36], show Op.load 26 (.tmp 4) = Op.load T36 (.tmp 4) by rw [hT36], show Op.load 26 (.tmp 9) = Op.load T36 (.tmp 9) by rw [hT36]]
        clear hT36
        go_wp2_with (first
          | (
            (have _ := M5
             refine wpList_store_at rfl 26 _ _ rfl we.heap.size 0 26 zeroR cm2 rfl rfl (Whole.new we 26 zeroR) (by rw [hs5]; decide) (by rw [hs5]; exact size36) ho5 ?_
             intro wf hwf hff
             rw [laidAt_all _ _ (by rw [hs5]; rfl)] at hwf
             have W5 := Lib.hid hwf
             have fef : Fr (fun _ => False) we wf := ((Fr.refl (fun _ => False) we).alloc (.cells zeroR 26)).trans hff (fun i hi e => by omega)
             have Ff := Lib.hid (Fe.out.trans fef (fun _ _ e => e))
             have L5f := Lib.hid (L5.out.fr fef (fun _ _ e => e))
             clear hwf hff fef))
          | (have _ := M3; (
            (go_at_call 18
             refine (C4.out wd _ _ (HL.out wd (HF.out.trans Fd.out (fun _ _ e => e)))).mono ?_
             rintro e we ⟨v2, rfl, o2⟩
             obtain ⟨A5, c5, hv5, hk5, _, _, l5⟩ := o2.slice
             subst hv5
             have hs5 := HSZ2.out A5 c5
             have ho5 := HON2.out A5 c5
             have L5 := Lib.hid l5
             have Fe := Lib.hid (Fd.out.trans o2.2 (fun _ _ e => e))
             obtain ⟨cm2, hcm2⟩ : ∃ c, revC T2 (.slice A5 ps2.length c5) a2 N2 t2 = c := ⟨_, rfl⟩
             rw [hcm2] at hs5 ho5 ⊢
             have HM2 := Lib.hid hcm2
             have HK5 := Lib.hid hk5
             have M5 := True.intro
             clear o2 hcm2 l5 hk5)))
          | (go_at_call 20
             have c3 := CM.out wc _ c2 L2c.out (HA.out wc (HF.out.trans Fc.out (fun _ _ e => e)))
             rw [HM1.out] at c3
             refine c3.mono ?_
             rintro e wd ⟨rfl, bd⟩
             have Fd := Lib.hid (Fc.out.then_below bd)
             have M3 := True.intro
             clear bd)
          | (refine wpList_store_at rfl 26 _ _ rfl wb.heap.size 0 26 zeroR cm1 rfl rfl (Whole.new wb 26 zeroR) (by rw [hs1]; decide) (by rw [hs1]; exact size36) ho1 ?_
             intro wc hwc hfc
             rw [laidAt_all _ _ (by rw [hs1]; rfl)] at hwc
             have W1 := Lib.hid hwc
             have fbc : Fr (fun _ => False) wb wc := ((Fr.refl (fun _ => False) wb).alloc (.cells zeroR 26)).trans hfc (fun i hi e => by omega)
             have Fc := Lib.hid (Fb.out.trans fbc (fun _ _ e => e))
             have L2c := Lib.hid (L2.out.fr fbc (fun _ _ e => e))
             have l2c := HLD1.out _ Fc.out
             have l9 := load_all (n := n36) W1.out (by rw [HN36.out, hs1]) (Fr.refl _ wc)
             clear hwc hfc fbc)
          | (go_at_call 18
             refine (C2.out wa _ _ L1.out).mono ?_
             rintro e wb ⟨v2, rfl, o2⟩
             obtain ⟨A2, c2, hv2, _, _, _, l2⟩ := o2.slice
             subst hv2
             have hs1 := HSZ1.out A2 c2
             have ho1 := HON1.out A2 c2
             have L2 := Lib.hid l2
             have Fb := Lib.hid (Fa.out.trans o2.2 (fun _ _ e => e))
             obtain ⟨cm1, hcm1⟩ : ∃ c, revC T (.slice A2 ps.length c2) a n t = c := ⟨_, rfl⟩
             rw [hcm1] at hs1 ho1 ⊢
             have HM1 := Lib.hid hcm1
             clear o2 hcm1 l2)
          | (
            (go_at_call 8
             refine (C1.out _ HF.out).mono ?_
             rintro e wa ⟨v1, rfl, o1⟩
             obtain ⟨A1, c1, rfl, _, l1, _⟩ := o1.slice
             have Fa := Lib.hid o1.2
             have L1 := Lib.hid l1
             clear o1 l1)))
        obtain ⟨wz, hwz⟩ : ∃ wz, wf = wz := ⟨_, rfl⟩
        have FZ := Ff
        rw [hwz] at FZ ⊢
        (
          have HFF := Lib.hid (HF.out.trans FZ.out (fun _ _ e => e))
          have lq1 : ∀ q : Later wz, (loadCellsFrom ⟨w.heap.size, 0, none⟩ 0 n36 #[]).run Tryd.prog q.w' = .ok cr1 q.w' := fun q => HLD1.out _ (FZ.out.trans q.fr (fun _ _ e => e))
          have lq2 : ∀ q : Later wz, (loadCellsFrom ⟨w.heap.size + 1, 0, none⟩ 0 n36 #[]).run Tryd.prog q.w' = .ok cr2 q.w' := fun q => HLD2.out _ (FZ.out.trans q.fr (fun _ _ e => e))
          clear hw1 hw2
          refine wp_region_later (w0 := wz) (Fr.refl _ _) (by kernel_rfl) (by kernel_rfl) ?_
          repeat (quiet_step ((first
            | (go_at_call 20; refine Calls.later_of (C7.out _ (HFF.out.trans (Later.fr _) (fun _ _ e => e))))
            | (go_at_call_of 21 (Value.agg cr2); refine Calls.later_of (C6.out _ (HFF.out.trans (Later.fr _) (fun _ _ e => e))))
            | (go_at_call 21; refine Calls.later_of (C8.out _ (HFF.out.trans (Later.fr _) (fun _ _ e => e))))
            | (go_at_call 17; refine Calls.later_of (C9.out _ (HFF.out.trans (Later.fr _) (fun _ _ e => e)))))))
          refine wpQuiet_nil ?_
          intro _ hw'
          obtain ⟨q, hw''⟩ := hw'
          subst hw''
          go_wp2_with fail
          go_ret
          exact ⟨rfl, (HFF.out.trans q.fr (fun _ _ e => e)).below (fun _ _ e => e)⟩)
    · have hrz : (r == 0) = false := by simp [hr0]
      by_cases hE : E2 = 0
      · subst hE
        obtain ⟨hg1, hg2⟩ := HGB.out (by first | rfl | trivial)
        rw [hg1, hg2] at C5
        clear hg1 hg2
        go_enter Tryd.func5, Tryd.ntmps5
        rw [show Op.load 26 (.tmp 3) = Op.load T36 (.tmp 3) by rw [hT36], show Op.load 26 (.tmp 4) = Op.load T36 (.tmp 4) by rw [hT36], show Op.load 26 (.tmp 9) = Op.load T36 (.tmp 9) by rw [hT36]]
        clear hT36
        go_wp2_with (first
          | (
            (go_at_call 12
             refine (C3.out wg _ _ _ _ L6.out (HL.out wg (HF.out.trans Fg.out (fun _ _ e => e)))).mono ?_
             rintro e wy ⟨rfl, rfl⟩))
          | (
            (have _ := M5
             go_at_call 8
             have c5' := C5.out wf (HF.out.trans Ff.out (fun _ _ e => e)) A5 c5 HK5.out L5f.out
             rw [HM2.out] at c5'
             refine c5'.mono ?_
             rintro e wg ⟨v6, rfl, o6⟩
             obtain ⟨A6, c6, rfl, _, l6, _⟩ := o6.slice
             rw [HLn.out]
             have Fg := Lib.hid (Ff.out.trans o6.2 (fun _ _ e => e))
             have L6 := Lib.hid l6
             clear o6 l6))
          | (have _ := M5; refine wpList_load_row rfl 26 _ rfl we.heap.size rfl 26 cm2 _ _ W5.out Tryd.underlying26 rfl (by rw [hs5]; exact size36) ?_)
          | (
            (have _ := M5
             refine wpList_store_at rfl 26 _ _ rfl we.heap.size 0 26 zeroR cm2 rfl rfl (Whole.new we 26 zeroR) (by rw [hs5]; decide) (by rw [hs5]; exact size36) ho5 ?_
             intro wf hwf hff
             rw [laidAt_all _ _ (by rw [hs5]; rfl)] at hwf
             have W5 := Lib.hid hwf
             have fef : Fr (fun _ => False) we wf := ((Fr.refl (fun _ => False) we).alloc (.cells zeroR 26)).trans hff (fun i hi e => by omega)
             have Ff := Lib.hid (Fe.out.trans fef (fun _ _ e => e))
             have L5f := Lib.hid (L5.out.fr fef (fun _ _ e => e))
             clear hwf hff fef))
          | (
            (go_at_call 18
             refine (C4.out wa _ _ (HL.out wa (HF.out.trans Fa.out (fun _ _ e => e)))).mono ?_
             rintro e we ⟨v2, rfl, o2⟩
             obtain ⟨A5, c5, hv5, hk5, _, _, l5⟩ := o2.slice
             subst hv5
             have hs5 := HSZ2.out A5 c5
             have ho5 := HON2.out A5 c5
             have L5 := Lib.hid l5
             have Fe := Lib.hid (Fa.out.trans o2.2 (fun _ _ e => e))
             obtain ⟨cm2, hcm2⟩ : ∃ c, revC T2 (.slice A5 ps2.length c5) a2 N2 t2 = c := ⟨_, rfl⟩
             rw [hcm2] at hs5 ho5 ⊢
             have HM2 := Lib.hid hcm2
             have HK5 := Lib.hid hk5
             have M5 := True.intro
             clear o2 hcm2 l5 hk5))
          | (
            (go_at_call 8
             refine (C1.out _ HF.out).mono ?_
             rintro e wa ⟨v1, rfl, o1⟩
             obtain ⟨A1, c1, rfl, _, l1, _⟩ := o1.slice
             have Fa := Lib.hid o1.2
             have L1 := Lib.hid l1
             clear o1 l1)))
        obtain ⟨wz, hwz⟩ : ∃ wz, wg = wz := ⟨_, rfl⟩
        have FZ := Fg
        rw [hwz] at FZ ⊢
        (
          have HFF := Lib.hid (HF.out.trans FZ.out (fun _ _ e => e))
          have lq1 : ∀ q : Later wz, (loadCellsFrom ⟨w.heap.size, 0, none⟩ 0 n36 #[]).run Tryd.prog q.w' = .ok cr1 q.w' := fun q => HLD1.out _ (FZ.out.trans q.fr (fun _ _ e => e))
          have lq2 : ∀ q : Later wz, (loadCellsFrom ⟨w.heap.size + 1, 0, none⟩ 0 n36 #[]).run Tryd.prog q.w' = .ok cr2 q.w' := fun q => HLD2.out _ (FZ.out.trans q.fr (fun _ _ e => e))
          clear hw1 hw2
          refine wp_region_later (w0 := wz) (Fr.refl _ _) (by kernel_rfl) (by kernel_rfl) ?_
          repeat (quiet_step ((first
            | (go_at_call 20; refine Calls.later_of (C7.out _ (HFF.out.trans (Later.fr _) (fun _ _ e => e))))
            | (go_at_call_of 21 (Value.agg cr2); refine Calls.later_of (C6.out _ (HFF.out.trans (Later.fr _) (fun _ _ e => e))))
            | (go_at_call 21; refine Calls.later_of (C8.out _ (HFF.out.trans (Later.fr _) (fun _ _ e => e))))
            | (go_at_call 17; refine Calls.later_of (C9.out _ (HFF.out.trans (Later.fr _) (fun _ _ e => e)))))))
          refine wpQuiet_nil ?_
          intro _ hw'
          obtain ⟨q, hw''⟩ := hw'
          subst hw''
          go_wp2_with fail
          go_ret
          exact ⟨rfl, (HFF.out.trans q.fr (fun _ _ e => e)).below (fun _ _ e => e)⟩)
      · have hEz : (E2 == 0) = false := by simp [hE]
        go_enter Tryd.func5, Tryd.ntmps5
        rw [show Op.load 26 (.tmp 3) = Op.load T36 (.tmp 3) by rw [hT36], show Op.load 26 (.tmp 4) = Op.load T36 (.tmp 4) by rw [hT36], show Op.load 26 (.tmp 9) = Op.load T36 (.tmp 9) by rw [hT36]]
        clear hT36
        go_wp2_with (first
          | (
            (have _ := M5
             refine wpList_store_at rfl 26 _ _ rfl we.heap.size 0 26 zeroR cm2 rfl rfl (Whole.new we 26 zeroR) (by rw [hs5]; decide) (by rw [hs5]; exact size36) ho5 ?_
             intro wf hwf hff
             rw [laidAt_all _ _ (by rw [hs5]; rfl)] at hwf
             have W5 := Lib.hid hwf
             have fef : Fr (fun _ => False) we wf := ((Fr.refl (fun _ => False) we).alloc (.cells zeroR 26)).trans hff (fun i hi e => by omega)
             have Ff := Lib.hid (Fe.out.trans fef (fun _ _ e => e))
             have L5f := Lib.hid (L5.out.fr fef (fun _ _ e => e))
             clear hwf hff fef))
          | (
            (go_at_call 18
             refine (C4.out wa _ _ (HL.out wa (HF.out.trans Fa.out (fun _ _ e => e)))).mono ?_
             rintro e we ⟨v2, rfl, o2⟩
             obtain ⟨A5, c5, hv5, hk5, _, _, l5⟩ := o2.slice
             subst hv5
             have hs5 := HSZ2.out A5 c5
             have ho5 := HON2.out A5 c5
             have L5 := Lib.hid l5
             have Fe := Lib.hid (Fa.out.trans o2.2 (fun _ _ e => e))
             obtain ⟨cm2, hcm2⟩ : ∃ c, revC T2 (.slice A5 ps2.length c5) a2 N2 t2 = c := ⟨_, rfl⟩
             rw [hcm2] at hs5 ho5 ⊢
             have HM2 := Lib.hid hcm2
             have HK5 := Lib.hid hk5
             have M5 := True.intro
             clear o2 hcm2 l5 hk5))
          | (
            (go_at_call 8
             refine (C1.out _ HF.out).mono ?_
             rintro e wa ⟨v1, rfl, o1⟩
             obtain ⟨A1, c1, rfl, _, l1, _⟩ := o1.slice
             have Fa := Lib.hid o1.2
             have L1 := Lib.hid l1
             clear o1 l1)))
        obtain ⟨wz, hwz⟩ : ∃ wz, wf = wz := ⟨_, rfl⟩
        have FZ := Ff
        rw [hwz] at FZ ⊢
        (
          have HFF := Lib.hid (HF.out.trans FZ.out (fun _ _ e => e))
          have lq1 : ∀ q : Later wz, (loadCellsFrom ⟨w.heap.size, 0, none⟩ 0 n36 #[]).run Tryd.prog q.w' = .ok cr1 q.w' := fun q => HLD1.out _ (FZ.out.trans q.fr (fun _ _ e => e))
          have lq2 : ∀ q : Later wz, (loadCellsFrom ⟨w.heap.size + 1, 0, none⟩ 0 n36 #[]).run Tryd.prog q.w' = .ok cr2 q.w' := fun q => HLD2.out _ (FZ.out.trans q.fr (fun _ _ e => e))
          clear hw1 hw2
          refine wp_region_later (w0 := wz) (Fr.refl _ _) (by kernel_rfl) (by kernel_rfl) ?_
          repeat (quiet_step ((first
            | (go_at_call 20; refine Calls.later_of (C7.out _ (HFF.out.trans (Later.fr _) (fun _ _ e => e))))
            | (go_at_call_of 21 (Value.agg cr2); refine Calls.later_of (C6.out _ (HFF.out.trans (Later.fr _) (fun _ _ e => e))))
            | (go_at_call 21; refine Calls.later_of (C8.out _ (HFF.out.trans (Later.fr _) (fun _ _ e => e))))
            | (go_at_call 17; refine Calls.later_of (C9.out _ (HFF.out.trans (Later.fr _) (fun _ _ e => e)))))))
          refine wpQuiet_nil ?_
          intro _ hw'
          obtain ⟨q, hw''⟩ := hw'
          subst hw''
          go_wp2_with fail
          go_ret
          exact ⟨rfl, (HFF.out.trans q.fr (fun _ _ e => e)).below (fun _ _ e => e)⟩)
end Go.Proofs.YtmgkgoncamdflaaDoor

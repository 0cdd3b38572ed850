/- What is proved: the walk of the law RevMarkBack, for every tag and all bytes. Conditions: the bytes' cells are there; the library's table lies as its text lays it. -/
import Derived.Test.YtppddpbacpeadaaDoorRxj
namespace Go.Proofs.YtppddpbacpeadaaDoor
open Go.RowKit Go.Sort Go.Shelf
open Ids (idC dgt big idC_size idC_get idC_one cellD zero32 size32 dgt_lt hexB)
set_option linter.unusedVariables false

set_option maxHeartbeats 12800000 in
set_option maxRecDepth 100000 in
theorem mback_walk (T : Nat) (k : Int) (a : List UInt8) (n : Int) (t : List UInt8) (hT : T < big) (ha : a.length ≤ 9223372036854775806) (ht : t.length ≤ 9223372036854775806)
    (A : Option Addr) (cap : Nat) (bs : List UInt8) (hcap : bs.length ≤ cap) (w : World) (hl : Lies w A (bytesV bs)) (hTab : Tab10 w) :
    Calls Tryd.prog 7 #[.agg (markC T k a n t), .slice A bs.length cap] w fun e w' => e = .returned (.bool true) ∧ Below w.heap.size w w' := by
  obtain ⟨w1, hw1⟩ : ∃ w1, w.alloc (.cells (markC T k a n t) 51) = w1 := ⟨_, rfl⟩
  have hF : Fr (fun _ => False) w w1 := by subst hw1; exact (Fr.refl _ w).alloc _
  have hS : MarkAt w1 w.heap.size T k a n t := by subst hw1; exact MarkAt.new w
  obtain ⟨T36, hT36⟩ : ∃ T : TypeId, T = 51 := ⟨_, rfl⟩
  obtain ⟨n36, hn36⟩ : ∃ n : Nat, n = 36 := ⟨_, rfl⟩
  have HN36 := Lib.hid hn36
  have ag36 : ∀ w, (isAgg T36).run Tryd.prog w = .ok true w := by rw [hT36]; exact fun _ => by kernel_rfl
  have sz36 : ∀ w, (sizeOf T36).run Tryd.prog w = .ok n36 w := by rw [hT36, hn36]; exact fun _ => by kernel_rfl
  have HF := Lib.hid hF
  have HLD : Hid (∀ w', Fr (fun _ => False) w1 w' → (loadCellsFrom ⟨w.heap.size, 0, none⟩ 0 n36 #[]).run Tryd.prog w' = .ok (markC T k a n t) w') := Lib.hid (fun w' f => load_all hS (by rw [hn36, markC_size]) f)
  have HL := Lib.hid (fun w' (f : Fr (fun _ => False) w w') => hl.fr f (fun _ _ e => e))
  have C9 := Lib.hid (fun w' (f : Fr (fun _ => False) w w') => works7_any w' (hTab.fr f))
  by_cases hbig : 2000 < bs.length
  · have hgt : (2000 : Int) < (bs.length : Int) := by omega
    obtain ⟨cs, hcs⟩ : ∃ cs, markC T k a n t = cs := ⟨_, rfl⟩
    rw [hcs] at hw1 ⊢
    obtain ⟨L, hL⟩ : ∃ L, bs.length = L := ⟨_, rfl⟩
    rw [hL] at hgt ⊢
    clear hL hl hbig HL hcap hTab HLD hS hF hT36 hn36 hcs
    go_enter Tryd.func7, Tryd.ntmps7
    go_wp2_with (go_at_call 17; refine (C9.out _ HF.out).mono ?_; rintro e w2 ⟨rfl, b2⟩)
    go_ret
    exact ⟨rfl, (HF.out.then_below b2).below (fun _ _ e => e)⟩
  · have hpr := getM_props bs
    have hgb := getM_back (b := bs)
    have hgz := getM_bad (b := bs)
    have hput := putM_back T k a n t hT
    have hplen := putM_len T k a n t
    have C1 := Lib.hid (fun w' (f : Fr (fun _ => False) w w') => VPutMark_any T k a n t ha ht w' (hTab.fr f))
    have C2 := Lib.hid (fun w' A c (h : Lies w' A (bytesV (putM T k a n t))) => VGetMark_any A c (putM T k a n t) (by omega) w' h)
    have C4 := Lib.hid (fun w' (f : Fr (fun _ => False) w w') => VGetMark_any A cap bs (by omega) w' (HL.out w' f))
    have C3 := Lib.hid (fun w' A B c d (h : Lies w' A (bytesV bs)) (h2 : Lies w' B (bytesV bs)) => Same_any A B c d bs bs w' h h2)
    rw [beq_self_eq_true] at C3
    have hs1 := markC_size T k a n t
    have ho1 := markC_one T k a n t
    have heq1 := fun w => eq_mark T k a n t 10000 (by decide) w
    obtain ⟨X, hX⟩ : ∃ X, getM bs = X := ⟨_, rfl⟩
    rw [hX] at C4 hpr hgb hgz
    obtain ⟨⟨T2, k2, a2, n2, t2⟩, E2⟩ := X
    simp only [] at C4 hpr hgb hgz
    have C5 := Lib.hid (fun w' (f : Fr (fun _ => False) w w') => VPutMark_any T2 k2 a2 n2 t2 (by omega) (by omega) w' (hTab.fr f))
    have hs2 := markC_size T2 k2 a2 n2 t2
    have ho2 := markC_one T2 k2 a2 n2 t2
    have HGB := Lib.hid hgb
    have HGZ : Hid (E2 ≠ 0 → markC T2 k2 a2 n2 t2 = zeroM) := Lib.hid (fun h => by
      have := hgz h
      injection this with e1 e2 e3 e4 e5
      rw [e1, e2, e3, e4, e5, zeroM_eq]; rfl)
    have heq0 : ∀ w, (Op.equalIn 10000 51 (.agg zeroM) (.agg zeroM)).run Tryd.prog w = .ok true w := fun w => by rw [zeroM_eq]; exact eq_mark 0 0 [] 0 [] 10000 (by decide) w
    have HBZ := Lib.hid zeroM_build
    obtain ⟨P1, hP1⟩ : ∃ P, putM T k a n t = P := ⟨_, rfl⟩
    rw [hP1] at C1 C2 hput
    obtain ⟨r, hr⟩ : ∃ r, mchkE k a n t = r := ⟨_, rfl⟩
    rw [hr] at C1 hput
    have HPUT := Lib.hid hput
    obtain ⟨cr1, hcr1⟩ : ∃ c, markC T k a n t = c := ⟨_, rfl⟩
    have HCR1 := Lib.hid hcr1
    rw [hcr1] at hw1 HLD C1 hs1 ho1 heq1 ⊢
    obtain ⟨cm2, hcm2⟩ : ∃ c, markC T2 k2 a2 n2 t2 = c := ⟨_, rfl⟩
    rw [hcm2] at C4 C5 hs2 ho2 HGZ
    obtain ⟨L, hL⟩ : ∃ L, bs.length = L := ⟨_, rfl⟩
    have HLn := Lib.hid hL
    rw [hL] at C4 C3 hbig ⊢
    have hle : ¬ ((2000 : Int) < (L : Int)) := by omega
    clear hL hl hX hcap hTab hpr hgb hgz hP1 hr hput hplen hS hF hcr1 hcm2 hn36 ha ht
    have l20 := HLD.out _ (Fr.refl _ w1)
    by_cases hr0 : r = 0
    · subst hr0
      obtain ⟨hp1, hp2, hp3⟩ := HPUT.out (by first | rfl | trivial)
      rw [hp1] at C2
      simp only [] at C2
      rw [hp2, hp3, HCR1.out] at C2
      clear hp1 hp2 hp3
      by_cases hE : E2 = 0
      · subst hE
        obtain ⟨hg1, hg2⟩ := HGB.out (by first | rfl | trivial)
        rw [hg1, hg2] at C5
        clear hg1 hg2 heq0
        (
          go_enter Tryd.func7, Tryd.ntmps7
          rw [show Op.load 51 (.tmp 2) = Op.load T36 (.tmp 2) by rw [hT36], show Op.load 51 (.tmp 7) = Op.load T36 (.tmp 7) by rw [hT36], show Op.load 51 (.tmp 9) = Op.load T36 (.tmp 9) by rw [hT36]]
          clear hT36)
        go_wp2_with (first
          | (have _ := M5; (
            (go_at_call 17; refine (C9.out _ (HF.out.trans Fg.out (fun _ _ e => e))).mono ?_; rintro e wz ⟨rfl, bz⟩)))
          | (
            (go_at_call 12
             refine (C3.out wg _ _ _ _ L6.out (HL.out wg (HF.out.trans Fg.out (fun _ _ e => e)))).mono ?_
             rintro e wy ⟨rfl, rfl⟩))
          | (
            (have _ := M5
             go_at_call 22
             refine (C5.out wf (HF.out.trans Ff.out (fun _ _ e => e))).mono ?_
             rintro e wg ⟨v6, rfl, o6⟩
             obtain ⟨A6, c6, rfl, _, l6, _⟩ := o6.slice
             rw [HLn.out]
             have Fg := Lib.hid (Ff.out.trans o6.2 (fun _ _ e => e))
             have L6 := Lib.hid l6
             clear o6 l6))
          | (
            (have _ := M5
             refine wpList_store_at rfl 51 _ _ rfl we.heap.size 0 51 zeroM cm2 rfl rfl (Whole.new we 51 zeroM) (by rw [hs2]; decide) (by rw [hs2]; exact size36m) ho2 ?_
             intro wf hwf hff
             rw [laidAt_all _ _ (by rw [hs2]; rfl)] at hwf
             have W5 := Lib.hid hwf
             have fef : Fr (fun _ => False) we wf := ((Fr.refl (fun _ => False) we).alloc (.cells zeroM 51)).trans hff (fun i hi e => by omega)
             have Ff := Lib.hid (Fe.out.trans fef (fun _ _ e => e))
             have l5 := load_all (n := n36) W5.out (by rw [HN36.out, hs2]) (Fr.refl _ wf)
             clear hwf hff fef))
          | (have _ := M3; (
            (go_at_call 24
             refine (C4.out wc (HF.out.trans Fc.out (fun _ _ e => e))).mono ?_
             rintro e we ⟨rfl, f5⟩
             have Fe := Lib.hid (Fc.out.trans f5 (fun _ _ e => e))
             have M5 := True.intro
             clear f5)))
          | (
            (have _ := M2
             refine wpList_store_at rfl 51 _ _ rfl wb.heap.size 0 51 zeroM cr1 rfl rfl (Whole.new wb 51 zeroM) (by rw [hs1]; decide) (by rw [hs1]; exact size36m) ho1 ?_
             intro wc hwc hfc
             rw [laidAt_all _ _ (by rw [hs1]; rfl)] at hwc
             have W1 := Lib.hid hwc
             have fbc : Fr (fun _ => False) wb wc := ((Fr.refl (fun _ => False) wb).alloc (.cells zeroM 51)).trans hfc (fun i hi e => by omega)
             have Fc := Lib.hid (Fb.out.trans fbc (fun _ _ e => e))
             have l2c := HLD.out _ Fc.out
             have l9 := load_all (n := n36) W1.out (by rw [HN36.out, hs1]) (Fr.refl _ wc)
             have M3 := True.intro
             clear hwc hfc fbc))
          | (
            (go_at_call 24
             refine (C2.out wa _ _ L1.out).mono ?_
             rintro e wb ⟨rfl, f2⟩
             have Fb := Lib.hid (Fa.out.trans f2 (fun _ _ e => e))
             have M2 := True.intro
             clear f2))
          | (
            (go_at_call 22
             refine (C1.out _ HF.out).mono ?_
             rintro e wa ⟨v1, rfl, o1⟩
             obtain ⟨A1, c1, rfl, _, l1, _⟩ := o1.slice
             have Fa := Lib.hid o1.2
             have L1 := Lib.hid l1
             clear o1 l1)))
        go_ret
        exact ⟨rfl, ((HF.out.trans Fg.out (fun _ _ e => e)).then_below bz).below (fun _ _ e => e)⟩
      · have hEz : (E2 == 0) = false := by simp [hE]
        have heq2 : ∀ w, (Op.equalIn 10000 51 (.agg cm2) (.agg zeroM)).run Tryd.prog w = .ok true w := by rw [HGZ.out hE]; exact heq0
        clear heq0
        (
          go_enter Tryd.func7, Tryd.ntmps7
          rw [show Op.load 51 (.tmp 2) = Op.load T36 (.tmp 2) by rw [hT36], show Op.load 51 (.tmp 7) = Op.load T36 (.tmp 7) by rw [hT36], show Op.load 51 (.tmp 9) = Op.load T36 (.tmp 9) by rw [hT36]]
          clear hT36)
        go_wp2_with (first
          | (have _ := M5; (
            (go_at_call 17; refine (C9.out _ (HF.out.trans Ff.out (fun _ _ e => e))).mono ?_; rintro e wz ⟨rfl, bz⟩)))
          | (refine wpList_build_to rfl 51 _ rfl #[] (by first | rfl | simp [Act.eval]) (.agg zeroM) (HBZ.out _) ?_)
          | (
            (have _ := M5
             refine wpList_store_at rfl 51 _ _ rfl we.heap.size 0 51 zeroM cm2 rfl rfl (Whole.new we 51 zeroM) (by rw [hs2]; decide) (by rw [hs2]; exact size36m) ho2 ?_
             intro wf hwf hff
             rw [laidAt_all _ _ (by rw [hs2]; rfl)] at hwf
             have W5 := Lib.hid hwf
             have fef : Fr (fun _ => False) we wf := ((Fr.refl (fun _ => False) we).alloc (.cells zeroM 51)).trans hff (fun i hi e => by omega)
             have Ff := Lib.hid (Fe.out.trans fef (fun _ _ e => e))
             have l5 := load_all (n := n36) W5.out (by rw [HN36.out, hs2]) (Fr.refl _ wf)
             clear hwf hff fef))
          | (have _ := M3; (
            (go_at_call 24
             refine (C4.out wc (HF.out.trans Fc.out (fun _ _ e => e))).mono ?_
             rintro e we ⟨rfl, f5⟩
             have Fe := Lib.hid (Fc.out.trans f5 (fun _ _ e => e))
             have M5 := True.intro
             clear f5)))
          | (
            (have _ := M2
             refine wpList_store_at rfl 51 _ _ rfl wb.heap.size 0 51 zeroM cr1 rfl rfl (Whole.new wb 51 zeroM) (by rw [hs1]; decide) (by rw [hs1]; exact size36m) ho1 ?_
             intro wc hwc hfc
             rw [laidAt_all _ _ (by rw [hs1]; rfl)] at hwc
             have W1 := Lib.hid hwc
             have fbc : Fr (fun _ => False) wb wc := ((Fr.refl (fun _ => False) wb).alloc (.cells zeroM 51)).trans hfc (fun i hi e => by omega)
             have Fc := Lib.hid (Fb.out.trans fbc (fun _ _ e => e))
             have l2c := HLD.out _ Fc.out
             have l9 := load_all (n := n36) W1.out (by rw [HN36.out, hs1]) (Fr.refl _ wc)
             have M3 := True.intro
             clear hwc hfc fbc))
          | (
            (go_at_call 24
             refine (C2.out wa _ _ L1.out).mono ?_
             rintro e wb ⟨rfl, f2⟩
             have Fb := Lib.hid (Fa.out.trans f2 (fun _ _ e => e))
             have M2 := True.intro
             clear f2))
          | (
            (go_at_call 22
             refine (C1.out _ HF.out).mono ?_
             rintro e wa ⟨v1, rfl, o1⟩
             obtain ⟨A1, c1, rfl, _, l1, _⟩ := o1.slice
             have Fa := Lib.hid o1.2
             have L1 := Lib.hid l1
             clear o1 l1)))
        go_ret
        exact ⟨rfl, ((HF.out.trans Ff.out (fun _ _ e => e)).then_below bz).below (fun _ _ e => e)⟩
    · have hrz : (r == 0) = false := by simp [hr0]
      by_cases hE : E2 = 0
      · subst hE
        obtain ⟨hg1, hg2⟩ := HGB.out (by first | rfl | trivial)
        rw [hg1, hg2] at C5
        clear hg1 hg2 heq0
        (
          go_enter Tryd.func7, Tryd.ntmps7
          rw [show Op.load 51 (.tmp 2) = Op.load T36 (.tmp 2) by rw [hT36], show Op.load 51 (.tmp 7) = Op.load T36 (.tmp 7) by rw [hT36], show Op.load 51 (.tmp 9) = Op.load T36 (.tmp 9) by rw [hT36]]
          clear hT36)
        go_wp2_with (first
          | (have _ := M5; (
            (go_at_call 17; refine (C9.out _ (HF.out.trans Fg.out (fun _ _ e => e))).mono ?_; rintro e wz ⟨rfl, bz⟩)))
          | (
            (go_at_call 12
             refine (C3.out wg _ _ _ _ L6.out (HL.out wg (HF.out.trans Fg.out (fun _ _ e => e)))).mono ?_
             rintro e wy ⟨rfl, rfl⟩))
          | (
            (have _ := M5
             go_at_call 22
             refine (C5.out wf (HF.out.trans Ff.out (fun _ _ e => e))).mono ?_
             rintro e wg ⟨v6, rfl, o6⟩
             obtain ⟨A6, c6, rfl, _, l6, _⟩ := o6.slice
             rw [HLn.out]
             have Fg := Lib.hid (Ff.out.trans o6.2 (fun _ _ e => e))
             have L6 := Lib.hid l6
             clear o6 l6))
          | (
            (have _ := M5
             refine wpList_store_at rfl 51 _ _ rfl we.heap.size 0 51 zeroM cm2 rfl rfl (Whole.new we 51 zeroM) (by rw [hs2]; decide) (by rw [hs2]; exact size36m) ho2 ?_
             intro wf hwf hff
             rw [laidAt_all _ _ (by rw [hs2]; rfl)] at hwf
             have W5 := Lib.hid hwf
             have fef : Fr (fun _ => False) we wf := ((Fr.refl (fun _ => False) we).alloc (.cells zeroM 51)).trans hff (fun i hi e => by omega)
             have Ff := Lib.hid (Fe.out.trans fef (fun _ _ e => e))
             have l5 := load_all (n := n36) W5.out (by rw [HN36.out, hs2]) (Fr.refl _ wf)
             clear hwf hff fef))
          | (
            (go_at_call 24
             refine (C4.out wa (HF.out.trans Fa.out (fun _ _ e => e))).mono ?_
             rintro e we ⟨rfl, f5⟩
             have Fe := Lib.hid (Fa.out.trans f5 (fun _ _ e => e))
             have M5 := True.intro
             clear f5))
          | (
            (go_at_call 22
             refine (C1.out _ HF.out).mono ?_
             rintro e wa ⟨v1, rfl, o1⟩
             obtain ⟨A1, c1, rfl, _, l1, _⟩ := o1.slice
             have Fa := Lib.hid o1.2
             have L1 := Lib.hid l1
             clear o1 l1)))
        go_ret
        exact ⟨rfl, ((HF.out.trans Fg.out (fun _ _ e => e)).then_below bz).below (fun _ _ e => e)⟩
      · have hEz : (E2 == 0) = false := by simp [hE]
        have heq2 : ∀ w, (Op.equalIn 10000 51 (.agg cm2) (.agg zeroM)).run Tryd.prog w = .ok true w := by rw [HGZ.out hE]; exact heq0
        clear heq0
        (
          go_enter Tryd.func7, Tryd.ntmps7
          rw [show Op.load 51 (.tmp 2) = Op.load T36 (.tmp 2) by rw [hT36], show Op.load 51 (.tmp 7) = Op.load T36 (.tmp 7) by rw [hT36], show Op.load 51 (.tmp 9) = Op.load T36 (.tmp 9) by rw [hT36]]
          clear hT36)
        go_wp2_with (first
          | (have _ := M5; (
            (go_at_call 17; refine (C9.out _ (HF.out.trans Ff.out (fun _ _ e => e))).mono ?_; rintro e wz ⟨rfl, bz⟩)))
          | (refine wpList_build_to rfl 51 _ rfl #[] (by first | rfl | simp [Act.eval]) (.agg zeroM) (HBZ.out _) ?_)
          | (
            (have _ := M5
             refine wpList_store_at rfl 51 _ _ rfl we.heap.size 0 51 zeroM cm2 rfl rfl (Whole.new we 51 zeroM) (by rw [hs2]; decide) (by rw [hs2]; exact size36m) ho2 ?_
             intro wf hwf hff
             rw [laidAt_all _ _ (by rw [hs2]; rfl)] at hwf
             have W5 := Lib.hid hwf
             have fef : Fr (fun _ => False) we wf := ((Fr.refl (fun _ => False) we).alloc (.cells zeroM 51)).trans hff (fun i hi e => by omega)
             have Ff := Lib.hid (Fe.out.trans fef (fun _ _ e => e))
             have l5 := load_all (n := n36) W5.out (by rw [HN36.out, hs2]) (Fr.refl _ wf)
             clear hwf hff fef))
          | (
            (go_at_call 24
             refine (C4.out wa (HF.out.trans Fa.out (fun _ _ e => e))).mono ?_
             rintro e we ⟨rfl, f5⟩
             have Fe := Lib.hid (Fa.out.trans f5 (fun _ _ e => e))
             have M5 := True.intro
             clear f5))
          | (
            (go_at_call 22
             refine (C1.out _ HF.out).mono ?_
             rintro e wa ⟨v1, rfl, o1⟩
             obtain ⟨A1, c1, rfl, _, l1, _⟩ := o1.slice
             have Fa := Lib.hid o1.2
             have L1 := Lib.hid l1
             clear o1 l1)))
        go_ret
        exact ⟨rfl, ((HF.out.trans Ff.out (fun _ _ e => e)).then_below bz).below (fun _ _ e => e)⟩
end Go.Proofs.YtppddpbacpeadaaDoor

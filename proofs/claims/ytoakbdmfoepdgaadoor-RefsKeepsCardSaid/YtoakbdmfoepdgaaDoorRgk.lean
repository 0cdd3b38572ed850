/- What is proved: the walk of the law RefsKeeps, for every list, name and id. Conditions: the list's cells are there; the name is not too long for any machine. -/
import Derived.Test.YtoakbdmfoepdgaaDoorRgg
import Derived.Test.YtoakbdmfoepdgaaDoorRgs
import Derived.Test.YtoakbdmfoepdgaaDoorRfl
namespace Go.Proofs.YtoakbdmfoepdgaaDoor
open Go.RowKit Go.Sort Go.Shelf
set_option linter.unusedVariables false

theorem setO_cases (l : List Rf) (x : Rf) : (∃ c, c ≠ 0 ∧ (setO l x).2 = c ∧ (setO l x).1 = []) ∨ ∃ p d : List Rf, (setO l x).2 = 0 ∧ (setO l x).1 = p ∧ chkR p = 0 ∧ findR p x.name = some x ∧ (∀ r ∈ l, r.name ≠ x.name → findR p r.name = some r) ∧
    (dropO p x.name).2 = 0 ∧ (dropO p x.name).1 = d ∧ p.length = d.length + 1 ∧ findR d x.name = none ∧ (getO (putO p)).2 = 0 ∧ (getO (putO p)).1 = p ∧ (putO p).length ≤ 20000 ∧ p.length ≤ 64 := by
  unfold setO
  by_cases h1 : chkR l = 0
  · rw [if_pos h1]
    by_cases h2 : rightB x.name = true
    · rw [if_pos h2]
      by_cases h3 : (witR l x.name).length = 64
      · rw [if_pos h3]
        exact .inl ⟨5, by decide, rfl, rfl⟩
      · rw [if_neg h3]
        obtain ⟨t1, t2, t3, t4, t5⟩ := set_tab ((chkR_tab l).1 h1) h2 h3
        have hc := (chkR_tab _).2 t1
        have hd : dropO (setL l x) x.name = (witR l x.name, 0) := by
          rw [dropO, if_pos hc, if_pos (by rw [has_find t1.rise, t2]; rfl), t4]
        have hp : putO (setL l x) = putR (setL l x) := by rw [putO, if_pos hc]
        have hg : getO (putR (setL l x)) = (setL l x, 0) := by
          have e : getO (putR (setL l x)) = match getW (putR (setL l x)) [] with | none => ([], 12) | some l => if chkR l = 0 then (l, 0) else ([], chkR l) := rfl
          rw [e, getW_put _ [] t1.right]
          simp [hc]
        refine .inr ⟨setL l x, witR l x.name, rfl, rfl, hc, t2, t3, by rw [hd], by rw [hd], t5, wit_find l x.name, by rw [hp, hg], by rw [hp, hg], ?_, t1.len⟩
        have h := putR_len t1 (setL l x).length
        rw [List.take_length] at h
        rw [hp]
        omega
    · rw [if_neg h2]
      exact .inl ⟨15, by decide, rfl, rfl⟩
  · rw [if_neg h1]
    exact .inl ⟨chkR l, h1, rfl, rfl⟩

set_option maxHeartbeats 6400000 in
set_option maxRecDepth 100000 in
theorem keeps_walk (A : Option Addr) (cap : Nat) (l : List Rf) (hcap : l.length ≤ cap) (x : List UInt8) (hx : x.length ≤ 140737488355327) (a : Nat) (ha : a < Ids.big) (w : World) (hl : Lies w A (flatR l)) (hlen : l.length ≤ 9223372036854775807) :
    Calls Tryd.prog 7 #[.slice A l.length cap, .string (strB x), .agg (Ids.idC (Ids.dgt a))] w fun e w' => e = .returned (.bool true) ∧ Below w.heap.size w w' := by
  have HL := Lib.hid (fun w' (f : Fr (fun _ => False) w w') => hl.fr f (fun _ _ e => e))
  have hci := Ids.idC_size (Ids.dgt a)
  by_cases hbig : 80 < l.length
  · have hgt : (80 : Int) < (l.length : Int) := by omega
    obtain ⟨L, hL⟩ : ∃ L, l.length = L := ⟨_, rfl⟩
    obtain ⟨X, hX⟩ : ∃ S, strB x = S := ⟨_, rfl⟩
    obtain ⟨ci, hcI⟩ : ∃ c, Ids.idC (Ids.dgt a) = c := ⟨_, rfl⟩
    rw [hL] at hgt ⊢
    rw [hX, hcI]
    clear hL hl hbig hlen HL hX hcI hcap hx ha hci
    have HF1 := Lib.hid ((Fr.refl (fun _ => False) w).alloc (.cells ci 41))
    go_enter Tryd.func7, Tryd.ntmps7
    go_wp2_with (go_at_call 8; refine (works12_any _).mono ?_; rintro e w2 ⟨rfl, b2⟩)
    go_ret
    exact ⟨rfl, (HF1.out.then_below b2).below (fun _ _ e => e)⟩
  · have C1 := Lib.hid (fun w' (h : Lies w' A (flatR l)) => RfSet_any A cap l (by omega) hcap ⟨x, a, hx, ha⟩ w' h)
    have hcases := setO_cases l ⟨x, a, hx, ha⟩
    simp only [] at C1 hcases
    obtain ⟨w1, hw1⟩ : ∃ w1, w.alloc (.cells (Ids.idC (Ids.dgt a)) 41) = w1 := ⟨_, rfl⟩
    have HZ1 := Lib.hid (show Whole w1 w.heap.size 41 (Ids.idC (Ids.dgt a)) from by subst hw1; exact Whole.new w 41 _)
    have F1 := Lib.hid (show Fr (fun _ => False) w w1 from by subst hw1; exact (Fr.refl (fun _ => False) w).alloc _)
    obtain ⟨T, hT⟩ : ∃ T : TypeId, T = 41 := ⟨_, rfl⟩
    obtain ⟨n32, h32⟩ : ∃ n : Nat, n = 32 := ⟨_, rfl⟩
    have ag32 : ∀ w, (isAgg T).run Tryd.prog w = .ok true w := by rw [hT]; exact fun _ => by kernel_rfl
    have sz32 : ∀ w, (sizeOf T).run Tryd.prog w = .ok n32 w := by rw [hT, h32]; exact fun _ => by kernel_rfl
    have HN := Lib.hid h32
    have HId : Hid (∀ w', Fr (fun _ => False) w1 w' → (loadCellsFrom ⟨w.heap.size, 0, none⟩ 0 n32 #[]).run Tryd.prog w' = .ok (Ids.idC (Ids.dgt a)) w') := Lib.hid (fun w' f => load_whole2 (HZ1.out.fr f (fun e => e)) n32 (by rw [HN.out, hci]))
    have HIS := Lib.hid (idC_sz a)
    have HIA := Lib.hid (idC_al a)
    have hle0 : ¬ ((80 : Int) < (l.length : Int)) := by omega
    rcases hcases with ⟨c, hc0, hc2, hc1⟩ | ⟨p, d, hc2, hc1, hck, hfx, hfo, hd2, hd1, hpd, hfd, hg2, hg1, hpl, hp64⟩
    · have hcb : (c == 0) = false := by simpa using hc0
      rw [hc2, hc1] at C1
      obtain ⟨L, hL⟩ : ∃ L, l.length = L := ⟨_, rfl⟩
      obtain ⟨X, hX⟩ : ∃ S, strB x = S := ⟨_, rfl⟩
      obtain ⟨ci, hcI⟩ : ∃ c, Ids.idC (Ids.dgt a) = c := ⟨_, rfl⟩
      rw [hL] at C1 hle0 ⊢
      rw [hX] at C1 ⊢
      rw [hcI] at C1 hci hw1 HId ⊢
      clear hL hl hX hcI hcap hx ha hlen hbig hc2 hc1 h32
      go_enter Tryd.func7, Tryd.ntmps7
      have l1 := HId.out w1 (Fr.refl _ _)
      rw [show Op.load 41 (.tmp 5) = Op.load T (.tmp 5) by rw [hT]]
      clear hT
      go_wp2_with (first
        | (go_at_call 8; refine (works12_any wa).mono ?_; rintro e wj ⟨rfl, b5⟩; have Gj := Lib.hid (Ga.out.then_below b5); clear b5)
        | (go_at_call 17; refine (C1.out w1 (HL.out w1 F1.out)).mono ?_; rintro e wa ⟨vP, rfl, hoP⟩
           obtain ⟨AP, cP, rfl, -, -, hfP⟩ := hoP.form rfl
           have Ga := Lib.hid (F1.out.trans hfP (fun _ _ e => e))
           clear hoP hfP))
      go_ret
      exact ⟨rfl, Gj.out.below (fun _ _ e => e)⟩
    · rw [hc2, hc1] at C1
      have C2 := Lib.hid (fun w' A c (hc : p.length ≤ c) (h : Lies w' A (flatR p)) => RfPut_any A c p (by omega) hc w' h)
      rw [hck] at C2
      have C3 := Lib.hid (fun w' A c (h : Lies w' A (bytesV (putO p))) => RfGet_any A c (putO p) (by omega) w' h)
      rw [hg2, hg1] at C3
      have C4 := Lib.hid (fun w' A c (h : Lies w' A (flatR p)) => RfFind_any A c p (by omega) x w' h)
      have hfx' : findR p x = some ⟨x, a, hx, ha⟩ := hfx
      rw [hfx'] at C4
      have C5 := Lib.hid (fun w' A B c d' (h : Lies w' A (flatR p)) (h2 : Lies w' B (flatR p)) => QfSame_same A B c d' p (by omega) w' h h2)
      have C6 := Lib.hid (fun n w' A c (h : Lies w' A (flatR p)) => RfFind_any A c p (by omega) n w' h)
      have C7 := Lib.hid (fun w' A c (hc : p.length ≤ c) (h : Lies w' A (flatR p)) => RfDrop_any A c p (by omega) hc x w' h)
      rw [hd2, hd1] at C7
      have C8 := Lib.hid (fun w' A c (h : Lies w' A (flatR d)) => RfFind_any A c d (by omega) x w' h)
      rw [hfd] at C8
      simp only [optR, Option.isSome_some, Option.isSome_none, Option.getD_some, Option.getD_none] at C4 C8
      have HFO := Lib.hid hfo
      have heqI := fun w => Ids.eq_nums a a ha ha w
      rw [beq_self_eq_true] at heqI
      have hgi := guardI
      have HZI := Lib.hid (idC_sz (default : Rf).id)
      have HZA := Lib.hid (idC_al (default : Rf).id)
      have hzi := Ids.idC_size (Ids.dgt (default : Rf).id)
      obtain ⟨cz, hcz⟩ : ∃ c, Ids.idC (Ids.dgt (default : Rf).id) = c := ⟨_, rfl⟩
      rw [hcz] at C8 HZI HZA hzi
      obtain ⟨pl, hple⟩ : ∃ q, putO p = q := ⟨_, rfl⟩
      rw [hple] at C2 C3 hpl
      obtain ⟨np, hnp⟩ : ∃ m, pl.length = m := ⟨_, rfl⟩
      have HNP := Lib.hid hnp
      rw [hnp] at C3 hpl
      obtain ⟨m, hm⟩ : ∃ m, p.length = m := ⟨_, rfl⟩
      have HM := Lib.hid hm
      rw [hm] at C2 C4 C5 C6 C7 hpd hp64
      obtain ⟨dm, hdm⟩ : ∃ m, d.length = m := ⟨_, rfl⟩
      have HDM := Lib.hid hdm
      rw [hdm] at C8 hpd
      have hsub : IntKind.i64.wrap ((m : Int) - 1) = (dm : Int) := by rw [IntKind.wrap_i64]; omega
      have HXs := Lib.hid (fun y : List UInt8 => str_eq y x)
      obtain ⟨L, hL⟩ : ∃ L, l.length = L := ⟨_, rfl⟩
      have HLn := Lib.hid hL
      obtain ⟨X, hX⟩ : ∃ S, strB x = S := ⟨_, rfl⟩
      obtain ⟨ci, hcI⟩ : ∃ c, Ids.idC (Ids.dgt a) = c := ⟨_, rfl⟩
      rw [hL] at C1 hle0 hbig ⊢
      rw [hX] at C1 C4 C7 C8 HXs ⊢
      rw [hcI] at C1 C4 hci hw1 HId heqI HIS HIA ⊢
      clear hL hl hX hcI hcap hlen hc2 hc1 h32 hck hfx hfx' hfo hd2 hd1 hfd hg2 hg1 hcz hple hnp hm hdm hpd hbig hp64 hpl
      go_enter Tryd.func7, Tryd.ntmps7
      have l1 := HId.out w1 (Fr.refl _ _)
      rw [show Op.load 41 (.tmp 5) = Op.load T (.tmp 5) by rw [hT], show Op.load 41 (.tmp 13) = Op.load T (.tmp 13) by rw [hT], show Op.load 41 (.tmp 16) = Op.load T (.tmp 16) by rw [hT], show Op.load 41 (.tmp 109) = Op.load T (.tmp 109) by rw [hT]]
      clear hT
      go_upto_region 9 with (first
        | (refine wpList_store_at rfl 41 _ _ rfl wd.heap.size 0 41 Ids.zero32 ci rfl rfl (Whole.new wd 41 Ids.zero32) (by rw [hci]; decide) HIS.out HIA.out ?_
           intro we hw2 hf2
           rw [laidAt_all _ _ (by rw [hci]; rfl)] at hw2
           have HW13 := Lib.hid hw2
           have hfs := (((Fr.refl (fun _ => False) wd).alloc _).trans hf2 (fun i hi e => by omega) : Fr (fun _ => False) wd we)
           have Ge := Lib.hid (Gd.out.trans hfs (fun _ _ e => e))
           have Ke := Lib.hid (Kd.out.trans hfs (fun _ _ e => e))
           have FPe := Lib.hid (FPd.out.trans hfs (fun _ _ e => e))
           have FQe := Lib.hid (FQd.out.trans hfs (fun _ _ e => e))
           clear hw2 hf2 hfs)
        | (go_at_call 21; refine (C4.out wc _ _ HlQ.out).mono ?_; rintro e wd ⟨rfl, b5⟩
           have FQd := Lib.hid (Fr.of_below (S := fun _ => False) b5)
           have Gd := Lib.hid (Gc.out.then_below b5)
           have Kd := Lib.hid (Kc.out.then_below b5)
           have FPd := Lib.hid (FPc.out.then_below b5)
           clear b5)
        | (go_at_call 14; refine (C3.out wb _ _ HlU.out).mono ?_; rintro e wc ⟨vQ, rfl, hoQ⟩
           obtain ⟨AQ, cQ, rfl, -, hlQ, hfQ⟩ := hoQ.form HM.out
           have HlQ := Lib.hid hlQ
           have Gc := Lib.hid (Gb.out.trans hfQ (fun _ _ e => e))
           have Kc := Lib.hid (Kb.out.trans hfQ (fun _ _ e => e))
           have FPc := Lib.hid (FPb.out.trans hfQ (fun _ _ e => e))
           clear hoQ hlQ hfQ)
        | (go_at_call 9; refine (C2.out wa _ _ HcP.out HlP.out).mono ?_; rintro e wb ⟨vU, rfl, hoU⟩
           have FPb := Lib.hid hoU.2
           have Gb := Lib.hid (Ga.out.trans hoU.2 (fun _ _ e => e))
           have Kb := Lib.hid (Ka.out.trans hoU.2 (fun _ _ e => e))
           obtain ⟨AU, cU, hvU, hlU⟩ := hoU.byt
           have HlU := Lib.hid hlU
           rw [HNP.out] at hvU
           subst hvU
           clear hoU hlU)
        | (go_at_call 17; refine (C1.out w1 (HL.out w1 F1.out)).mono ?_; rintro e wa ⟨vP, rfl, hoP⟩
           obtain ⟨AP, cP, rfl, hcP, hlP, hfP⟩ := hoP.form HM.out
           have HlP := Lib.hid hlP
           have HcP := Lib.hid hcP
           have Ka := Lib.hid hfP
           have Ga := Lib.hid (F1.out.trans hfP (fun _ _ e => e))
           clear hoP hcP hlP hfP))
      obtain ⟨g13, hg13⟩ : ∃ g, wd.heap.size = g := ⟨_, rfl⟩
      rw [hg13] at HW13 ⊢
      clear hg13
      go_wp2_with (first
        | (go_at_call 16; refine (C5.out we _ _ _ _ (HlP.out.fr FPe.out (fun _ _ e => e)) (HlQ.out.fr FQe.out (fun _ _ e => e))).mono ?_; rintro e wf ⟨rfl, b5⟩
           have q13 := load_whole (HW13.out.fr (Fr.of_below (S := fun _ => False) b5) (fun e => e)) n32 (by rw [HN.out, hci])
           have Gf := Lib.hid (Ge.out.then_below b5)
           have Kf := Lib.hid (Ke.out.then_below b5)
           have FPf := Lib.hid (FPe.out.then_below b5)
           have q5 := HId.out wf Kf.out
           clear b5))
      go_loopg [15] L (fun kx s15 wr => ∃ k : Nat, s15 = .int .i64 k ∧ k ≤ L ∧ L - k ≤ kx ∧ Fr (fun _ => False) wf wr)
      case atStart => exact ⟨0, rfl, by omega, by omega, Fr.refl _ _⟩
      case round =>
        obtain ⟨k, rfl, hk, hkx, hf⟩ := hrel
        have HFr := Lib.hid hf
        clear hf
        have wk := wrap_nat k (by omega)
        have GR := Lib.hid (Gf.out.trans HFr.out (fun _ _ e => e))
        have FPr := Lib.hid (FPf.out.trans HFr.out (fun _ _ e => e))
        by_cases hlt : k < L
        · have hltz : (k : Int) < L := by omega
          obtain ⟨b, o, hB⟩ := (HL.out w (Fr.refl _ _)).someR (by rw [HLn.out]; omega)
          subst hB
          have hka := rf_some (l := l) (i := k) (by rw [HLn.out]; exact hlt)
          have HRn := Lib.hid (fun w' (f : Fr (fun _ => False) w w') => rname_at (HL.out w (Fr.refl _ _)) hka f)
          have HRi := Lib.hid (fun w' (f : Fr (fun _ => False) w w') => load_rid (HL.out w (Fr.refl _ _)) hka f n32 HN.out)
          have HY := Lib.hid (HFO.out l[k]! (rf_mem (by rw [HLn.out]; omega)))
          have C6k := Lib.hid (C6.out l[k]!.name)
          obtain ⟨y, hy⟩ : ∃ y, l[k]! = y := ⟨_, rfl⟩
          rw [hy] at HRn HRi HY C6k
          have heq := HXs.out y.name
          have heqY := fun w => Ids.eq_nums y.id y.id y.hi y.hi w
          rw [beq_self_eq_true] at heqY
          obtain ⟨cy, hcy⟩ : ∃ c, Ids.idC (Ids.dgt y.id) = c := ⟨_, rfl⟩
          have HCY := Lib.hid hcy
          rw [hcy] at HRi heqY
          obtain ⟨S, hS⟩ : ∃ S, strB y.name = S := ⟨_, rfl⟩
          rw [hS] at heq HRn C6k
          have c0 := HRn.out wr GR.out
          obtain ⟨f, hf⟩ : ∃ f, findR p y.name = f := ⟨_, rfl⟩
          rw [hf] at C6k HY
          have HISf := Lib.hid (idC_sz (optR f).id)
          have HIAf := Lib.hid (idC_al (optR f).id)
          have hcfs := Ids.idC_size (Ids.dgt (optR f).id)
          obtain ⟨cf, hcf⟩ : ∃ c, Ids.idC (Ids.dgt (optR f).id) = c := ⟨_, rfl⟩
          have HCF := Lib.hid hcf
          obtain ⟨fb, hfb⟩ : ∃ b, f.isSome = b := ⟨_, rfl⟩
          have HFB := Lib.hid hfb
          rw [hcf, hfb] at C6k
          rw [hcf] at HISf HIAf hcfs
          clear hka hy hS hf hcf hfb hcy
          by_cases hq : y.name = x
          · have hqb : (y.name == x) = true := by simpa using hq
            rw [hqb] at heq
            clear hqb hq
            (
              go_upto_region 15 with (first
                | (go_at_call 21; refine (C6k.out wr _ _ (HlP.out.fr FPr.out (fun _ _ e => e))).mono ?_; rintro e wg ⟨rfl, b5⟩
                   have Fg := Lib.hid (Fr.of_below (S := fun _ => False) b5)
                   clear b5)
                | (refine wpList_store_at rfl 41 _ _ rfl wg.heap.size 0 41 Ids.zero32 cf rfl rfl (Whole.new wg 41 Ids.zero32) (by rw [hcfs]; decide) HISf.out HIAf.out ?_
                   intro wo hw2 hf2
                   rw [laidAt_all _ _ (by rw [hcfs]; rfl)] at hw2
                   have HW16 := Lib.hid hw2
                   have Fo := Lib.hid (Fg.out.trans (((Fr.refl (fun _ => False) wg).alloc _).trans hf2 (fun i hi e => by omega)) (fun _ _ e => e))
                   clear hw2 hf2))
              obtain ⟨g16, hg16⟩ : ∃ g, wg.heap.size = g := ⟨_, rfl⟩
              rw [hg16] at HW16 ⊢
              clear hg16
              have Go := Lib.hid (GR.out.trans Fo.out (fun _ _ e => e))
              have CV : Hid (∀ wq, Fr (fun _ => False) wo wq → wq.cell? ⟨b, o + k * 33, none⟩ = some (.string S)) := Lib.hid (fun wq hq => HRn.out wq (Go.out.trans hq (fun _ _ e => e)))
              have LV : Hid (∀ wq, Fr (fun _ => False) wo wq → (loadCellsFrom ⟨b, o + k * 33 + 1, none⟩ 0 n32 #[]).run Tryd.prog wq = .ok cy wq) := Lib.hid (fun wq hq => HRi.out wq (Go.out.trans hq (fun _ _ e => e)))
              have MV : Hid (∀ wq, Fr (fun _ => False) wo wq → (loadCellsFrom ⟨g16, 0, none⟩ 0 n32 #[]).run Tryd.prog wq = .ok cf wq) := Lib.hid (fun wq hq => load_whole (HW16.out.fr hq (fun e => e)) n32 (by rw [HN.out, hcfs])))
            (
              have HFc := Lib.hid (show Fr (fun _ => False) wo wo.drew from (Fr.refl _ wo).drew)
              refine wp_region_held (S := fun w' => Fr (fun _ => False) wo w') (by kernel_rfl) ?_
              change wpAnyH _ _ _ _ _ _ _ _ (World.drew wo)
              obtain ⟨wc, hwc⟩ : ∃ wc, wo.drew = wc := ⟨_, rfl⟩
              rw [hwc] at HFc ⊢
              clear hwc)
            (
              refine wpAnyH_takeM (i := 0) (v := .slice (some ⟨b, o, none⟩) L cap) 94 rfl rfl (by kernel_rfl) (by kernel_rfl) (by kernel_rfl) (fun _ _ _ h => h) (.inl ⟨by kernel_rfl, ?_⟩) HFc.out ?_
              · intro wq hq
                have cv := CV.out wq hq
                have lv := LV.out wq hq
                have mv := MV.out wq hq
                go_simp
              simp only [List.setIfInBounds_toArray, List.set_cons_succ, List.set_cons_zero])
            (
              refine wpAnyH_takeM (i := 1) (v := .int .i64 k) 95 rfl rfl (by kernel_rfl) (by kernel_rfl) (by kernel_rfl) (fun _ _ _ h => h) (.inl ⟨by kernel_rfl, ?_⟩) HFc.out ?_
              · intro wq hq
                have cv := CV.out wq hq
                have lv := LV.out wq hq
                have mv := MV.out wq hq
                go_simp
              simp only [List.setIfInBounds_toArray, List.set_cons_succ, List.set_cons_zero])
            (
              refine wpAnyH_takeM (i := 2) (v := .pointer (some ⟨b, o + k * 33, none⟩)) 96 rfl rfl (by kernel_rfl) (by kernel_rfl) (by kernel_rfl) (fun _ _ _ h => h) (.inl ⟨by kernel_rfl, ?_⟩) HFc.out ?_
              · intro wq hq
                have cv := CV.out wq hq
                have lv := LV.out wq hq
                have mv := MV.out wq hq
                go_simp
              simp only [List.setIfInBounds_toArray, List.set_cons_succ, List.set_cons_zero])
            (
              refine wpAnyH_takeM (i := 3) (v := .pointer (some ⟨b, o + k * 33, none⟩)) 97 rfl rfl (by kernel_rfl) (by kernel_rfl) (by kernel_rfl) (fun _ _ _ h => h) (.inl ⟨by kernel_rfl, ?_⟩) HFc.out ?_
              · intro wq hq
                have cv := CV.out wq hq
                have lv := LV.out wq hq
                have mv := MV.out wq hq
                go_simp
              simp only [List.setIfInBounds_toArray, List.set_cons_succ, List.set_cons_zero])
            (
              refine wpAnyH_takeM (i := 4) (v := .string S) 98 rfl rfl (by kernel_rfl) (by kernel_rfl) (by kernel_rfl) (fun _ _ _ h => h) (.inl ⟨by kernel_rfl, ?_⟩) HFc.out ?_
              · intro wq hq
                have cv := CV.out wq hq
                have lv := LV.out wq hq
                have mv := MV.out wq hq
                go_simp
              simp only [List.setIfInBounds_toArray, List.set_cons_succ, List.set_cons_zero])
            (
              refine wpAnyH_takeM (i := 5) (v := .string X) 99 rfl rfl (by kernel_rfl) (by kernel_rfl) (by kernel_rfl) (fun _ _ _ h => h) (.inl ⟨by kernel_rfl, ?_⟩) HFc.out ?_
              · intro wq hq
                have cv := CV.out wq hq
                have lv := LV.out wq hq
                have mv := MV.out wq hq
                go_simp
              simp only [List.setIfInBounds_toArray, List.set_cons_succ, List.set_cons_zero])
            (
              refine wpAnyH_takeM (i := 6) (v := .bool false) 100 rfl rfl (by kernel_rfl) (by kernel_rfl) (by kernel_rfl) (fun _ _ _ h => h) (.inl ⟨by kernel_rfl, ?_⟩) HFc.out ?_
              · intro wq hq
                have cv := CV.out wq hq
                have lv := LV.out wq hq
                have mv := MV.out wq hq
                go_simp
              simp only [List.setIfInBounds_toArray, List.set_cons_succ, List.set_cons_zero])
            (
              refine wpAnyH_takeM (i := 7) (v := .bool false) 101 rfl rfl (by kernel_rfl) (by kernel_rfl) (by kernel_rfl) (fun _ _ _ h => h) (.inl ⟨by kernel_rfl, ?_⟩) HFc.out ?_
              · intro wq hq
                have cv := CV.out wq hq
                have lv := LV.out wq hq
                have mv := MV.out wq hq
                go_simp
              simp only [List.setIfInBounds_toArray, List.set_cons_succ, List.set_cons_zero])
            (
              refine wpAnyH_takeM (i := 8) (v := undef) 102 rfl rfl (by kernel_rfl) (by kernel_rfl) (by kernel_rfl) (fun _ _ _ h => h) (.inr ⟨by kernel_rfl, rfl⟩) HFc.out ?_
              simp only [List.setIfInBounds_toArray, List.set_cons_succ, List.set_cons_zero])
            (
              refine wpAnyH_takeM (i := 9) (v := undef) 103 rfl rfl (by kernel_rfl) (by kernel_rfl) (by kernel_rfl) (fun _ _ _ h => h) (.inr ⟨by kernel_rfl, rfl⟩) HFc.out ?_
              simp only [List.setIfInBounds_toArray, List.set_cons_succ, List.set_cons_zero])
            (
              refine wpAnyH_takeM (i := 10) (v := undef) 104 rfl rfl (by kernel_rfl) (by kernel_rfl) (by kernel_rfl) (fun _ _ _ h => h) (.inr ⟨by kernel_rfl, rfl⟩) HFc.out ?_
              simp only [List.setIfInBounds_toArray, List.set_cons_succ, List.set_cons_zero])
            (
              refine wpAnyH_takeM (i := 11) (v := undef) 105 rfl rfl (by kernel_rfl) (by kernel_rfl) (by kernel_rfl) (fun _ _ _ h => h) (.inr ⟨by kernel_rfl, rfl⟩) HFc.out ?_
              simp only [List.setIfInBounds_toArray, List.set_cons_succ, List.set_cons_zero])
            (
              refine wpAnyH_takeM (i := 12) (v := undef) 106 rfl rfl (by kernel_rfl) (by kernel_rfl) (by kernel_rfl) (fun _ _ _ h => h) (.inr ⟨by kernel_rfl, rfl⟩) HFc.out ?_
              simp only [List.setIfInBounds_toArray, List.set_cons_succ, List.set_cons_zero])
            (
              refine wpAnyH_takeM (i := 13) (v := undef) 107 rfl rfl (by kernel_rfl) (by kernel_rfl) (by kernel_rfl) (fun _ _ _ h => h) (.inr ⟨by kernel_rfl, rfl⟩) HFc.out ?_
              simp only [List.setIfInBounds_toArray, List.set_cons_succ, List.set_cons_zero])
            (
              refine wpAnyH_takeM (i := 14) (v := undef) 108 rfl rfl (by kernel_rfl) (by kernel_rfl) (by kernel_rfl) (fun _ _ _ h => h) (.inr ⟨by kernel_rfl, rfl⟩) HFc.out ?_
              simp only [List.setIfInBounds_toArray, List.set_cons_succ, List.set_cons_zero])
            (
              refine wpAnyH_takeM (i := 15) (v := undef) 109 rfl rfl (by kernel_rfl) (by kernel_rfl) (by kernel_rfl) (fun _ _ _ h => h) (.inr ⟨by kernel_rfl, rfl⟩) HFc.out ?_
              simp only [List.setIfInBounds_toArray, List.set_cons_succ, List.set_cons_zero])
            (
              refine wpAnyH_takeM (i := 16) (v := undef) 110 rfl rfl (by kernel_rfl) (by kernel_rfl) (by kernel_rfl) (fun _ _ _ h => h) (.inr ⟨by kernel_rfl, rfl⟩) HFc.out ?_
              simp only [List.setIfInBounds_toArray, List.set_cons_succ, List.set_cons_zero])
            (
              refine wpAnyH_takeM (i := 17) (v := undef) 111 rfl rfl (by kernel_rfl) (by kernel_rfl) (by kernel_rfl) (fun _ _ _ h => h) (.inr ⟨by kernel_rfl, rfl⟩) HFc.out ?_
              simp only [List.setIfInBounds_toArray, List.set_cons_succ, List.set_cons_zero])
            (
              refine wpAnyH_takeM (i := 18) (v := undef) 112 rfl rfl (by kernel_rfl) (by kernel_rfl) (by kernel_rfl) (fun _ _ _ h => h) (.inr ⟨by kernel_rfl, rfl⟩) HFc.out ?_
              simp only [List.setIfInBounds_toArray, List.set_cons_succ, List.set_cons_zero])
            (
              refine wpAnyH_takeM (i := 19) (v := .bool false) 113 rfl rfl (by kernel_rfl) (by kernel_rfl) (by kernel_rfl) (fun _ _ _ h => h) (.inl ⟨by kernel_rfl, ?_⟩) HFc.out ?_
              · intro wq hq
                have cv := CV.out wq hq
                have lv := LV.out wq hq
                have mv := MV.out wq hq
                go_simp
              simp only [List.setIfInBounds_toArray, List.set_cons_succ, List.set_cons_zero])
            refine wpAnyH_done (by kernel_rfl) ?_ _
            go_wp2_with fail
            go_roundg (L - (k + 1))
            case measure => omega
            case rel => exact ⟨k + 1, by go_num, by omega, Nat.le_refl _, (HFr.out.trans Fo.out (fun _ _ e => e)).trans HFc.out (fun _ _ e => e)⟩
          · have hqb : (y.name == x) = false := by simpa using hq
            rw [hqb] at heq
            have hfy : f = some y := HY.out hq
            obtain rfl : fb = true := by rw [← HFB.out, hfy]; rfl
            have hcc : cf = cy := by rw [← HCY.out, ← HCF.out, hfy]; rfl
            have heqW : ∀ w, (Op.equalIn 10000 41 (.agg cf) (.agg cy)).run Tryd.prog w = .ok true w := fun w => by rw [hcc]; exact heqY w
            clear hqb hq hfy hcc heqY
            (
              go_upto_region 15 with (first
                | (go_at_call 21; refine (C6k.out wr _ _ (HlP.out.fr FPr.out (fun _ _ e => e))).mono ?_; rintro e wg ⟨rfl, b5⟩
                   have Fg := Lib.hid (Fr.of_below (S := fun _ => False) b5)
                   clear b5)
                | (refine wpList_store_at rfl 41 _ _ rfl wg.heap.size 0 41 Ids.zero32 cf rfl rfl (Whole.new wg 41 Ids.zero32) (by rw [hcfs]; decide) HISf.out HIAf.out ?_
                   intro wo hw2 hf2
                   rw [laidAt_all _ _ (by rw [hcfs]; rfl)] at hw2
                   have HW16 := Lib.hid hw2
                   have Fo := Lib.hid (Fg.out.trans (((Fr.refl (fun _ => False) wg).alloc _).trans hf2 (fun i hi e => by omega)) (fun _ _ e => e))
                   clear hw2 hf2))
              obtain ⟨g16, hg16⟩ : ∃ g, wg.heap.size = g := ⟨_, rfl⟩
              rw [hg16] at HW16 ⊢
              clear hg16
              have Go := Lib.hid (GR.out.trans Fo.out (fun _ _ e => e))
              have CV : Hid (∀ wq, Fr (fun _ => False) wo wq → wq.cell? ⟨b, o + k * 33, none⟩ = some (.string S)) := Lib.hid (fun wq hq => HRn.out wq (Go.out.trans hq (fun _ _ e => e)))
              have LV : Hid (∀ wq, Fr (fun _ => False) wo wq → (loadCellsFrom ⟨b, o + k * 33 + 1, none⟩ 0 n32 #[]).run Tryd.prog wq = .ok cy wq) := Lib.hid (fun wq hq => HRi.out wq (Go.out.trans hq (fun _ _ e => e)))
              have MV : Hid (∀ wq, Fr (fun _ => False) wo wq → (loadCellsFrom ⟨g16, 0, none⟩ 0 n32 #[]).run Tryd.prog wq = .ok cf wq) := Lib.hid (fun wq hq => load_whole (HW16.out.fr hq (fun e => e)) n32 (by rw [HN.out, hcfs])))
            (
              have HFc := Lib.hid (show Fr (fun _ => False) wo wo.drew from (Fr.refl _ wo).drew)
              refine wp_region_held (S := fun w' => Fr (fun _ => False) wo w') (by kernel_rfl) ?_
              change wpAnyH _ _ _ _ _ _ _ _ (World.drew wo)
              obtain ⟨wc, hwc⟩ : ∃ wc, wo.drew = wc := ⟨_, rfl⟩
              rw [hwc] at HFc ⊢
              clear hwc)
            (
              refine wpAnyH_takeM (i := 0) (v := .slice (some ⟨b, o, none⟩) L cap) 94 rfl rfl (by kernel_rfl) (by kernel_rfl) (by kernel_rfl) (fun _ _ _ h => h) (.inl ⟨by kernel_rfl, ?_⟩) HFc.out ?_
              · intro wq hq
                have cv := CV.out wq hq
                have lv := LV.out wq hq
                have mv := MV.out wq hq
                go_simp
              simp only [List.setIfInBounds_toArray, List.set_cons_succ, List.set_cons_zero])
            (
              refine wpAnyH_takeM (i := 1) (v := .int .i64 k) 95 rfl rfl (by kernel_rfl) (by kernel_rfl) (by kernel_rfl) (fun _ _ _ h => h) (.inl ⟨by kernel_rfl, ?_⟩) HFc.out ?_
              · intro wq hq
                have cv := CV.out wq hq
                have lv := LV.out wq hq
                have mv := MV.out wq hq
                go_simp
              simp only [List.setIfInBounds_toArray, List.set_cons_succ, List.set_cons_zero])
            (
              refine wpAnyH_takeM (i := 2) (v := .pointer (some ⟨b, o + k * 33, none⟩)) 96 rfl rfl (by kernel_rfl) (by kernel_rfl) (by kernel_rfl) (fun _ _ _ h => h) (.inl ⟨by kernel_rfl, ?_⟩) HFc.out ?_
              · intro wq hq
                have cv := CV.out wq hq
                have lv := LV.out wq hq
                have mv := MV.out wq hq
                go_simp
              simp only [List.setIfInBounds_toArray, List.set_cons_succ, List.set_cons_zero])
            (
              refine wpAnyH_takeM (i := 3) (v := .pointer (some ⟨b, o + k * 33, none⟩)) 97 rfl rfl (by kernel_rfl) (by kernel_rfl) (by kernel_rfl) (fun _ _ _ h => h) (.inl ⟨by kernel_rfl, ?_⟩) HFc.out ?_
              · intro wq hq
                have cv := CV.out wq hq
                have lv := LV.out wq hq
                have mv := MV.out wq hq
                go_simp
              simp only [List.setIfInBounds_toArray, List.set_cons_succ, List.set_cons_zero])
            (
              refine wpAnyH_takeM (i := 4) (v := .string S) 98 rfl rfl (by kernel_rfl) (by kernel_rfl) (by kernel_rfl) (fun _ _ _ h => h) (.inl ⟨by kernel_rfl, ?_⟩) HFc.out ?_
              · intro wq hq
                have cv := CV.out wq hq
                have lv := LV.out wq hq
                have mv := MV.out wq hq
                go_simp
              simp only [List.setIfInBounds_toArray, List.set_cons_succ, List.set_cons_zero])
            (
              refine wpAnyH_takeM (i := 5) (v := .string X) 99 rfl rfl (by kernel_rfl) (by kernel_rfl) (by kernel_rfl) (fun _ _ _ h => h) (.inl ⟨by kernel_rfl, ?_⟩) HFc.out ?_
              · intro wq hq
                have cv := CV.out wq hq
                have lv := LV.out wq hq
                have mv := MV.out wq hq
                go_simp
              simp only [List.setIfInBounds_toArray, List.set_cons_succ, List.set_cons_zero])
            (
              refine wpAnyH_takeM (i := 6) (v := .bool true) 100 rfl rfl (by kernel_rfl) (by kernel_rfl) (by kernel_rfl) (fun _ _ _ h => h) (.inl ⟨by kernel_rfl, ?_⟩) HFc.out ?_
              · intro wq hq
                have cv := CV.out wq hq
                have lv := LV.out wq hq
                have mv := MV.out wq hq
                go_simp
              simp only [List.setIfInBounds_toArray, List.set_cons_succ, List.set_cons_zero])
            (
              refine wpAnyH_takeM (i := 7) (v := .bool true) 101 rfl rfl (by kernel_rfl) (by kernel_rfl) (by kernel_rfl) (fun _ _ _ h => h) (.inl ⟨by kernel_rfl, ?_⟩) HFc.out ?_
              · intro wq hq
                have cv := CV.out wq hq
                have lv := LV.out wq hq
                have mv := MV.out wq hq
                go_simp
              simp only [List.setIfInBounds_toArray, List.set_cons_succ, List.set_cons_zero])
            (
              refine wpAnyH_takeM (i := 8) (v := .bool true) 102 rfl rfl (by kernel_rfl) (by kernel_rfl) (by kernel_rfl) (fun _ _ _ h => h) (.inl ⟨by kernel_rfl, ?_⟩) HFc.out ?_
              · intro wq hq
                have cv := CV.out wq hq
                have lv := LV.out wq hq
                have mv := MV.out wq hq
                go_simp
              simp only [List.setIfInBounds_toArray, List.set_cons_succ, List.set_cons_zero])
            (
              refine wpAnyH_takeM (i := 9) (v := .bool false) 103 rfl rfl (by kernel_rfl) (by kernel_rfl) (by kernel_rfl) (fun _ _ _ h => h) (.inl ⟨by kernel_rfl, ?_⟩) HFc.out ?_
              · intro wq hq
                have cv := CV.out wq hq
                have lv := LV.out wq hq
                have mv := MV.out wq hq
                go_simp
              simp only [List.setIfInBounds_toArray, List.set_cons_succ, List.set_cons_zero])
            (
              refine wpAnyH_takeM (i := 10) (v := .bool false) 104 rfl rfl (by kernel_rfl) (by kernel_rfl) (by kernel_rfl) (fun _ _ _ h => h) (.inl ⟨by kernel_rfl, ?_⟩) HFc.out ?_
              · intro wq hq
                have cv := CV.out wq hq
                have lv := LV.out wq hq
                have mv := MV.out wq hq
                go_simp
              simp only [List.setIfInBounds_toArray, List.set_cons_succ, List.set_cons_zero])
            (
              refine wpAnyH_takeM (i := 11) (v := .agg cf) 105 rfl rfl (by kernel_rfl) (by kernel_rfl) (by kernel_rfl) (fun _ _ _ h => h) (.inl ⟨by kernel_rfl, ?_⟩) HFc.out ?_
              · intro wq hq
                have cv := CV.out wq hq
                have lv := LV.out wq hq
                have mv := MV.out wq hq
                go_simp
              simp only [List.setIfInBounds_toArray, List.set_cons_succ, List.set_cons_zero])
            (
              refine wpAnyH_takeM (i := 12) (v := .slice (some ⟨b, o, none⟩) L cap) 106 rfl rfl (by kernel_rfl) (by kernel_rfl) (by kernel_rfl) (fun _ _ _ h => h) (.inl ⟨by kernel_rfl, ?_⟩) HFc.out ?_
              · intro wq hq
                have cv := CV.out wq hq
                have lv := LV.out wq hq
                have mv := MV.out wq hq
                go_simp
              simp only [List.setIfInBounds_toArray, List.set_cons_succ, List.set_cons_zero])
            (
              refine wpAnyH_takeM (i := 13) (v := .int .i64 k) 107 rfl rfl (by kernel_rfl) (by kernel_rfl) (by kernel_rfl) (fun _ _ _ h => h) (.inl ⟨by kernel_rfl, ?_⟩) HFc.out ?_
              · intro wq hq
                have cv := CV.out wq hq
                have lv := LV.out wq hq
                have mv := MV.out wq hq
                go_simp
              simp only [List.setIfInBounds_toArray, List.set_cons_succ, List.set_cons_zero])
            (
              refine wpAnyH_takeM (i := 14) (v := .pointer (some ⟨b, o + k * 33, none⟩)) 108 rfl rfl (by kernel_rfl) (by kernel_rfl) (by kernel_rfl) (fun _ _ _ h => h) (.inl ⟨by kernel_rfl, ?_⟩) HFc.out ?_
              · intro wq hq
                have cv := CV.out wq hq
                have lv := LV.out wq hq
                have mv := MV.out wq hq
                go_simp
              simp only [List.setIfInBounds_toArray, List.set_cons_succ, List.set_cons_zero])
            (
              refine wpAnyH_takeM (i := 15) (v := .pointer (some ⟨b, o + k * 33 + 1, none⟩)) 109 rfl rfl (by kernel_rfl) (by kernel_rfl) (by kernel_rfl) (fun _ _ _ h => h) (.inl ⟨by kernel_rfl, ?_⟩) HFc.out ?_
              · intro wq hq
                have cv := CV.out wq hq
                have lv := LV.out wq hq
                have mv := MV.out wq hq
                go_simp
              simp only [List.setIfInBounds_toArray, List.set_cons_succ, List.set_cons_zero])
            (
              refine wpAnyH_takeM (i := 16) (v := .agg cy) 110 rfl rfl (by kernel_rfl) (by kernel_rfl) (by kernel_rfl) (fun _ _ _ h => h) (.inl ⟨by kernel_rfl, ?_⟩) HFc.out ?_
              · intro wq hq
                have cv := CV.out wq hq
                have lv := LV.out wq hq
                have mv := MV.out wq hq
                go_simp
              simp only [List.setIfInBounds_toArray, List.set_cons_succ, List.set_cons_zero])
            (
              refine wpAnyH_takeM (i := 17) (v := .bool false) 111 rfl rfl (by kernel_rfl) (by kernel_rfl) (by kernel_rfl) (fun _ _ _ h => h) (.inl ⟨by kernel_rfl, ?_⟩) HFc.out ?_
              · intro wq hq
                have cv := CV.out wq hq
                have lv := LV.out wq hq
                have mv := MV.out wq hq
                go_simp
              simp only [List.setIfInBounds_toArray, List.set_cons_succ, List.set_cons_zero])
            (
              refine wpAnyH_takeM (i := 18) (v := .bool false) 112 rfl rfl (by kernel_rfl) (by kernel_rfl) (by kernel_rfl) (fun _ _ _ h => h) (.inl ⟨by kernel_rfl, ?_⟩) HFc.out ?_
              · intro wq hq
                have cv := CV.out wq hq
                have lv := LV.out wq hq
                have mv := MV.out wq hq
                go_simp
              simp only [List.setIfInBounds_toArray, List.set_cons_succ, List.set_cons_zero])
            (
              refine wpAnyH_takeM (i := 19) (v := .bool false) 113 rfl rfl (by kernel_rfl) (by kernel_rfl) (by kernel_rfl) (fun _ _ _ h => h) (.inl ⟨by kernel_rfl, ?_⟩) HFc.out ?_
              · intro wq hq
                have cv := CV.out wq hq
                have lv := LV.out wq hq
                have mv := MV.out wq hq
                go_simp
              simp only [List.setIfInBounds_toArray, List.set_cons_succ, List.set_cons_zero])
            refine wpAnyH_done (by kernel_rfl) ?_ _
            go_wp2_with fail
            go_roundg (L - (k + 1))
            case measure => omega
            case rel => exact ⟨k + 1, by go_num, by omega, Nat.le_refl _, (HFr.out.trans Fo.out (fun _ _ e => e)).trans HFc.out (fun _ _ e => e)⟩
        · have hltz : ¬ ((k : Int) < L) := by omega
          go_wp2_with (first
            | (go_at_call 8; refine (works12_any wv).mono ?_; rintro e wl ⟨rfl, b5⟩; have Gl := Lib.hid (Gv.out.then_below b5); clear b5)
            | (refine wpList_store_at rfl 41 _ _ rfl wj.heap.size 0 41 Ids.zero32 cz rfl rfl (Whole.new wj 41 Ids.zero32) (by rw [hzi]; decide) HZI.out HZA.out ?_
               intro wv hw2 hf2
               have Gv := Lib.hid (Gj.out.trans (((Fr.refl (fun _ => False) wj).alloc _).trans hf2 (fun i hi e => by omega)) (fun _ _ e => e))
               clear hw2 hf2)
            | (go_at_call 21; refine (C8.out wi _ _ HlD.out).mono ?_; rintro e wj ⟨rfl, b5⟩; have Gj := Lib.hid (Gi.out.then_below b5); clear b5)
            | (go_at_call 19; refine (C7.out wr _ _ HcP.out (HlP.out.fr FPr.out (fun _ _ e => e))).mono ?_; rintro e wi ⟨vD, rfl, hoD⟩
               obtain ⟨AD, cD, rfl, -, hlD, hfD⟩ := hoD.form HDM.out
               have HlD := Lib.hid hlD
               have Gi := Lib.hid (GR.out.trans hfD (fun _ _ e => e))
               clear hoD hlD hfD))
          go_ret
          exact ⟨rfl, Gl.out.below (fun _ _ e => e)⟩
end Go.Proofs.YtoakbdmfoepdgaaDoor

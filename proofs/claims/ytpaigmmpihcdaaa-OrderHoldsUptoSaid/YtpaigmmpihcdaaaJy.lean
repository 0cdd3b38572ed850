/- What is proved: the law OrderHolds is true. Conditions: the cells are there; at most two million nodes. -/
import Derived.Test.YtpaigmmpihcdaaaJr
import Derived.Deep.RegionWith
namespace Go.Proofs.Ytpaigmmpihcdaaa
open Go.RowKit Go.Shelf
set_option linter.unusedVariables false

theorem ahead_take {pr : Nat → List Nat} {N : Nat} {T : List Nat} {j x p : Nat} (hA : Ahead pr T) (hD : Dn pr N) (hx : x < N) (hj : T[j]? = some x) (hp : p ∈ pr x) : ¬ p ∈ T.take (j + 1) := by
  intro hm
  obtain ⟨hlt, hxe⟩ := List.getElem?_eq_some_iff.1 hj
  rw [take_snoc hj, List.mem_append, List.mem_singleton] at hm
  rcases hm with hm | rfl
  · obtain ⟨i, hi, he⟩ := List.mem_iff_getElem.1 hm
    rw [List.length_take] at hi
    rw [List.getElem_take] at he
    unfold Ahead at hA
    rw [List.pairwise_iff_getElem] at hA
    exact hA i j (by omega) hlt (by omega) (by rw [hxe, he]; exact hp)
  · have := hD p hx p hp
    omega
theorem getD_some {l : List Nat} {k : Nat} (h : k < l.length) : l[k]? = some (l.getD k 0) := by
  rw [List.getD_eq_getElem?_getD, List.getElem?_eq_getElem h]; rfl
structure HlS (g k : Nat) (v : Value) (w : World) : Prop where
  c0 : w.cell? ⟨g, k, none⟩ = some v
/-- What each of the three lists has. -/
structure HlT (pr : Nat → List Nat) (N : Nat) (has : Nat → Bool) (k : Nat) (T : List Nat) : Prop where
  lt : ∀ x ∈ T, x < N ∧ has x = true
  nd : T.Nodup
  ah : 0 < k → Ahead pr T
  ln : T.length = cnt has N

set_option maxHeartbeats 3200000 in
set_option maxRecDepth 100000 in
theorem orderHolds_big (A : Option Addr) (c N L : Nat) (B : Option Addr) (cB : Nat) (W : World) (hz : (200 : Int) < (L : Int)) :
    Calls Try.prog 6 #[.slice A N c, .slice B L cB] W fun e w' => e = .returned (.bool true) ∧ Below W.heap.size W w' := by
  go_enter Try.func6, Try.ntmps6
  go_wp2_with (go_at_call 7; refine (works15_any _).mono ?_; rintro e w7 ⟨rfl, f7⟩; have HF7 := Lib.hid f7; clear f7)
  go_ret
  exact ⟨by simp, HF7.out.below (fun _ _ e => e)⟩
set_option maxHeartbeats 3200000 in
set_option maxRecDepth 100000 in
theorem orderHolds_no (A : Option Addr) (c : Nat) (G : List Nd) (B : Option Addr) (cB : Nat) (l : List Int) (W : World) (hg : G.length ≤ 2000000) (hbig : ¬ 200 < l.length) (hG : GAt W A G) (hl : Lies W B (zC l)) (h0 : ¬ nodE G l = 0) :
    Calls Try.prog 6 #[.slice A G.length c, .slice B l.length cB] W fun e w' => e = .returned (.bool true) ∧ Below W.heap.size W w' := by
  have HP := Lib.hid (OrPlain_no A c G B cB l (by omega) W hG hl h0)
  have HD := Lib.hid (fun w (f : Fr (fun _ => False) W w) => OrDate_no A c G B cB l (by omega) hg w (hG.fr f) (hl.fr f (fun _ _ e => e)) h0)
  have HT := Lib.hid (fun w (f : Fr (fun _ => False) W w) => OrTopo_no A c G B cB l (by omega) w (hG.fr f) (hl.fr f (fun _ _ e => e)) h0)
  have hbz : ¬ (200 : Int) < (l.length : Int) := by omega
  obtain ⟨r, hr⟩ : ∃ r, nodE G l = r := ⟨_, rfl⟩
  rw [hr] at HP HD HT h0
  have hrz : (r == 0) = false := by simpa using h0
  obtain ⟨N, hN⟩ : ∃ N, G.length = N := ⟨_, rfl⟩
  obtain ⟨L, hL⟩ : ∃ L, l.length = L := ⟨_, rfl⟩
  rw [hN] at HP HD HT
  rw [hL] at HP HD HT hbz
  rw [hN, hL]
  clear hG hl hN hL hr hbig hg
  go_enter Try.func6, Try.ntmps6
  go_wp2_with (first
    | (go_at_call 8; refine HP.out.mono ?_; rintro e w1 ⟨rfl, f1⟩; have HF1 := Lib.hid f1; clear f1)
    | (go_at_call 12; refine (HD.out _ HF1.out).mono ?_; rintro e w2 ⟨rfl, f2⟩; have HF2 := Lib.hid (HF1.out.trans f2 (fun _ _ e => e)); clear f2)
    | (go_at_call 15; refine (HT.out _ HF2.out).mono ?_; rintro e w3 ⟨rfl, f3⟩; have HF3 := Lib.hid (HF2.out.trans f3 (fun _ _ e => e)); clear f3)
    | (go_at_call 7; refine (works15_any _).mono ?_; rintro e w5 ⟨rfl, f5⟩; have HF5 := Lib.hid (HF3.out.trans f5 (fun _ _ e => e)); clear f5))
  go_ret
  exact ⟨by simp, HF5.out.below (fun _ _ e => e)⟩
set_option maxHeartbeats 6400000 in
set_option maxRecDepth 100000 in
theorem orderHolds_ok (A : Option Addr) (c : Nat) (G : List Nd) (B : Option Addr) (cB : Nat) (l : List Int) (W : World) (hbig : ¬ 200 < l.length) (hG : GAt W A G) (hl : Lies W B (zC l)) (h0 : nodE G l = 0) :
    Calls Try.prog 6 #[.slice A G.length c, .slice B l.length cB] W fun e w' => e = .returned (.bool true) ∧ Below W.heap.size W w' := by
  have HP := Lib.hid (OrPlain_ok A c G B cB l (by omega) W hG hl h0)
  have HD := Lib.hid (fun w (f : Fr (fun _ => False) W w) => OrDate_ok A c G B cB l (by omega) w (hG.fr f) (hl.fr f (fun _ _ e => e)) h0)
  have HT := Lib.hid (fun w (f : Fr (fun _ => False) W w) => OrTopo_ok A c G B cB l (by omega) w (hG.fr f) (hl.fr f (fun _ _ e => e)) h0)
  have hbz : ¬ (200 : Int) < (l.length : Int) := by omega
  obtain ⟨hok, hall⟩ := nodE_zero h0
  have hR := right_of hok
  have hlen := hR.len
  have HZ := Lib.hid (nz_zC (fun z hz => (badZ_no (hall z hz)).1))
  have HIn := Lib.hid (fun w (f : Fr (fun _ => False) W w) => show Calls Try.prog 17 #[.slice A G.length c, .slice B l.length cB] w (fun e w' => ∃ g, e = .returned (.slice (some ⟨g, 0, none⟩) G.length G.length) ∧ OwB w w' g G.length (fun k => decide (k ∈ nz l))) from by
    have := QoIn_any A c G.length B cB (nz l) (by omega) (by rw [nz_len]; omega) (nz_lt hall) w (by rw [← HZ.out]; exact hl.fr f (fun _ _ e => e))
    rwa [nz_len] at this)
  have HKin := Lib.hid (fun n (hn : n < G.length) => kin_at hG hR n hn)
  have HFew := Lib.hid hR.few
  have HDn := Lib.hid hR.dn
  have hP3 := plain_holds (fun n => (timeL G).getD n 0) G.length (nz l)
  have hD3 := date_holds (fun n => (timeL G).getD n 0) hR.dn (nz l)
  have hT3 := topo_holds (fun n => (timeL G).getD n 0) hR.dn (fun n hn => pr_nodup hok n hn) (nz l)
  have HT0 := Lib.hid (show HlT (prG G) G.length (fun k => decide (k ∈ nz l)) 0 (plainL (fun n => (timeL G).getD n 0) G.length (nz l)) from ⟨fun x hx => ⟨(hP3.1 x hx).1, decide_eq_true (hP3.1 x hx).2⟩, hP3.2.1, fun h => by omega, hP3.2.2⟩)
  have HT1 := Lib.hid (show HlT (prG G) G.length (fun k => decide (k ∈ nz l)) 1 (dateL (prG G) (fun n => (timeL G).getD n 0) G.length (nz l)) from ⟨fun x hx => ⟨(hD3.1 x hx).1, decide_eq_true (hD3.1 x hx).2⟩, hD3.2.1, fun h => hD3.2.2.1, hD3.2.2.2⟩)
  have HT2 := Lib.hid (show HlT (prG G) G.length (fun k => decide (k ∈ nz l)) 2 (topoL (prG G) (fun n => (timeL G).getD n 0) G.length (nz l)) from ⟨fun x hx => ⟨(hT3.1 x hx).1, decide_eq_true (hT3.1 x hx).2⟩, hT3.2.1, fun h => hT3.2.2.1, hT3.2.2.2⟩)
  obtain ⟨T0, hT0⟩ : ∃ T, plainL (fun n => (timeL G).getD n 0) G.length (nz l) = T := ⟨_, rfl⟩
  obtain ⟨T1, hT1⟩ : ∃ T, dateL (prG G) (fun n => (timeL G).getD n 0) G.length (nz l) = T := ⟨_, rfl⟩
  obtain ⟨T2, hT2⟩ : ∃ T, topoL (prG G) (fun n => (timeL G).getD n 0) G.length (nz l) = T := ⟨_, rfl⟩
  rw [hT0] at HP HT0
  rw [hT1] at HD HT1
  rw [hT2] at HT HT2
  obtain ⟨has, hhas⟩ : ∃ f : Nat → Bool, (fun k => decide (k ∈ nz l)) = f := ⟨_, rfl⟩
  rw [hhas] at HIn HT0 HT1 HT2
  obtain ⟨pr, hpr⟩ : ∃ p, prG G = p := ⟨_, rfl⟩
  rw [hpr] at HKin HFew HDn HT0 HT1 HT2
  obtain ⟨N, hN⟩ : ∃ N, G.length = N := ⟨_, rfl⟩
  obtain ⟨L, hL⟩ : ∃ L, l.length = L := ⟨_, rfl⟩
  rw [hN] at HP HD HT HIn HKin HFew HDn HT0 HT1 HT2 hlen
  rw [hL] at HP HD HT HIn hbz
  rw [hN, hL]
  have hcn := cnt_le has N
  have HCn := Lib.hid hcn
  have HMk := Lib.hid (fun w => make_bools N (by omega) w)
  have HLs := Lib.hid (fun g w (h : Whole w g 4 (rowC (boolC has) N)) => QaList_any g N has (by omega) w h)
  have HSl : Hid ((selB has N).length = cnt has N) := Lib.hid rfl
  clear hG hl hN hL hbig h0 hok hall hR HZ hP3 hD3 hT3 hT0 hT1 hT2 hhas hpr hcn
  go_enter Try.func6, Try.ntmps6
  go_upto_region 10 with (first
    | (go_at_call 8; refine HP.out.mono ?_; rintro e w1 ⟨v0, rfl, ho⟩; obtain ⟨A0, d0, hv0, _, _, _, hl0⟩ := ho.shape; subst hv0; have HL0 := Lib.hid hl0; have HF1 := Lib.hid ho.2; clear ho hl0)
    | (go_at_call 12; refine (HD.out _ HF1.out).mono ?_; rintro e w2 ⟨v1, rfl, ho⟩; obtain ⟨A1, d1, hv1, _, _, _, hl1⟩ := ho.shape; subst hv1; have HL1 := Lib.hid hl1; have HF12 := Lib.hid ho.2; have HF2 := Lib.hid (HF1.out.trans ho.2 (fun _ _ e => e)); clear ho hl1)
    | (go_at_call 15; refine (HT.out _ HF2.out).mono ?_; rintro e w3 ⟨v2, rfl, ho⟩; obtain ⟨A2, d2, hv2, _, _, _, hl2⟩ := ho.shape; subst hv2; have HL2 := Lib.hid hl2; have HF23 := Lib.hid ho.2; have HF3 := Lib.hid (HF2.out.trans ho.2 (fun _ _ e => e)); clear ho hl2)
    | (go_at_call 17; refine (HIn.out _ (HF3.out.trans ((Fr.refl (fun _ => False) _).alloc _) (fun _ _ e => e))).mono ?_; rintro e w4 ⟨gi, rfl, hi⟩; have HI4 := Lib.hid hi; clear hi))
  have HRow := Lib.hid (show Whole w4 w3.heap.size 23 #[.slice A0 T0.length d0, .slice A1 T1.length d1, .slice A2 T2.length d2] from (Whole.new w3 23 _).fr HI4.out.old (fun e => e))
  have HF34 := Lib.hid (show Fr (fun _ => False) w3 w4 from ((Fr.refl (fun _ => False) w3).alloc _).trans HI4.out.old (fun _ _ e => e))
  have HF4 := Lib.hid (show Fr (fun _ => False) W w4 from HF3.out.trans HF34.out (fun _ _ e => e))
  have HIr := Lib.hid (show Whole w4 gi 4 (rowC (boolC has) N) from HI4.out.row)
  obtain ⟨gl, hgl⟩ : ∃ g, w3.heap.size = g := ⟨_, rfl⟩
  rw [hgl] at HRow ⊢
  have HAll := Lib.hid (show ∀ k, k < 3 → ∃ (A : Option Addr) (cp : Nat) (T : List Nat), HlT pr N has k T ∧ w4.cell? ⟨gl, k, none⟩ = some (.slice A T.length cp) ∧ Lies w4 A (nC T) from by
    intro k hk
    rcases (by omega : k = 0 ∨ k = 1 ∨ k = 2) with rfl | rfl | rfl
    · exact ⟨A0, d0, T0, HT0.out, by rw [HRow.out.cell]; rfl, HL0.out.fr ((HF12.out.trans HF23.out (fun _ _ e => e)).trans HF34.out (fun _ _ e => e)) (fun _ _ e => e)⟩
    · exact ⟨A1, d1, T1, HT1.out, by rw [HRow.out.cell]; rfl, HL1.out.fr (HF23.out.trans HF34.out (fun _ _ e => e)) (fun _ _ e => e)⟩
    · exact ⟨A2, d2, T2, HT2.out, by rw [HRow.out.cell]; rfl, HL2.out.fr HF34.out (fun _ _ e => e)⟩)
  clear hgl HL0 HL1 HL2 HF1 HF12 HF2 HF23 HF3 HF34 HI4 HT0 HT1 HT2 HRow HP HD HT HIn
  go_wp2
  go_loopg [13] 3 (fun kx s13 wr => ∃ k : Nat, s13 = .int .i64 k ∧ k ≤ 3 ∧ 3 - k ≤ kx ∧ Hid (Fr (fun _ => False) w4 wr))
  case atStart => exact ⟨0, rfl, by omega, by omega, Lib.hid (Fr.refl _ _)⟩
  case round =>
    obtain ⟨k, rfl, hk, hkx, HFk⟩ := hrel
    obtain ⟨wo, rfl⟩ : ∃ wo, wo = wr := ⟨wr, rfl⟩
    have wk := wrap_nat1 k (by omega)
    by_cases hlt : k < 3
    · have hltz : (k : Int) < 3 := by omega
      have hk0 : (0 : Int) ≤ (k : Int) := by omega
      obtain ⟨Ak, cpk, T, hT, hcell, hli⟩ := HAll.out k hlt
      have HTl := Lib.hid hT.lt
      have HNd := Lib.hid hT.nd
      have HAh := Lib.hid hT.ah
      have HLn := Lib.hid hT.ln
      have HLi := Lib.hid (fun w' (f : Fr (fun _ => False) w4 w') j hj => lies_nat hli f j hj)
      have HTt := Lib.hid (List.take_length (l := T))
      obtain ⟨n, hn⟩ : ∃ n, T.length = n := ⟨_, rfl⟩
      have HTn := Lib.hid hn
      rw [hn] at hcell HLi HLn HTt
      have hn128 : n ≤ 128 := by have := HLn.out; have := HCn.out; omega
      have HCe := Lib.hid (fun w' (f : Fr (fun _ => False) w4 w') => show w'.cell? ⟨gl, k, none⟩ = some (.slice Ak n cpk) from f.cell hcell (fun e => e))
      have hmk := HMk.out wo
      obtain ⟨w5, hw5⟩ : ∃ w5, wo.alloc (.cells (rowC (boolC fun _ => false) N) 4) = w5 := ⟨_, rfl⟩
      rw [hw5] at hmk
      obtain ⟨gt, hgt⟩ : ∃ g, wo.heap.size = g := ⟨_, rfl⟩
      have HO0 := Lib.hid (show OwB wo w5 gt N (fun x => decide (x ∈ T.take 0)) from ⟨by
        rw [rowC_congr (f := boolC fun _ => false) (fun j hj => by simp [boolC])]
        subst hw5; subst hgt; exact Whole.new wo 4 _, by subst hw5; exact (Fr.refl (fun _ => False) wo).alloc _, by omega⟩)
      rw [hgt] at hmk
      clear hT hcell hli hn hw5 hgt
      go_upto_region 14 with fail
      clear hmk
      go_wp2
      go_loopg [15] n (fun kx s15 wr => ∃ j : Nat, s15 = .int .i64 j ∧ j ≤ n ∧ n - j ≤ kx ∧ Hid (OwB wo wr gt N (fun x => decide (x ∈ T.take j))))
      case atStart => exact ⟨0, rfl, by omega, by omega, HO0⟩
      case round =>
        obtain ⟨j, rfl, hj, hjx, HO⟩ := hrel
        obtain ⟨wj, rfl⟩ : ∃ wj, wj = wr := ⟨wr, rfl⟩
        have wj1 := wrap_nat1 j (by omega)
        have HFj := Lib.hid (HFk.out.trans HO.out.old (fun _ _ e => e))
        have cAll := HCe.out wj HFj.out
        by_cases hjn : j < n
        · have hjz : (j : Int) < n := by omega
          have hj0 : (0 : Int) ≤ (j : Int) := by omega
          obtain ⟨b3, o3, hB3, cx⟩ := HLi.out wj HFj.out j hjn
          subst hB3
          have HXj := Lib.hid (getD_some (l := T) (k := j) (by rw [HTn.out]; exact hjn))
          obtain ⟨x, hx⟩ : ∃ x, T.getD j 0 = x := ⟨_, rfl⟩
          rw [hx] at cx HXj
          have hxT : x ∈ T := List.mem_of_getElem? HXj.out
          obtain ⟨hxN, hxh⟩ := HTl.out x hxT
          have hx0 : ¬ ((x : Int) < 0) := by omega
          have hx1 : ¬ ((x : Int) ≥ (N : Int)) := by omega
          have hx2 : (0 : Int) ≤ (x : Int) := by omega
          have hxz : (x : Int) < (N : Int) := by omega
          have ci := (HIr.out.fr HFj.out (fun e => e)).rcell x hxN
          have ct := HO.out.row.rcell x hxN
          have ft := HO.out.row.frozen x
          simp only [boolC, hxh] at ci
          have hnt : decide (x ∈ T.take j) = false := decide_eq_false (not_taken HNd.out HXj.out)
          simp only [boolC, hnt] at ct
          have HTs := Lib.hid (take_snoc HXj.out)
          have HS := Lib.hid (HO.out.set x hxN true (fun y => decide (y ∈ T.take (j + 1))) (fun y hy => by
            rw [HTs.out]
            by_cases e : y = x
            · simp [e]
            · simp [e]))
          obtain ⟨w6, hw6⟩ : ∃ w6, wj.setCell ⟨gt, x, none⟩ (.bool true) = w6 := ⟨_, rfl⟩
          rw [hw6] at HS
          have HF6 := Lib.hid (HFk.out.trans HS.out.old (fun _ _ e => e))
          obtain ⟨Ap, cpp, hkin⟩ := HKin.out x hxN
          obtain ⟨bb, o, hA, cn, hpl⟩ := hkin w6 (HF4.out.trans HF6.out (fun _ _ e => e))
          have hfew := HFew.out x hxN
          have HPk := Lib.hid (fun (hk1 : 0 < k) p (hp : p ∈ pr x) => ahead_take (HAh.out hk1) HDn.out hxN HXj.out hp)
          have HPl := Lib.hid (fun i (hi : i < (pr x).length) => show (pr x).getD i 0 ∈ pr x from List.mem_of_getElem? (getD_some hi))
          have HDx := Lib.hid (fun p hp => HDn.out x hxN p hp)
          obtain ⟨ps, hps⟩ : ∃ ps, pr x = ps := ⟨_, rfl⟩
          rw [hps] at cn hpl hfew HPk HPl HDx
          obtain ⟨P, hP⟩ : ∃ P, ps.length = P := ⟨_, rfl⟩
          rw [hP] at cn hpl hfew HPl
          have HPc := Lib.hid hpl
          have HW6 := Lib.hid hw6
          subst hA
          clear hx hxT hxh hnt hkin hpl hps hP
          go_upto_region 21 with fail
          try rw [HW6.out]
          clear hw6
          go_wp2
          go_loopg [17] P (fun kx s17 wr => ∃ i : Nat, s17 = .int .i64 i ∧ i ≤ P ∧ P - i ≤ kx ∧ w6 = wr)
          case atStart => exact ⟨0, rfl, by omega, by omega, rfl⟩
          case round =>
            obtain ⟨i, rfl, hi, hix, rfl⟩ := hrel
            have wi1 := wrap_nat1 i (by omega)
            by_cases hkp : 0 < k
            · have hkpz : (k : Int) > 0 := by omega
              by_cases hiP : i < P
              · have hiz : (i : Int) < P := by omega
                obtain ⟨b4, o4, hB4, cp4⟩ := HPc.out i hiP
                subst hB4
                have hpm := HPl.out i hiP
                obtain ⟨p, hp⟩ : ∃ p, ps.getD i 0 = p := ⟨_, rfl⟩
                rw [hp] at cp4 hpm
                have hpx := HDx.out p hpm
                have hpN : p < N := by omega
                have hp0 : (0 : Int) ≤ (p : Int) := by omega
                have hpz : (p : Int) < (N : Int) := by omega
                have ct4 := HS.out.row.rcell p hpN
                have hpt : decide (p ∈ T.take (j + 1)) = false := decide_eq_false (HPk.out hkp p hpm)
                simp only [boolC, hpt] at ct4
                clear hp hpm hpt hpx
                go_wp2
                go_roundg (P - (i + 1))
                case measure => omega
                case rel => exact ⟨i + 1, by go_num, by omega, Nat.le_refl _, rfl⟩
              · obtain rfl : i = P := by omega
                go_wp2
                go_roundg (n - (j + 1))
                case measure => omega
                case rel => exact ⟨j + 1, by go_num, by omega, Nat.le_refl _, HS⟩
            · have hkpz : ¬ ((k : Int) > 0) := by omega
              by_cases hiP : i < P
              · have hiz : (i : Int) < P := by omega
                go_wp2
                go_roundg (n - (j + 1))
                case measure => omega
                case rel => exact ⟨j + 1, by go_num, by omega, Nat.le_refl _, HS⟩
              · obtain rfl : i = P := by omega
                go_wp2
                go_roundg (n - (j + 1))
                case measure => omega
                case rel => exact ⟨j + 1, by go_num, by omega, Nat.le_refl _, HS⟩
        · obtain rfl : j = n := by omega
          have HS0 := Lib.hid (show HlS gl k (.slice Ak j cpk) wj from ⟨cAll⟩)
          go_upto_region 26 with (fail)
          clear cAll
          refine wp_region_held (S := HlS gl k (.slice Ak j cpk)) (by kernel_rfl) ?_
          change wpAnyH _ _ _ _ _ _ _ _ (World.drew wj)
          have HFc := Lib.hid (show Fr (fun _ => False) wj wj.drew from (Fr.refl _ wj).drew)
          have HSq := Lib.hid (show HlS gl k (.slice Ak j cpk) wj.drew from ⟨HFc.out.cell HS0.out.c0 (fun e => e)⟩)
          obtain ⟨wc, hwc⟩ : ∃ wc, wj.drew = wc := ⟨_, rfl⟩
          rw [hwc] at HFc HSq ⊢
          clear hwc
          have HQl := Lib.hid (HLs.out gi wc (HIr.out.fr (HFj.out.trans HFc.out (fun _ _ e => e)) (fun e => e)))
          obtain ⟨S0, hS0⟩ : ∃ S0, selB has N = S0 := ⟨_, rfl⟩
          have HS0l := Lib.hid (show S0.length = j from by rw [← hS0, HSl.out, ← HLn.out])
          rw [hS0] at HQl
          clear hS0
          (
            refine wpAnyH_takeM (i := 0) (v := .slice (some ⟨gl, 0, none⟩) 3 3) 151 rfl rfl (by kernel_rfl) (by kernel_rfl) (by kernel_rfl) (fun _ _ _ h => h) (.inl ⟨by rfl, ?_⟩) HSq.out ?_
            · intro wq hq
              obtain ⟨k0⟩ := hq
              go_simp)
          (
            refine wpAnyH_takeM (i := 1) (v := .int .i64 k) 152 rfl rfl (by kernel_rfl) (by kernel_rfl) (by kernel_rfl) (fun _ _ _ h => h) (.inl ⟨by rfl, ?_⟩) HSq.out ?_
            · intro wq hq
              obtain ⟨k0⟩ := hq
              go_simp)
          (
            refine wpAnyH_takeM (i := 2) (v := .pointer (some ⟨gl, k, none⟩)) 153 rfl rfl (by kernel_rfl) (by kernel_rfl) (by kernel_rfl) (fun _ _ _ h => h) (.inl ⟨by rfl, ?_⟩) HSq.out ?_
            · intro wq hq
              obtain ⟨k0⟩ := hq
              go_simp)
          (
            refine wpAnyH_takeM (i := 3) (v := .slice Ak j cpk) 154 rfl rfl (by kernel_rfl) (by kernel_rfl) (by kernel_rfl) (fun _ _ _ h => h) (.inl ⟨by rfl, ?_⟩) HSq.out ?_
            · intro wq hq
              obtain ⟨k0⟩ := hq
              go_simp)
          (
            refine wpAnyH_takeM (i := 4) (v := .int .i64 j) 155 rfl rfl (by kernel_rfl) (by kernel_rfl) (by kernel_rfl) (fun _ _ _ h => h) (.inl ⟨by rfl, ?_⟩) HSq.out ?_
            · intro wq hq
              obtain ⟨k0⟩ := hq
              go_simp)
          (
            refine wpAnyH_takeM (i := 5) (v := .slice (some ⟨gi, 0, none⟩) N N) 156 rfl rfl (by kernel_rfl) (by kernel_rfl) (by kernel_rfl) (fun _ _ _ h => h) (.inl ⟨by rfl, ?_⟩) HSq.out ?_
            · intro wq hq
              obtain ⟨k0⟩ := hq
              go_simp)
          (
            try simp only [List.setIfInBounds_toArray, List.set_cons_succ, List.set_cons_zero]
            refine wpAnyH_all (rs := [6]) (by kernel_rfl) (by simp) ?_
            intro i hi
            simp only [List.mem_cons, List.not_mem_nil, or_false] at hi
            subst hi)
          refine wpOp_step rfl (fun K hK => ?_)
          go_simp
          go_wp2_with (go_at_call 18; refine HQl.out.mono ?_; rintro e w8 ⟨v8, rfl, ho⟩; obtain ⟨A8, d8, hv8, _, _, _, _⟩ := ho.shape; rw [HS0l.out] at hv8; subst hv8; have HF8 := Lib.hid (HFj.out.trans (HFc.out.trans ho.2 (fun _ _ e => e)) (fun _ _ e => e)); have HSq := Lib.hid (show HlS gl k (.slice Ak j cpk) w8 from ⟨ho.2.cell HSq.out.c0 (fun e => e)⟩); clear ho)
          refine ⟨HSq.out, ?_⟩
          (
            refine wpAnyH_takeM (i := 7) (v := .int .i64 j) 158 rfl rfl (by kernel_rfl) (by kernel_rfl) (by kernel_rfl) (fun _ _ _ h => h) (.inl ⟨by rfl, ?_⟩) HSq.out ?_
            · intro wq hq
              obtain ⟨k0⟩ := hq
              go_simp)
          (
            refine wpAnyH_takeM (i := 8) (v := .bool false) 159 rfl rfl (by kernel_rfl) (by kernel_rfl) (by kernel_rfl) (fun _ _ _ h => h) (.inl ⟨by rfl, ?_⟩) HSq.out ?_
            · intro wq hq
              obtain ⟨k0⟩ := hq
              go_simp)
          refine wpAnyH_done (by kernel_rfl) ?_ _
          go_wp2
          go_roundg (3 - (k + 1))
          case measure => omega
          case rel => exact ⟨k + 1, by go_num, by omega, Nat.le_refl _, HF8⟩
    · obtain rfl : k = 3 := by omega
      go_wp2_with (go_at_call 7; refine (works15_any _).mono ?_; rintro e w9 ⟨rfl, f9⟩; have HF9 := Lib.hid ((HF4.out.trans HFk.out (fun _ _ e => e)).trans f9 (fun _ _ e => e)); clear f9)
      go_ret
      exact ⟨by simp, HF9.out.below (fun _ _ e => e)⟩
theorem orderHolds_walk (A : Option Addr) (c : Nat) (G : List Nd) (B : Option Addr) (cB : Nat) (l : List Int) (W : World) (hg : G.length ≤ 2000000) (hG : GAt W A G) (hl : Lies W B (zC l)) :
    Calls Try.prog 6 #[.slice A G.length c, .slice B l.length cB] W fun e w' => e = .returned (.bool true) ∧ Below W.heap.size W w' := by
  by_cases hbig : 200 < l.length
  · exact orderHolds_big A c G.length l.length B cB W (by omega)
  · by_cases h0 : nodE G l = 0
    · exact orderHolds_ok A c G B cB l W hbig hG hl h0
    · exact orderHolds_no A c G B cB l W hg hbig hG hl h0
end Go.Proofs.Ytpaigmmpihcdaaa

/- What is proved: the law DagAbove is true. Conditions: the cells are there. -/
import Derived.Test.YtfpolfcmfdmifaaKw
import Derived.Deep.RegionWith
namespace Go.Proofs.Ytfpolfcmfdmifaa
open Go.RowKit Go.Shelf
set_option linter.unusedVariables false

theorem up_fresh (A : Option Addr) (c : Nat) (G : List Nd) (hR : RightG G) (b : Nat) (hb : b < G.length) (g : Nat) (w : World) (hg : g = w.heap.size) (hG : GAt w A G) :
    Calls Try.prog 20 #[.slice A G.length c, .slice (some ⟨g, 0, none⟩) 1 1] (w.alloc (.cells #[.int .i64 (b : Nat)] 3)) fun e w' => ∃ g', e = .returned (.slice (some ⟨g', 0, none⟩) G.length G.length) ∧ OwB w w' g' G.length (upB (prG G) G.length [b]) := by
  subst hg
  have f : Fr (fun _ => False) w (w.alloc (.cells #[.int .i64 (b : Nat)] 3)) := (Fr.refl _ w).alloc _
  exact (QaUp_any A c G (some ⟨w.heap.size, 0, none⟩) 1 [b] hR (by simp) (by simpa using hb) _ (hG.fr f) (Lies.of_whole (Whole.new w 3 _))).mono fun e w' ⟨g', h1, h2⟩ => ⟨g', h1, h2.base f⟩

set_option maxHeartbeats 3200000 in
set_option maxRecDepth 100000 in
theorem dagAbove_walk (A : Option Addr) (c : Nat) (G : List Nd) (B : Option Addr) (cB : Nat) (l : List Int) (b : Int) (W : World) (hG : GAt W A G) (hl : Lies W B (zC l)) :
    Calls Try.prog 4 #[.slice A G.length c, .slice B l.length cB, .int .i64 b] W fun e w' => e = .returned (.bool true) ∧ Below W.heap.size W w' := by
  by_cases hbig : 100 < l.length
  · have HBig := Lib.hid (big14_one W B l.length cB)
    rw [decide_eq_true hbig] at HBig
    obtain ⟨n, hn⟩ : ∃ n, l.length = n := ⟨_, rfl⟩
    rw [hn] at HBig ⊢
    have HF1 := Lib.hid (show Fr (fun _ => False) W (W.alloc (.cells #[.slice B n cB] 24)) from (Fr.refl _ W).alloc _)
    clear hG hl hbig hn
    go_enter Try.func4, Try.ntmps4
    go_wp2_with (first
      | (go_at_call 16; refine HBig.out.mono ?_; rintro e w1 ⟨rfl, rfl⟩)
      | (go_at_call 12; refine (works_fr _).mono ?_; rintro e w7 ⟨rfl, f7⟩; have HF7 := Lib.hid (HF1.out.trans f7 (fun _ _ e => e)); clear f7))
    go_ret
    exact ⟨rfl, HF7.out.below (fun _ _ e => e)⟩
  · have HBig := Lib.hid (big14_one W B l.length cB)
    rw [decide_eq_false hbig] at HBig
    have HAb := Lib.hid (fun w (f : Fr (fun _ => False) W w) => DaAbove_any A c G B cB l (by omega) w (hG.fr f) (hl.fr f (fun _ _ e => e)))
    have HNd := Lib.hid (fun w (f : Fr (fun _ => False) W w) => QaNodes_any A c G w (hG.fr f) B cB l (by omega) (hl.fr f (fun _ _ e => e)))
    have HIs := Lib.hid (fun z w (f : Fr (fun _ => False) W w) => DaIs_any A c G z b w (hG.fr f))
    have HN2 := Lib.hid (fun z w (f : Fr (fun _ => False) W w) => nodes_two A c G z b w (hG.fr f))
    have HLz := Lib.hid (fun w' (f : Fr (fun _ => False) W w') k hk => lies_int hl f k hk)
    have HUf := Lib.hid (fun z (h : nodE G [z, b] = 0) => show ∃ z' b' : Nat, z = (z' : Int) ∧ b = (b' : Int) ∧ z' < G.length ∧ z.toNat = z' ∧ ∀ g w, g = w.heap.size → Fr (fun _ => False) W w → Calls Try.prog 20 #[.slice A G.length c, .slice (some ⟨g, 0, none⟩) 1 1] (w.alloc (.cells #[.int .i64 b] 3)) (fun e w' => ∃ g', e = .returned (.slice (some ⟨g', 0, none⟩) G.length G.length) ∧ OwB w w' g' G.length (upB (prG G) G.length [b.toNat])) from by
      obtain ⟨hok, hall⟩ := nodE_zero h
      obtain ⟨z', hz1, hz2, hz3⟩ := nat_of (hall z (by simp))
      obtain ⟨b', hb1, hb2, hb3⟩ := nat_of (hall b (by simp))
      refine ⟨z', b', hz1, hb1, hz2, hz3, fun g w hg f => ?_⟩
      subst hb1
      exact up_fresh A c G (right_of hok) b' hb2 g w hg (hG.fr f))
    have HFw1 := Lib.hid (show Fr (fun _ => False) W (W.alloc (.cells #[.slice B l.length cB] 24)) from (Fr.refl _ W).alloc _)
    by_cases hE : nodE G l = 0
    · obtain ⟨hok, hall⟩ := nodE_zero hE
      have hR := right_of hok
      have hlen : (abvL G (nz l)).length ≤ 100000 := by have := selB_len (upB (prG G) G.length (nz l)) G.length; have := hR.len; unfold abvL; omega
      have HUp := Lib.hid (fun w (f : Fr (fun _ => False) W w) => QaUp_any A c G B cB (nz l) hR (by rw [nz_len]; omega) (nz_lt hall) w (hG.fr f) (by rw [← nz_zC (fun z hz => (badZ_no (hall z hz)).1)]; exact hl.fr f (fun _ _ e => e)))
      have HLi := Lib.hid (fun w1 g (h1 : Whole w1 g 4 (rowC (boolC (upB (prG G) G.length (nz l))) G.length)) => QaList_any g G.length (upB (prG G) G.length (nz l)) (by have := hR.len; omega) w1 h1)
      rw [show selB (upB (prG G) G.length (nz l)) G.length = abvL G (nz l) from rfl] at HLi
      rw [nz_len] at HUp
      rw [hE] at HAb HNd
      obtain ⟨T, hT⟩ : ∃ T, abvL G (nz l) = T := ⟨_, rfl⟩
      rw [hT] at HAb HLi hlen
      obtain ⟨tn, htn⟩ : ∃ n, T.length = n := ⟨_, rfl⟩
      have HTn := Lib.hid htn
      rw [htn] at hlen
      have HSm := Lib.hid (fun A ca B cb w h1 h2 => same_ok A ca T B cb tn htn hlen w h1 h2)
      obtain ⟨N, hN⟩ : ∃ N, G.length = N := ⟨_, rfl⟩
      have HN := Lib.hid hN
      obtain ⟨n, hn⟩ : ∃ n, l.length = n := ⟨_, rfl⟩
      rw [hN] at HAb HNd HIs HN2 HUf HUp HLi ⊢
      rw [hn] at HBig HAb HNd HLz HUp HFw1 hbig ⊢
      clear hE hok hall hR hG hl hT htn hlen hN hn
      go_enter Try.func4, Try.ntmps4
      go_upto_region 9 with (first
        | (go_at_call 16; refine HBig.out.mono ?_; rintro e w1 ⟨rfl, rfl⟩)
        | (go_at_call 17; refine (HAb.out _ HFw1.out).mono ?_; rintro e w2 h; obtain ⟨A1, c1, rfl, hl1, f2⟩ := h.ok; rw [HTn.out]; have HL1 := Lib.hid hl1; have HF2 := Lib.hid (HFw1.out.trans f2 (fun _ _ e => e)); clear h hl1 f2)
        | (go_at_call 18; refine (HNd.out _ HF2.out).mono ?_; rintro e w3 ⟨rfl, b3⟩; have HF3 := Lib.hid (HF2.out.then_below b3); have HL3 := Lib.hid (HL1.out.fr (Fr.of_below (S := fun _ => False) b3) (fun _ _ e => e)); clear b3)
        | (go_at_call 20; refine (HUp.out _ HF3.out).mono ?_; rintro e w4 ⟨g4, rfl, h4⟩; have HR4 := Lib.hid h4.row; have HF4 := Lib.hid (HF3.out.trans h4.old (fun _ _ e => e)); have HL4 := Lib.hid (HL3.out.fr h4.old (fun _ _ e => e)); clear h4)
        | (go_at_call 19; refine (HLi.out _ g4 HR4.out).mono ?_; rintro e w5 ⟨v5, rfl, ho⟩; obtain ⟨A5, c5, hv5, _, _, _, hl5⟩ := ho.shape; rw [HTn.out] at hv5; subst hv5; have HL5 := Lib.hid hl5; have HF5 := Lib.hid (HF4.out.trans ho.2 (fun _ _ e => e)); have HLc := Lib.hid (HL4.out.fr ho.2 (fun _ _ e => e)); clear ho hl5)
        | (go_at_call 13; refine (HSm.out A1 c1 A5 c5 _ HLc.out HL5.out).mono ?_; rintro e w6 ⟨rfl, f6⟩; have HF6 := Lib.hid (HF5.out.trans f6 (fun _ _ e => e)); clear f6))
      clear HL1 HL3 HL4 HL5 HLc HR4 HF2 HF3 HF4 HF5 HAb HNd HUp HLi HSm HBig
      (
        go_wp2
        go_loopg [10] n (fun kx s10 wr => ∃ k : Nat, s10 = .int .i64 k ∧ k ≤ n ∧ n - k ≤ kx ∧ Hid (Fr (fun _ => False) W wr))
        case atStart => exact ⟨0, rfl, by omega, by omega, HF6⟩
        case round =>
          obtain ⟨k, rfl, hk, hkx, HFr⟩ := hrel
          obtain ⟨wo, rfl⟩ : ∃ wo, wo = wr := ⟨wr, rfl⟩
          have wk := wrap_nat1 k (by omega)
          by_cases hlt : k < n
          · have hltz : (k : Int) < n := by omega
            obtain ⟨bb, o, hBk, cx⟩ := HLz.out wo HFr.out k hlt
            subst hBk
            have HLz1 := Lib.hid (fun (w' : World) (f : Fr (fun _ => False) W w') => HLz.out w' f k hlt)
            obtain ⟨z, hz⟩ : ∃ z, l.getD k 0 = z := ⟨_, rfl⟩
            rw [hz] at cx HLz1
            have HI1 := Lib.hid (HIs.out z)
            have HN1 := Lib.hid (HN2.out z)
            by_cases hE2 : nodE G [z, b] = 0
            · obtain ⟨z', b', hz1, hb1, hzN, hzt, hup⟩ := HUf.out z hE2
              rw [hE2, if_pos rfl, isB, hzt, HN.out] at HI1
              rw [hE2] at HN1
              subst hz1
              obtain ⟨u, hu⟩ : ∃ u, upB (prG G) N [b.toNat] = u := ⟨_, rfl⟩
              rw [hu] at hup HI1
              have HU := Lib.hid hup
              obtain ⟨r, hr⟩ : ∃ r, u z' = r := ⟨_, rfl⟩
              rw [hr] at HI1
              have HR := Lib.hid hr
              have hz0 : (0 : Int) ≤ (z' : Int) := by omega
              have hzz : (z' : Int) < (N : Int) := by omega
              have HzN := Lib.hid hzN
              clear hE2 hz hup hu hr hzt hb1 hzN
              go_upto_region 14 with (first
                | (go_at_call 21; refine (HI1.out _ HFr.out).mono ?_; rintro e w1 ⟨rfl, b1⟩; have HG1 := Lib.hid (HFr.out.then_below b1); obtain ⟨b3, o3, hB3, cx2⟩ := HLz1.out w1 HG1.out; injection hB3 with hB3; injection hB3 with e1 e2; subst e1; subst e2; clear b1)
                | (go_at_call 18; refine (HN1.out _ HG1.out).mono ?_; rintro e w2 ⟨rfl, f2⟩; have HG2 := Lib.hid (HG1.out.trans f2 (fun _ _ e => e)); obtain ⟨b4, o4, hB4, cx3⟩ := HLz1.out w2 HG2.out; injection hB4 with hB4; injection hB4 with e1 e2; subst e1; subst e2; clear f2))
              have HSq := Lib.hid (show Fr (fun _ => False) W w2.drew from HG2.out.drew)
              refine wp_region_held (S := fun w' => Fr (fun _ => False) W w') (by kernel_rfl) ?_
              change wpAnyH _ _ _ _ _ _ _ _ (World.drew w2)
              obtain ⟨wc, hwc⟩ : ∃ wc, w2.drew = wc := ⟨_, rfl⟩
              rw [hwc] at HSq ⊢
              clear hwc cx cx2 cx3
              (
                refine wpAnyH_takeM (i := 0) (v := .int .i64 0) 74 rfl rfl (by kernel_rfl) (by kernel_rfl) (by kernel_rfl) (fun _ _ _ h => h) (.inl ⟨by rfl, ?_⟩) HSq.out ?_
                · intro wq hq
                  go_simp
                try simp only [List.setIfInBounds_toArray, List.set_cons_succ, List.set_cons_zero])
              (
                refine wpAnyH_takeM (i := 1) (v := .int .i64 0) 75 rfl rfl (by kernel_rfl) (by kernel_rfl) (by kernel_rfl) (fun _ _ _ h => h) (.inl ⟨by rfl, ?_⟩) HSq.out ?_
                · intro wq hq
                  go_simp
                try simp only [List.setIfInBounds_toArray, List.set_cons_succ, List.set_cons_zero])
              (
                refine wpAnyH_takeM (i := 2) (v := .bool false) 76 rfl rfl (by kernel_rfl) (by kernel_rfl) (by kernel_rfl) (fun _ _ _ h => h) (.inl ⟨by rfl, ?_⟩) HSq.out ?_
                · intro wq hq
                  go_simp
                try simp only [List.setIfInBounds_toArray, List.set_cons_succ, List.set_cons_zero])
              (
                refine wpAnyH_takeM (i := 3) (v := .bool false) 77 rfl rfl (by kernel_rfl) (by kernel_rfl) (by kernel_rfl) (fun _ _ _ h => h) (.inl ⟨by rfl, ?_⟩) HSq.out ?_
                · intro wq hq
                  go_simp
                try simp only [List.setIfInBounds_toArray, List.set_cons_succ, List.set_cons_zero])
              (
                refine wpAnyH_takeM (i := 4) (v := .bool r) 78 rfl rfl (by kernel_rfl) (by kernel_rfl) (by kernel_rfl) (fun _ _ _ h => h) (.inl ⟨by rfl, ?_⟩) HSq.out ?_
                · intro wq hq
                  go_simp
                try simp only [List.setIfInBounds_toArray, List.set_cons_succ, List.set_cons_zero])
              (
                refine wpAnyH_takeM (i := 5) (v := .int .i64 0) 79 rfl rfl (by kernel_rfl) (by kernel_rfl) (by kernel_rfl) (fun _ _ _ h => h) (.inl ⟨by rfl, ?_⟩) HSq.out ?_
                · intro wq hq
                  go_simp
                try simp only [List.setIfInBounds_toArray, List.set_cons_succ, List.set_cons_zero])
              (
                refine wpAnyH_takeM (i := 6) (v := .bool true) 80 rfl rfl (by kernel_rfl) (by kernel_rfl) (by kernel_rfl) (fun _ _ _ h => h) (.inl ⟨by rfl, ?_⟩) HSq.out ?_
                · intro wq hq
                  go_simp
                try simp only [List.setIfInBounds_toArray, List.set_cons_succ, List.set_cons_zero])
              (
                refine wpAnyH_takeM (i := 7) (v := .bool true) 81 rfl rfl (by kernel_rfl) (by kernel_rfl) (by kernel_rfl) (fun _ _ _ h => h) (.inl ⟨by rfl, ?_⟩) HSq.out ?_
                · intro wq hq
                  go_simp
                try simp only [List.setIfInBounds_toArray, List.set_cons_succ, List.set_cons_zero])
              (
                refine wpAnyH_takeM (i := 8) (v := .slice A N c) 82 rfl rfl (by kernel_rfl) (by kernel_rfl) (by kernel_rfl) (fun _ _ _ h => h) (.inl ⟨by rfl, ?_⟩) HSq.out ?_
                · intro wq hq
                  go_simp
                try simp only [List.setIfInBounds_toArray, List.set_cons_succ, List.set_cons_zero])
              (
                refine wpAnyH_takeM (i := 9) (v := .int .i64 b) 83 rfl rfl (by kernel_rfl) (by kernel_rfl) (by kernel_rfl) (fun _ _ _ h => h) (.inl ⟨by rfl, ?_⟩) HSq.out ?_
                · intro wq hq
                  go_simp
                try simp only [List.setIfInBounds_toArray, List.set_cons_succ, List.set_cons_zero])
              (
                refine wpAnyH_takeM (i := 12) (v := .slice (some ⟨bb, o, none⟩) n cB) 86 rfl rfl (by kernel_rfl) (by kernel_rfl) (by kernel_rfl) (fun _ _ _ h => h) (.inl ⟨by rfl, ?_⟩) HSq.out ?_
                · intro wq hq
                  go_simp
                try simp only [List.setIfInBounds_toArray, List.set_cons_succ, List.set_cons_zero])
              (
                refine wpAnyH_takeM (i := 13) (v := .int .i64 k) 87 rfl rfl (by kernel_rfl) (by kernel_rfl) (by kernel_rfl) (fun _ _ _ h => h) (.inl ⟨by rfl, ?_⟩) HSq.out ?_
                · intro wq hq
                  go_simp
                try simp only [List.setIfInBounds_toArray, List.set_cons_succ, List.set_cons_zero])
              (
                refine wpAnyH_takeM (i := 14) (v := .pointer (some ⟨bb, o + k, none⟩)) 88 rfl rfl (by kernel_rfl) (by kernel_rfl) (by kernel_rfl) (fun _ _ _ h => h) (.inl ⟨by rfl, ?_⟩) HSq.out ?_
                · intro wq hq
                  go_simp
                try simp only [List.setIfInBounds_toArray, List.set_cons_succ, List.set_cons_zero])
              (
                refine wpAnyH_takeM (i := 15) (v := .int .i64 z') 89 rfl rfl (by kernel_rfl) (by kernel_rfl) (by kernel_rfl) (fun _ _ _ h => h) (.inl ⟨by rfl, ?_⟩) HSq.out ?_
                · intro wq hq
                  obtain ⟨b4, o4, hB4, cx3⟩ := HLz1.out wq hq
                  injection hB4 with hB4
                  injection hB4 with e1 e2
                  subst e1; subst e2
                  go_simp
                try simp only [List.setIfInBounds_toArray, List.set_cons_succ, List.set_cons_zero])
              (
                try simp only [List.setIfInBounds_toArray, List.set_cons_succ, List.set_cons_zero]
                refine wpAnyH_all (rs := [10]) (by kernel_rfl) (by simp) ?_
                intro i hi
                simp only [List.mem_cons, List.not_mem_nil, or_false] at hi
                subst hi)
              refine wpOp_step rfl (fun K hK => ?_)
              go_simp
              have HCall := Lib.hid (HU.out _ wc rfl HSq.out)
              have HSd := Lib.hid (show Fr (fun _ => False) W (wc.alloc (.cells #[.int .i64 b] 3)) from HSq.out.alloc _)
              refine hK _ _ ⟨HSd.out, ?_⟩
              clear hK K
              (
                try simp only [List.setIfInBounds_toArray, List.set_cons_succ, List.set_cons_zero]
                refine wpAnyH_all (rs := [11]) (by kernel_rfl) (by simp) ?_
                intro i hi
                simp only [List.mem_cons, List.not_mem_nil, or_false] at hi
                subst hi)
              refine wpOp_step rfl (fun K hK => ?_)
              go_simp
              go_wp2_with (go_at_call 20; refine HCall.out.mono ?_
                           rintro e w5 ⟨g5, rfl, h5⟩
                           have cu := h5.row.rcell z' HzN.out
                           simp only [boolC, HR.out] at cu
                           have HF5 := Lib.hid (HSq.out.trans h5.old (fun _ _ e => e))
                           clear h5)
              refine ⟨HF5.out, ?_⟩
              clear HSq HCall HSd
              have HSq := HF5
              (
                refine wpAnyH_takeM (i := 16) (v := .pointer (some ⟨g5, z', none⟩)) 90 rfl rfl (by kernel_rfl) (by kernel_rfl) (by kernel_rfl) (fun _ _ _ h => h) (.inl ⟨by rfl, ?_⟩) HSq.out ?_
                · intro wq hq
                  go_simp
                try simp only [List.setIfInBounds_toArray, List.set_cons_succ, List.set_cons_zero])
              (
                try simp only [List.setIfInBounds_toArray, List.set_cons_succ, List.set_cons_zero]
                refine wpAnyH_all (rs := [17]) (by kernel_rfl) (by simp) ?_
                intro i hi
                simp only [List.mem_cons, List.not_mem_nil, or_false] at hi
                subst hi)
              refine wpOp_step rfl (fun K hK => ?_)
              go_simp
              refine hK _ _ ⟨HF5.out, ?_⟩
              clear hK K
              (
                refine wpAnyH_takeM (i := 18) (v := .bool r) 92 rfl rfl (by kernel_rfl) (by kernel_rfl) (by kernel_rfl) (fun _ _ _ h => h) (.inl ⟨by rfl, ?_⟩) HSq.out ?_
                · intro wq hq
                  go_simp
                try simp only [List.setIfInBounds_toArray, List.set_cons_succ, List.set_cons_zero])
              (
                refine wpAnyH_takeM (i := 19) (v := .bool false) 93 rfl rfl (by kernel_rfl) (by kernel_rfl) (by kernel_rfl) (fun _ _ _ h => h) (.inl ⟨by rfl, ?_⟩) HSq.out ?_
                · intro wq hq
                  go_simp
                try simp only [List.setIfInBounds_toArray, List.set_cons_succ, List.set_cons_zero])
              (
                refine wpAnyH_takeM (i := 20) (v := .bool false) 94 rfl rfl (by kernel_rfl) (by kernel_rfl) (by kernel_rfl) (fun _ _ _ h => h) (.inl ⟨by rfl, ?_⟩) HSq.out ?_
                · intro wq hq
                  go_simp
                try simp only [List.setIfInBounds_toArray, List.set_cons_succ, List.set_cons_zero])
              refine wpAnyH_done (by kernel_rfl) ?_ _
              go_wp2
              go_roundg (n - (k + 1))
              case measure => omega
              case rel => exact ⟨k + 1, by go_num, by omega, Nat.le_refl _, HF5⟩
            · have HE2 := Lib.hid hE2
              rw [if_neg hE2] at HI1
              obtain ⟨E2, hEE2⟩ : ∃ E, nodE G [z, b] = E := ⟨_, rfl⟩
              rw [hEE2] at HI1 HN1 HE2 hE2
              have hen2 : (E2 == 0) = false := by simpa using hE2
              clear hEE2 hz
              go_upto_region 14 with (first
                | (go_at_call 21; refine (HI1.out _ HFr.out).mono ?_; rintro e w1 ⟨rfl, b1⟩; have HG1 := Lib.hid (HFr.out.then_below b1); obtain ⟨b3, o3, hB3, cx2⟩ := HLz1.out w1 HG1.out; injection hB3 with hB3; injection hB3 with e1 e2; subst e1; subst e2; clear b1)
                | (go_at_call 18; refine (HN1.out _ HG1.out).mono ?_; rintro e w2 ⟨rfl, f2⟩; have HG2 := Lib.hid (HG1.out.trans f2 (fun _ _ e => e)); clear f2))
              clear cx cx2
              go_quiet (fail)
              go_wp2
              go_roundg (n - (k + 1))
              case measure => omega
              case rel => exact ⟨k + 1, by go_num, by omega, Nat.le_refl _, Lib.hid (HG2.out.drewN _)⟩
          · obtain rfl : k = n := by omega
            go_wp2_with (go_at_call 12; refine (works_fr _).mono ?_; rintro e w7 ⟨rfl, f7⟩; have HF7 := Lib.hid (HFr.out.trans f7 (fun _ _ e => e)); clear f7)
            go_ret
            exact ⟨rfl, HF7.out.below (fun _ _ e => e)⟩)
    · have HE := Lib.hid hE
      obtain ⟨E, hEE⟩ : ∃ E, nodE G l = E := ⟨_, rfl⟩
      rw [hEE] at HAb HNd HE hE
      have hen : (E == 0) = false := by simpa using hE
      obtain ⟨N, hN⟩ : ∃ N, G.length = N := ⟨_, rfl⟩
      have HN := Lib.hid hN
      obtain ⟨n, hn⟩ : ∃ n, l.length = n := ⟨_, rfl⟩
      rw [hN] at HAb HNd HIs HN2 HUf ⊢
      rw [hn] at HBig HAb HNd HLz HFw1 hbig ⊢
      clear hEE hG hl hN hn
      go_enter Try.func4, Try.ntmps4
      go_upto_region 9 with (first
        | (go_at_call 16; refine HBig.out.mono ?_; rintro e w1 ⟨rfl, rfl⟩)
        | (go_at_call 17; refine (HAb.out _ HFw1.out).mono ?_; rintro e w2 h; obtain ⟨A1, c1, rfl, hl1, f2⟩ := h.bad HE.out; have HF2 := Lib.hid (HFw1.out.trans f2 (fun _ _ e => e)); clear h hl1 f2)
        | (go_at_call 18; refine (HNd.out _ HF2.out).mono ?_; rintro e w3 ⟨rfl, b3⟩; have HF3 := Lib.hid (HF2.out.then_below b3); clear b3))
      clear HF2 HAb HNd HBig hE hen
      (
        go_wp2
        go_loopg [10] n (fun kx s10 wr => ∃ k : Nat, s10 = .int .i64 k ∧ k ≤ n ∧ n - k ≤ kx ∧ Hid (Fr (fun _ => False) W wr))
        case atStart => exact ⟨0, rfl, by omega, by omega, HF3⟩
        case round =>
          obtain ⟨k, rfl, hk, hkx, HFr⟩ := hrel
          obtain ⟨wo, rfl⟩ : ∃ wo, wo = wr := ⟨wr, rfl⟩
          have wk := wrap_nat1 k (by omega)
          by_cases hlt : k < n
          · have hltz : (k : Int) < n := by omega
            obtain ⟨bb, o, hBk, cx⟩ := HLz.out wo HFr.out k hlt
            subst hBk
            have HLz1 := Lib.hid (fun (w' : World) (f : Fr (fun _ => False) W w') => HLz.out w' f k hlt)
            obtain ⟨z, hz⟩ : ∃ z, l.getD k 0 = z := ⟨_, rfl⟩
            rw [hz] at cx HLz1
            have HI1 := Lib.hid (HIs.out z)
            have HN1 := Lib.hid (HN2.out z)
            by_cases hE2 : nodE G [z, b] = 0
            · obtain ⟨z', b', hz1, hb1, hzN, hzt, hup⟩ := HUf.out z hE2
              rw [hE2, if_pos rfl, isB, hzt, HN.out] at HI1
              rw [hE2] at HN1
              subst hz1
              obtain ⟨u, hu⟩ : ∃ u, upB (prG G) N [b.toNat] = u := ⟨_, rfl⟩
              rw [hu] at hup HI1
              have HU := Lib.hid hup
              obtain ⟨r, hr⟩ : ∃ r, u z' = r := ⟨_, rfl⟩
              rw [hr] at HI1
              have HR := Lib.hid hr
              have hz0 : (0 : Int) ≤ (z' : Int) := by omega
              have hzz : (z' : Int) < (N : Int) := by omega
              have HzN := Lib.hid hzN
              clear hE2 hz hup hu hr hzt hb1 hzN
              go_upto_region 14 with (first
                | (go_at_call 21; refine (HI1.out _ HFr.out).mono ?_; rintro e w1 ⟨rfl, b1⟩; have HG1 := Lib.hid (HFr.out.then_below b1); obtain ⟨b3, o3, hB3, cx2⟩ := HLz1.out w1 HG1.out; injection hB3 with hB3; injection hB3 with e1 e2; subst e1; subst e2; clear b1)
                | (go_at_call 18; refine (HN1.out _ HG1.out).mono ?_; rintro e w2 ⟨rfl, f2⟩; have HG2 := Lib.hid (HG1.out.trans f2 (fun _ _ e => e)); obtain ⟨b4, o4, hB4, cx3⟩ := HLz1.out w2 HG2.out; injection hB4 with hB4; injection hB4 with e1 e2; subst e1; subst e2; clear f2))
              have HSq := Lib.hid (show Fr (fun _ => False) W w2.drew from HG2.out.drew)
              refine wp_region_held (S := fun w' => Fr (fun _ => False) W w') (by kernel_rfl) ?_
              change wpAnyH _ _ _ _ _ _ _ _ (World.drew w2)
              obtain ⟨wc, hwc⟩ : ∃ wc, w2.drew = wc := ⟨_, rfl⟩
              rw [hwc] at HSq ⊢
              clear hwc cx cx2 cx3
              (
                refine wpAnyH_takeM (i := 0) (v := .int .i64 0) 74 rfl rfl (by kernel_rfl) (by kernel_rfl) (by kernel_rfl) (fun _ _ _ h => h) (.inl ⟨by rfl, ?_⟩) HSq.out ?_
                · intro wq hq
                  go_simp
                try simp only [List.setIfInBounds_toArray, List.set_cons_succ, List.set_cons_zero])
              (
                refine wpAnyH_takeM (i := 1) (v := .int .i64 0) 75 rfl rfl (by kernel_rfl) (by kernel_rfl) (by kernel_rfl) (fun _ _ _ h => h) (.inl ⟨by rfl, ?_⟩) HSq.out ?_
                · intro wq hq
                  go_simp
                try simp only [List.setIfInBounds_toArray, List.set_cons_succ, List.set_cons_zero])
              (
                refine wpAnyH_takeM (i := 2) (v := .bool false) 76 rfl rfl (by kernel_rfl) (by kernel_rfl) (by kernel_rfl) (fun _ _ _ h => h) (.inl ⟨by rfl, ?_⟩) HSq.out ?_
                · intro wq hq
                  go_simp
                try simp only [List.setIfInBounds_toArray, List.set_cons_succ, List.set_cons_zero])
              (
                refine wpAnyH_takeM (i := 3) (v := .bool false) 77 rfl rfl (by kernel_rfl) (by kernel_rfl) (by kernel_rfl) (fun _ _ _ h => h) (.inl ⟨by rfl, ?_⟩) HSq.out ?_
                · intro wq hq
                  go_simp
                try simp only [List.setIfInBounds_toArray, List.set_cons_succ, List.set_cons_zero])
              (
                refine wpAnyH_takeM (i := 4) (v := .bool r) 78 rfl rfl (by kernel_rfl) (by kernel_rfl) (by kernel_rfl) (fun _ _ _ h => h) (.inl ⟨by rfl, ?_⟩) HSq.out ?_
                · intro wq hq
                  go_simp
                try simp only [List.setIfInBounds_toArray, List.set_cons_succ, List.set_cons_zero])
              (
                refine wpAnyH_takeM (i := 5) (v := .int .i64 0) 79 rfl rfl (by kernel_rfl) (by kernel_rfl) (by kernel_rfl) (fun _ _ _ h => h) (.inl ⟨by rfl, ?_⟩) HSq.out ?_
                · intro wq hq
                  go_simp
                try simp only [List.setIfInBounds_toArray, List.set_cons_succ, List.set_cons_zero])
              (
                refine wpAnyH_takeM (i := 6) (v := .bool true) 80 rfl rfl (by kernel_rfl) (by kernel_rfl) (by kernel_rfl) (fun _ _ _ h => h) (.inl ⟨by rfl, ?_⟩) HSq.out ?_
                · intro wq hq
                  go_simp
                try simp only [List.setIfInBounds_toArray, List.set_cons_succ, List.set_cons_zero])
              (
                refine wpAnyH_takeM (i := 7) (v := .bool true) 81 rfl rfl (by kernel_rfl) (by kernel_rfl) (by kernel_rfl) (fun _ _ _ h => h) (.inl ⟨by rfl, ?_⟩) HSq.out ?_
                · intro wq hq
                  go_simp
                try simp only [List.setIfInBounds_toArray, List.set_cons_succ, List.set_cons_zero])
              (
                refine wpAnyH_takeM (i := 8) (v := .slice A N c) 82 rfl rfl (by kernel_rfl) (by kernel_rfl) (by kernel_rfl) (fun _ _ _ h => h) (.inl ⟨by rfl, ?_⟩) HSq.out ?_
                · intro wq hq
                  go_simp
                try simp only [List.setIfInBounds_toArray, List.set_cons_succ, List.set_cons_zero])
              (
                refine wpAnyH_takeM (i := 9) (v := .int .i64 b) 83 rfl rfl (by kernel_rfl) (by kernel_rfl) (by kernel_rfl) (fun _ _ _ h => h) (.inl ⟨by rfl, ?_⟩) HSq.out ?_
                · intro wq hq
                  go_simp
                try simp only [List.setIfInBounds_toArray, List.set_cons_succ, List.set_cons_zero])
              (
                refine wpAnyH_takeM (i := 12) (v := .slice (some ⟨bb, o, none⟩) n cB) 86 rfl rfl (by kernel_rfl) (by kernel_rfl) (by kernel_rfl) (fun _ _ _ h => h) (.inl ⟨by rfl, ?_⟩) HSq.out ?_
                · intro wq hq
                  go_simp
                try simp only [List.setIfInBounds_toArray, List.set_cons_succ, List.set_cons_zero])
              (
                refine wpAnyH_takeM (i := 13) (v := .int .i64 k) 87 rfl rfl (by kernel_rfl) (by kernel_rfl) (by kernel_rfl) (fun _ _ _ h => h) (.inl ⟨by rfl, ?_⟩) HSq.out ?_
                · intro wq hq
                  go_simp
                try simp only [List.setIfInBounds_toArray, List.set_cons_succ, List.set_cons_zero])
              (
                refine wpAnyH_takeM (i := 14) (v := .pointer (some ⟨bb, o + k, none⟩)) 88 rfl rfl (by kernel_rfl) (by kernel_rfl) (by kernel_rfl) (fun _ _ _ h => h) (.inl ⟨by rfl, ?_⟩) HSq.out ?_
                · intro wq hq
                  go_simp
                try simp only [List.setIfInBounds_toArray, List.set_cons_succ, List.set_cons_zero])
              (
                refine wpAnyH_takeM (i := 15) (v := .int .i64 z') 89 rfl rfl (by kernel_rfl) (by kernel_rfl) (by kernel_rfl) (fun _ _ _ h => h) (.inl ⟨by rfl, ?_⟩) HSq.out ?_
                · intro wq hq
                  obtain ⟨b4, o4, hB4, cx3⟩ := HLz1.out wq hq
                  injection hB4 with hB4
                  injection hB4 with e1 e2
                  subst e1; subst e2
                  go_simp
                try simp only [List.setIfInBounds_toArray, List.set_cons_succ, List.set_cons_zero])
              (
                try simp only [List.setIfInBounds_toArray, List.set_cons_succ, List.set_cons_zero]
                refine wpAnyH_all (rs := [10]) (by kernel_rfl) (by simp) ?_
                intro i hi
                simp only [List.mem_cons, List.not_mem_nil, or_false] at hi
                subst hi)
              refine wpOp_step rfl (fun K hK => ?_)
              go_simp
              have HCall := Lib.hid (HU.out _ wc rfl HSq.out)
              have HSd := Lib.hid (show Fr (fun _ => False) W (wc.alloc (.cells #[.int .i64 b] 3)) from HSq.out.alloc _)
              refine hK _ _ ⟨HSd.out, ?_⟩
              clear hK K
              (
                try simp only [List.setIfInBounds_toArray, List.set_cons_succ, List.set_cons_zero]
                refine wpAnyH_all (rs := [11]) (by kernel_rfl) (by simp) ?_
                intro i hi
                simp only [List.mem_cons, List.not_mem_nil, or_false] at hi
                subst hi)
              refine wpOp_step rfl (fun K hK => ?_)
              go_simp
              go_wp2_with (go_at_call 20; refine HCall.out.mono ?_
                           rintro e w5 ⟨g5, rfl, h5⟩
                           have cu := h5.row.rcell z' HzN.out
                           simp only [boolC, HR.out] at cu
                           have HF5 := Lib.hid (HSq.out.trans h5.old (fun _ _ e => e))
                           clear h5)
              refine ⟨HF5.out, ?_⟩
              clear HSq HCall HSd
              have HSq := HF5
              (
                refine wpAnyH_takeM (i := 16) (v := .pointer (some ⟨g5, z', none⟩)) 90 rfl rfl (by kernel_rfl) (by kernel_rfl) (by kernel_rfl) (fun _ _ _ h => h) (.inl ⟨by rfl, ?_⟩) HSq.out ?_
                · intro wq hq
                  go_simp
                try simp only [List.setIfInBounds_toArray, List.set_cons_succ, List.set_cons_zero])
              (
                try simp only [List.setIfInBounds_toArray, List.set_cons_succ, List.set_cons_zero]
                refine wpAnyH_all (rs := [17]) (by kernel_rfl) (by simp) ?_
                intro i hi
                simp only [List.mem_cons, List.not_mem_nil, or_false] at hi
                subst hi)
              refine wpOp_step rfl (fun K hK => ?_)
              go_simp
              refine hK _ _ ⟨HF5.out, ?_⟩
              clear hK K
              (
                refine wpAnyH_takeM (i := 18) (v := .bool r) 92 rfl rfl (by kernel_rfl) (by kernel_rfl) (by kernel_rfl) (fun _ _ _ h => h) (.inl ⟨by rfl, ?_⟩) HSq.out ?_
                · intro wq hq
                  go_simp
                try simp only [List.setIfInBounds_toArray, List.set_cons_succ, List.set_cons_zero])
              (
                refine wpAnyH_takeM (i := 19) (v := .bool false) 93 rfl rfl (by kernel_rfl) (by kernel_rfl) (by kernel_rfl) (fun _ _ _ h => h) (.inl ⟨by rfl, ?_⟩) HSq.out ?_
                · intro wq hq
                  go_simp
                try simp only [List.setIfInBounds_toArray, List.set_cons_succ, List.set_cons_zero])
              (
                refine wpAnyH_takeM (i := 20) (v := .bool false) 94 rfl rfl (by kernel_rfl) (by kernel_rfl) (by kernel_rfl) (fun _ _ _ h => h) (.inl ⟨by rfl, ?_⟩) HSq.out ?_
                · intro wq hq
                  go_simp
                try simp only [List.setIfInBounds_toArray, List.set_cons_succ, List.set_cons_zero])
              refine wpAnyH_done (by kernel_rfl) ?_ _
              go_wp2
              go_roundg (n - (k + 1))
              case measure => omega
              case rel => exact ⟨k + 1, by go_num, by omega, Nat.le_refl _, HF5⟩
            · have HE2 := Lib.hid hE2
              rw [if_neg hE2] at HI1
              obtain ⟨E2, hEE2⟩ : ∃ E, nodE G [z, b] = E := ⟨_, rfl⟩
              rw [hEE2] at HI1 HN1 HE2 hE2
              have hen2 : (E2 == 0) = false := by simpa using hE2
              clear hEE2 hz
              go_upto_region 14 with (first
                | (go_at_call 21; refine (HI1.out _ HFr.out).mono ?_; rintro e w1 ⟨rfl, b1⟩; have HG1 := Lib.hid (HFr.out.then_below b1); obtain ⟨b3, o3, hB3, cx2⟩ := HLz1.out w1 HG1.out; injection hB3 with hB3; injection hB3 with e1 e2; subst e1; subst e2; clear b1)
                | (go_at_call 18; refine (HN1.out _ HG1.out).mono ?_; rintro e w2 ⟨rfl, f2⟩; have HG2 := Lib.hid (HG1.out.trans f2 (fun _ _ e => e)); clear f2))
              clear cx cx2
              go_quiet (fail)
              go_wp2
              go_roundg (n - (k + 1))
              case measure => omega
              case rel => exact ⟨k + 1, by go_num, by omega, Nat.le_refl _, Lib.hid (HG2.out.drewN _)⟩
          · obtain rfl : k = n := by omega
            go_wp2_with (go_at_call 12; refine (works_fr _).mono ?_; rintro e w7 ⟨rfl, f7⟩; have HF7 := Lib.hid (HFr.out.trans f7 (fun _ _ e => e)); clear f7)
            go_ret
            exact ⟨rfl, HF7.out.below (fun _ _ e => e)⟩)
end Go.Proofs.Ytfpolfcmfdmifaa

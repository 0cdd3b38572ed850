/- What is proved: marks are handed up until none is left, by the program; which nodes have some marks and none of others. Conditions: the painting is the call's own, the graph right, at most 128 nodes. -/
import Derived.Test.YtfpolfcmfdmifaaKg
import Derived.Deep.RegionWith
namespace Go.Proofs.Ytfpolfcmfdmifaa
open Go.RowKit Go.Shelf
set_option linter.unusedVariables false

/-- A graph that is right, plainly. -/
structure RightG (G : List Nd) : Prop where
  len : G.length ≤ 128
  dn : Dn (prG G) G.length
  few : ∀ n, n < G.length → (prG G n).length ≤ 6
  nat : ∀ (n : Nat) (h : n < G.length), zC G[n].ps = nC (prG G n) ∧ G[n].ps.length = (prG G n).length

/-- What the reading of a node's marks and parents leans on. -/
structure SpS (g gm n bb o : Nat) (a b c d : Value) (w : World) : Prop where
  c0 : w.cell? ⟨g, 0, none⟩ = some a
  c1 : w.cell? ⟨g, 1, none⟩ = some b
  c2 : w.cell? ⟨gm, n, none⟩ = some c
  c3 : w.cell? ⟨bb, o + n * 2, none⟩ = some d
set_option maxHeartbeats 3200000 in
set_option maxRecDepth 100000 in
theorem Daspread_any (w0 : World) (g gm : Nat) (AG : Option Addr) (cG : Nat) (G : List Nd) (M : Nat → Nat) (q : Value) (hR : RightG G) (hM : Mk8 M) (w : World) (h : Pn w0 w g gm (.slice AG G.length cG) G.length M q (selB (onB M) G.length)) (hG : GAt w0 AG G) :
    Calls Try.prog 32 #[.pointer (some ⟨g, 0, none⟩)] w fun e w' => e = .returned (.tuple #[]) ∧ ∃ q', Pn w0 w' g gm (.slice AG G.length cG) G.length (passM (prG G) G.length M) q' [] := by
  have HG := Lib.hid (fun w' (f : Fr (fun _ => False) w0 w') n hn => hG.node f n hn)
  have HNx := Lib.hid (fun M1 q1 c (hc : c ≤ 128) w1 h1 => Danext_sel w0 g gm (.slice AG G.length cG) G.length M1 q1 (onB M1) c hc w1 h1)
  have HRl := Lib.hid hR.len
  have HNat := Lib.hid hR.nat
  have HDn := Lib.hid hR.dn
  have HAd := Lib.hid (fun M1 q1 n m (A : Option Addr) cap (hn : n < G.length) hM1 hm0 hm w1 h1 hA => Daadd_any w0 g gm (.slice AG G.length cG) G.length M1 q1 n m (prG G n) A cap hR.len (by omega) hM1 hm0 hm (hR.dn n hn) (by have := hR.few n hn; omega) w1 h1 hA)
  have HSk := Lib.hid (fun (M1 : Nat → Nat) (n c : Nat) => pass_skip (prG G) M1 n c)
  have HPs := Lib.hid (fun (M1 : Nat → Nat) (n : Nat) => show passM (prG G) (n + 1) M1 = passM (prG G) n (addM M1 (hu (M1 n)) (prG G n)) from rfl)
  have HP0 := Lib.hid (fun (M1 : Nat → Nat) => show passM (prG G) 0 M1 = M1 from rfl)
  obtain ⟨N, hN⟩ : ∃ N, G.length = N := ⟨_, rfl⟩
  have HN := Lib.hid hN
  rw [hN] at h HNx HRl HAd HDn ⊢
  have HT : Hid (passM (prG G) N M = passM (prG G) N M) := Lib.hid rfl
  obtain ⟨T, hT⟩ : ∃ T, passM (prG G) N M = T := ⟨_, rfl⟩
  have HTT := Lib.hid hT
  rw [hT]
  have HP := Lib.hid h
  have HMM := Lib.hid hM
  clear hG hR hN h HT hT hM
  go_enter Try.func32, Try.ntmps32
  go_wp2_with (go_at_call 39; refine (HNx.out M q N HRl.out _ HP.out).mono ?_; rintro e w1 ⟨n, b, q1, rfl, hp1, hb1, hb2⟩; have HP1 := Lib.hid hp1; have HB1 := Lib.hid hb1; have HB2 := Lib.hid hb2; clear hp1 hb1 hb2)
  go_loopg [2, 3] N (fun kx s2 s3 wr => ∃ (n : Nat) (b : Bool) (M1 : Nat → Nat) (q1 : Value), s2 = .int .i64 n ∧ s3 = .bool b ∧ Hid (Mk8 M1) ∧ Hid (Pn w0 wr g gm (.slice AG N cG) N M1 q1 (if b then selB (onB M1) n else [])) ∧ (b = true → n + 1 ≤ N ∧ n + 1 ≤ kx ∧ onB M1 n = true ∧ passM (prG G) (n + 1) M1 = T) ∧ (b = false → M1 = T))
  case atStart =>
    refine ⟨n, b, M, q1, rfl, rfl, HMM, HP1, fun e => ?_, fun e => ?_⟩
    · obtain ⟨h1, h2, h3⟩ := HB1.out e
      exact ⟨h1, h1, h2, by rw [← HTT.out]; exact (HSk.out M (n + 1) N h1 (fun k h4 h5 => onB_false.1 (h3 k (by omega) h5))).symm⟩
    · rw [← HTT.out, HSk.out M 0 N (Nat.zero_le _) (fun k h4 h5 => onB_false.1 (HB2.out e k h5)), HP0.out]
  case round =>
    obtain ⟨n, b, M1, q1, rfl, rfl, HM1, HPr, hb1, hb2⟩ := hrel
    cases b
    · have HE := Lib.hid (hb2 rfl)
      clear hb1 hb2
      go_wp2
      go_end0
      exact ⟨rfl, q1, by rw [← HE.out]; exact HPr.out⟩
    · obtain ⟨hnN, hnk, hon, hps⟩ := hb1 rfl
      clear hb2
      have HPr' := Lib.hid (show Pn w0 wr g gm (.slice AG N cG) N M1 q1 (selB (onB M1) n) from HPr.out)
      have hnG : n < G.length := by rw [HN.out]; omega
      have HPS := Lib.hid hps
      obtain ⟨bb, o, hBk, ca, -, -⟩ := HG.out wr HPr'.out.qb.2 n hnG
      subst hBk
      have HAd1 := Lib.hid (fun (w1 : World) (f : Fr (fun _ => False) wr w1) => HAd.out M1 q1 n (hu (M1 n)) G[n].A G[n].c (by omega) HM1.out (hu_ne (by have := hon; simpa [onB] using this)) (hu8 (HM1.out n)) w1 (HPr'.out.fr f) (fun w2 f2 => by
        have h1 := (HG.out w2 ((HPr'.out.fr f).old f2) n hnG)
        obtain ⟨_, _, _, _, _, h2, _⟩ := h1
        rw [(HNat.out n hnG).1] at h2
        exact h2))
      rw [(HNat.out n hnG).2] at ca
      have hcm := HPr'.out.mark n (by omega)
      have c0 : wr.cell? ⟨g, 0, none⟩ = some (.slice (some ⟨bb, o, none⟩) N cG) := by rw [HPr'.out.pb.cell]; rfl
      have c1 : wr.cell? ⟨g, 1, none⟩ = some (.slice (some ⟨gm, 0, none⟩) N N) := by rw [HPr'.out.pb.cell]; rfl
      have HHu := Lib.hid (fun w => Dahanded_any (M1 n) (HM1.out n) w)
      obtain ⟨P0, hP0⟩ : ∃ P0, (prG G n).length = P0 := ⟨_, rfl⟩
      obtain ⟨Ap, hAp⟩ : ∃ A, G[n].A = A := ⟨_, rfl⟩
      obtain ⟨cp, hcp⟩ : ∃ c, G[n].c = c := ⟨_, rfl⟩
      rw [hAp, hcp] at ca HAd1
      rw [hP0] at ca HAd1
      have HMA := Lib.hid (HM1.out.add (hu8 (HM1.out n)) (prG G n))
      obtain ⟨M2, hM2⟩ : ∃ M2, addM M1 (hu (M1 n)) (prG G n) = M2 := ⟨_, rfl⟩
      have HM2 := Lib.hid hM2
      rw [hM2] at HAd1 HMA
      obtain ⟨y, hy⟩ : ∃ y, M1 n = y := ⟨_, rfl⟩
      rw [hy] at hcm HHu HAd1
      obtain ⟨z, hz⟩ : ∃ z, hu y = z := ⟨_, rfl⟩
      rw [hz] at HHu HAd1
      have hn0 : (0 : Int) ≤ (n : Int) := by omega
      have hnz : (n : Int) < (N : Int) := by omega
      have HSf := Lib.hid (fun (w2 : World) (q2 : Value) (hp : Pn w0 w2 g gm (.slice (some ⟨bb, o, none⟩) N cG) N M2 q2 (selB (onB M2) n)) => show SpS g gm n bb o (.slice (some ⟨bb, o, none⟩) N cG) (.slice (some ⟨gm, 0, none⟩) N N) (.int .u8 (y : Nat)) (.slice Ap P0 cp) w2 from ⟨by rw [hp.pb.cell]; rfl, by rw [hp.pb.cell]; rfl, by
        have h1 := hp.mark n (by omega)
        have h2 : M2 n = y := by
          rw [← hM2, ← hy, addM, if_neg]
          intro hm
          have := HDn.out n (by omega) n hm
          omega
        rw [h1, h2], by
        obtain ⟨b3, o3, e3, h3, -, -⟩ := HG.out w2 hp.qb.2 n hnG
        rw [(HNat.out n hnG).2, hP0, hAp, hcp] at h3
        injection e3 with e3
        injection e3 with e3 e4
        subst e3; subst e4
        exact h3⟩)
      have HNN := Lib.hid hnN
      have HNK := Lib.hid hnk
      clear hz hy hM2 hcp hAp hP0 hps hb1 hon HPr hnG
      have HC0 := Lib.hid (show SpS g gm n bb o (.slice (some ⟨bb, o, none⟩) N cG) (.slice (some ⟨gm, 0, none⟩) N N) (.int .u8 (y : Nat)) (.slice Ap P0 cp) wr from ⟨c0, c1, hcm, ca⟩)
      clear c0 c1 hcm ca
      go_upto_region 3 with fail
      refine wp_region_held (S := SpS g gm n bb o (.slice (some ⟨bb, o, none⟩) N cG) (.slice (some ⟨gm, 0, none⟩) N N) (.int .u8 (y : Nat)) (.slice Ap P0 cp)) (by kernel_rfl) ?_
      change wpAnyH _ _ _ _ _ _ _ _ (World.drew wr)
      have HFc := Lib.hid (show Fr (fun _ => False) wr wr.drew from (Fr.refl _ wr).drew)
      have HSq := Lib.hid (show SpS g gm n bb o (.slice (some ⟨bb, o, none⟩) N cG) (.slice (some ⟨gm, 0, none⟩) N N) (.int .u8 (y : Nat)) (.slice Ap P0 cp) wr.drew from ⟨HFc.out.cell HC0.out.c0 (fun e => e), HFc.out.cell HC0.out.c1 (fun e => e), HFc.out.cell HC0.out.c2 (fun e => e), HFc.out.cell HC0.out.c3 (fun e => e)⟩)
      obtain ⟨wc, hwc⟩ : ∃ wc, wr.drew = wc := ⟨_, rfl⟩
      rw [hwc] at HFc HSq ⊢
      clear hwc
      (
        refine wpAnyH_takeM (i := 0) (v := .pointer (some ⟨g, 0, none⟩)) 19 rfl rfl (by kernel_rfl) (by kernel_rfl) (by kernel_rfl) (fun _ _ _ h => h) (.inl ⟨by rfl, ?_⟩) HSq.out ?_
        · intro wq hq
          obtain ⟨k0, k1, k2, k3⟩ := hq
          go_simp)
      (
        refine wpAnyH_takeM (i := 1) (v := .pointer (some ⟨g, 0, none⟩)) 20 rfl rfl (by kernel_rfl) (by kernel_rfl) (by kernel_rfl) (fun _ _ _ h => h) (.inl ⟨by rfl, ?_⟩) HSq.out ?_
        · intro wq hq
          obtain ⟨k0, k1, k2, k3⟩ := hq
          go_simp)
      (
        refine wpAnyH_takeM (i := 2) (v := .pointer (some ⟨g, 0, none⟩)) 21 rfl rfl (by kernel_rfl) (by kernel_rfl) (by kernel_rfl) (fun _ _ _ h => h) (.inl ⟨by rfl, ?_⟩) HSq.out ?_
        · intro wq hq
          obtain ⟨k0, k1, k2, k3⟩ := hq
          go_simp)
      (
        refine wpAnyH_takeM (i := 3) (v := .pointer (some ⟨g, 1, none⟩)) 22 rfl rfl (by kernel_rfl) (by kernel_rfl) (by kernel_rfl) (fun _ _ _ h => h) (.inl ⟨by rfl, ?_⟩) HSq.out ?_
        · intro wq hq
          obtain ⟨k0, k1, k2, k3⟩ := hq
          go_simp)
      (
        refine wpAnyH_takeM (i := 4) (v := .slice (some ⟨gm, 0, none⟩) N N) 23 rfl rfl (by kernel_rfl) (by kernel_rfl) (by kernel_rfl) (fun _ _ _ h => h) (.inl ⟨by rfl, ?_⟩) HSq.out ?_
        · intro wq hq
          obtain ⟨k0, k1, k2, k3⟩ := hq
          go_simp)
      (
        refine wpAnyH_takeM (i := 5) (v := .int .i64 n) 24 rfl rfl (by kernel_rfl) (by kernel_rfl) (by kernel_rfl) (fun _ _ _ h => h) (.inl ⟨by rfl, ?_⟩) HSq.out ?_
        · intro wq hq
          obtain ⟨k0, k1, k2, k3⟩ := hq
          go_simp)
      (
        refine wpAnyH_takeM (i := 6) (v := .pointer (some ⟨gm, n, none⟩)) 25 rfl rfl (by kernel_rfl) (by kernel_rfl) (by kernel_rfl) (fun _ _ _ h => h) (.inl ⟨by rfl, ?_⟩) HSq.out ?_
        · intro wq hq
          obtain ⟨k0, k1, k2, k3⟩ := hq
          go_simp)
      (
        refine wpAnyH_takeM (i := 7) (v := .int .u8 (y : Nat)) 26 rfl rfl (by kernel_rfl) (by kernel_rfl) (by kernel_rfl) (fun _ _ _ h => h) (.inl ⟨by rfl, ?_⟩) HSq.out ?_
        · intro wq hq
          obtain ⟨k0, k1, k2, k3⟩ := hq
          go_simp)
      (
        refine wpAnyH_takeM (i := 9) (v := .pointer (some ⟨g, 0, none⟩)) 28 rfl rfl (by kernel_rfl) (by kernel_rfl) (by kernel_rfl) (fun _ _ _ h => h) (.inl ⟨by rfl, ?_⟩) HSq.out ?_
        · intro wq hq
          obtain ⟨k0, k1, k2, k3⟩ := hq
          go_simp)
      (
        refine wpAnyH_takeM (i := 10) (v := .pointer (some ⟨g, 0, none⟩)) 29 rfl rfl (by kernel_rfl) (by kernel_rfl) (by kernel_rfl) (fun _ _ _ h => h) (.inl ⟨by rfl, ?_⟩) HSq.out ?_
        · intro wq hq
          obtain ⟨k0, k1, k2, k3⟩ := hq
          go_simp)
      (
        refine wpAnyH_takeM (i := 11) (v := .pointer (some ⟨g, 0, none⟩)) 30 rfl rfl (by kernel_rfl) (by kernel_rfl) (by kernel_rfl) (fun _ _ _ h => h) (.inl ⟨by rfl, ?_⟩) HSq.out ?_
        · intro wq hq
          obtain ⟨k0, k1, k2, k3⟩ := hq
          go_simp)
      (
        refine wpAnyH_takeM (i := 12) (v := .slice (some ⟨bb, o, none⟩) N cG) 31 rfl rfl (by kernel_rfl) (by kernel_rfl) (by kernel_rfl) (fun _ _ _ h => h) (.inl ⟨by rfl, ?_⟩) HSq.out ?_
        · intro wq hq
          obtain ⟨k0, k1, k2, k3⟩ := hq
          go_simp)
      (
        refine wpAnyH_takeM (i := 13) (v := .int .i64 n) 32 rfl rfl (by kernel_rfl) (by kernel_rfl) (by kernel_rfl) (fun _ _ _ h => h) (.inl ⟨by rfl, ?_⟩) HSq.out ?_
        · intro wq hq
          obtain ⟨k0, k1, k2, k3⟩ := hq
          go_simp)
      (
        refine wpAnyH_takeM (i := 14) (v := .pointer (some ⟨bb, o + n * 2, none⟩)) 33 rfl rfl (by kernel_rfl) (by kernel_rfl) (by kernel_rfl) (fun _ _ _ h => h) (.inl ⟨by rfl, ?_⟩) HSq.out ?_
        · intro wq hq
          obtain ⟨k0, k1, k2, k3⟩ := hq
          go_simp)
      (
        refine wpAnyH_takeM (i := 15) (v := .pointer (some ⟨bb, o + n * 2, none⟩)) 34 rfl rfl (by kernel_rfl) (by kernel_rfl) (by kernel_rfl) (fun _ _ _ h => h) (.inl ⟨by rfl, ?_⟩) HSq.out ?_
        · intro wq hq
          obtain ⟨k0, k1, k2, k3⟩ := hq
          go_simp)
      (
        refine wpAnyH_takeM (i := 16) (v := .slice Ap P0 cp) 35 rfl rfl (by kernel_rfl) (by kernel_rfl) (by kernel_rfl) (fun _ _ _ h => h) (.inl ⟨by rfl, ?_⟩) HSq.out ?_
        · intro wq hq
          obtain ⟨k0, k1, k2, k3⟩ := hq
          go_simp)
      (
        try simp only [List.setIfInBounds_toArray, List.set_cons_succ, List.set_cons_zero]
        refine wpAnyH_all (rs := [8]) (by kernel_rfl) (by simp) ?_
        intro i hi
        simp only [List.mem_cons, List.not_mem_nil, or_false] at hi
        subst hi)
      refine wpOp_step rfl (fun K hK => ?_)
      go_simp
      go_wp2_with (go_at_call 40; refine (HHu.out _).mono ?_; rintro e w1 ⟨rfl, rfl⟩)
      refine ⟨HSq.out, ?_⟩
      (
        try simp only [List.setIfInBounds_toArray, List.set_cons_succ, List.set_cons_zero]
        refine wpAnyH_all (rs := [17]) (by kernel_rfl) (by simp) ?_
        intro i hi
        simp only [List.mem_cons, List.not_mem_nil, or_false] at hi
        subst hi)
      refine wpOp_step rfl (fun K hK => ?_)
      go_simp
      go_wp2_with (go_at_call 31; refine (HAd1.out _ HFc.out).mono ?_; rintro e w2 ⟨rfl, q2, hp2, hf2, hn2⟩; have HP2 := Lib.hid hp2; clear hp2 hf2 hn2)
      have HQ2 := Lib.hid (HSf.out w2 q2 HP2.out)
      refine ⟨HQ2.out, ?_⟩
      refine wpAnyH_done (by kernel_rfl) ?_ _
      go_wp2_with (go_at_call 39; refine (HNx.out M2 q2 n (by have := HNN.out; have := HRl.out; omega) _ HP2.out).mono ?_; rintro e w3 ⟨n3, b3, q3, rfl, hp3, hb3, hb4⟩; have HP3 := Lib.hid hp3; have HB3 := Lib.hid hb3; have HB4 := Lib.hid hb4; clear hp3 hb3 hb4)
      have HPsn : Hid (passM (prG G) n M2 = T) := Lib.hid (by rw [← HM2.out, ← HPs.out]; exact HPS.out)
      go_roundg n
      case measure => have := HNK.out; omega
      case rel =>
        refine ⟨n3, b3, M2, q3, rfl, rfl, HMA, HP3, fun e => ?_, fun e => ?_⟩
        · obtain ⟨h1, h2, h3⟩ := HB3.out e
          exact ⟨by have := HNN.out; omega, h1, h2, by rw [← HPsn.out]; exact (HSk.out M2 (n3 + 1) n h1 (fun k h4 h5 => onB_false.1 (h3 k (by omega) h5))).symm⟩
        · rw [← HPsn.out, HSk.out M2 0 n (Nat.zero_le _) (fun k h4 h5 => onB_false.1 (HB4.out e k h5)), HP0.out]
end Go.Proofs.Ytfpolfcmfdmifaa

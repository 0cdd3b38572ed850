/- What is proved: the law's own example: an index of one place. Conditions: the table of the sums lies as its text lays it. -/
import Derived.Test.YtgbhdjncccmabaaDoorIxu
namespace Go.Proofs.YtgbhdjncccmabaaDoor
open Go.RowKit
set_option linter.unusedVariables false

def id7 : Nat := 7 * 16 ^ 62
def id1 : Nat := 16 ^ 62
def pl7 : Pl := ⟨id7, 12, 5⟩
def arr7 (k : Int) : Array Value := #[.int .u8 k, .int .u8 0, .int .u8 0, .int .u8 0, .int .u8 0, .int .u8 0, .int .u8 0, .int .u8 0, .int .u8 0, .int .u8 0, .int .u8 0, .int .u8 0, .int .u8 0, .int .u8 0, .int .u8 0, .int .u8 0, .int .u8 0, .int .u8 0, .int .u8 0, .int .u8 0, .int .u8 0, .int .u8 0, .int .u8 0, .int .u8 0, .int .u8 0, .int .u8 0, .int .u8 0, .int .u8 0, .int .u8 0, .int .u8 0, .int .u8 0, .int .u8 0]
theorem arr_7 : idC (dgt id7) = arr7 7 := by kernel_rfl
theorem arr_1 : idC (dgt id1) = arr7 1 := by kernel_rfl
theorem id7_big : id7 < big := by decide
theorem id1_big : id1 < big := by decide
theorem srt_one1 (p : Pl) : srtP [p] = [p] := rfl
theorem mkE_one (p : Pl) (h : 0 ≤ p.pos ∧ p.pos ≤ 1048576) : mkE [p] = 0 := by
  unfold mkE
  rw [srt_one1, if_neg (by rw [dupS_iff]; rintro ⟨k, hk, _⟩; simp at hk), if_neg (by unfold badS; simp; omega)]
theorem mkB_one (p : Pl) (of : Nat) (h : 0 ≤ p.pos ∧ p.pos ≤ 1048576) : mkB [p] of = fileI [p] of := by unfold mkB; rw [if_pos (mkE_one p h), srt_one1]
theorem ris_one (x : Nat) : ris [x] := fun i j hij hj => by simp at hj; omega

def lit7 : Array Value := #[.int .u8 7, .int .u8 0, .int .u8 0, .int .u8 0, .int .u8 0, .int .u8 0, .int .u8 0, .int .u8 0, .int .u8 0, .int .u8 0, .int .u8 0, .int .u8 0, .int .u8 0, .int .u8 0, .int .u8 0, .int .u8 0, .int .u8 0, .int .u8 0, .int .u8 0, .int .u8 0, .int .u8 0, .int .u8 0, .int .u8 0, .int .u8 0, .int .u8 0, .int .u8 0, .int .u8 0, .int .u8 0, .int .u8 0, .int .u8 0, .int .u8 0, .int .u8 0, .int .i64 12, .int .u32 5]
theorem pl_7 : pl7.cells = lit7 := by kernel_rfl
theorem ok_7 : pl7.Ok := ⟨id7_big, by decide, by decide, by decide, by decide⟩
theorem u4_small (b : List UInt8) (p : Nat) : u4 b p < 4294967296 := u4_lt b p
theorem has_7 : posN [id7] id7 = 0 ∧ hasN [id7] id7 = true := by
  have h : posN [id7] id7 = 0 := pos_unique [id7] id7 0 (Nat.zero_le _) (fun i hi => by omega) (fun _ => Nat.le_refl _)
  refine ⟨h, ?_⟩
  unfold hasN
  rw [h]
  exact decide_eq_true ⟨by decide, rfl⟩
/-- What the example's index has. -/
theorem file_7 : (fileI [pl7] id1).length = 1136 ∧ nB (fileI [pl7] id1) = 1 ∧ opE (fileI [pl7] id1) = 0 ∧ ofR (midB (fileI [pl7] id1)) 1 = id1 ∧ keyL 1 (keyR (midB (fileI [pl7] id1))) = [id7] ∧
    (∀ c, c < 256 → fanR (midB (fileI [pl7] id1)) c = fanN (keyL 1 (keyR (midB (fileI [pl7] id1)))) c) ∧ smR (midB (fileI [pl7] id1)) 1 0 = 5 ∧ atR (midB (fileI [pl7] id1)) 1 0 = 12 := by
  obtain ⟨h1, h2, h3, h4, h5⟩ := file_props [pl7] id1 (by decide) (fun p hp => by rw [List.mem_singleton.1 hp]; exact id7_big) (fun p hp => by rw [List.mem_singleton.1 hp]; decide) (fun p hp => by rw [List.mem_singleton.1 hp]; decide) (ris_one _) id1_big
  obtain ⟨k1, k2, k3⟩ := h3 0 (by decide)
  have hk : keyL 1 (keyR (midB (fileI [pl7] id1))) = [id7] := by
    unfold keyL
    rw [show List.range 1 = [0] from rfl, List.map_singleton, k1]
    rfl
  refine ⟨by rw [fileI_len]; rfl, h1, h2, h4, hk, fun c hc => by rw [h5 c hc, hk]; rfl, ?_, ?_⟩
  · have : (([pl7] : List Pl)[0]!).sm = 5 := rfl
    rw [this] at k2
    have k4 : ((smR (midB (fileI [pl7] id1)) 1 0 : Nat) : Int) = 5 := k2
    omega
  · have : (([pl7] : List Pl)[0]!).pos = 12 := rfl
    rw [this] at k3
    have k4 : ((atR (midB (fileI [pl7] id1)) 1 0 : Nat) : Int) = 12 := k3
    omega

set_option maxHeartbeats 3200000 in
set_option maxRecDepth 100000 in
theorem Iworks_any (w : World) (ht : Tab w) : Calls Tryd.prog 7 #[] w fun e w' => e = .returned (.bool true) ∧ Fr (fun _ => False) w w' := by
  obtain ⟨w1, hw1⟩ : ∃ w1, w.alloc (.cells lit7 49) = w1 := ⟨_, rfl⟩
  have hF1 : Fr (fun _ => False) w w1 := by subst hw1; exact (Fr.refl _ w).alloc _
  have hL1 : Lies w1 (some ⟨w.heap.size, 0, none⟩) (flatP [pl7]) := by
    subst hw1
    rw [flatP_single, pl_7]
    exact (Whole.new w 49 lit7).lies
  obtain ⟨f1, f2, f3, f4, f5, f6, f7, f8⟩ := file_7
  have HMK := Lib.hid (IMake_any (some ⟨w.heap.size, 0, none⟩) 1 [pl7] id1 (by decide) (fun p hp => by rw [List.mem_singleton.1 hp]; exact ok_7) w1 hL1 (ht.fr hF1 (fun e => e)))
  unfold MkPost at HMK
  rw [mkE_one pl7 (by decide), mkB_one pl7 id1 (by decide), arr_1, f1, show ([pl7] : List Pl).length = 1 from rfl] at HMK
  have HOP := Lib.hid (fun (w' : World) (f : Fr (fun _ => False) w w') A c (hc : 1136 ≤ c) (hl : Lies w' A (bytesV (fileI [pl7] id1))) => IOpen_any A c (fileI [pl7] id1) (by rw [f1]; exact hc) (by rw [f1]; decide) w' hl (ht.fr f (fun e => e)))
  unfold OpPost at HOP
  rw [f1, f2, f3, f4] at HOP
  have hfa := find_at (n := 1) (f := fanR (midB (fileI [pl7] id1))) (ks := keyR (midB (fileI [pl7] id1))) (by rw [f5]; exact ris_one _) (by rw [f5]; intro m hm; rw [List.mem_singleton.1 hm]; exact id7_big) f6 id7 id7_big
  have hb0 := b0_lt id7
  have hle1 : loF (fanR (midB (fileI [pl7] id1))) (b0 id7) ≤ fanR (midB (fileI [pl7] id1)) (b0 id7) := by rw [loF_congr f6 _ hb0, f6 _ hb0]; exact lo_le _
  have hle2 : fanR (midB (fileI [pl7] id1)) (b0 id7) ≤ 1 := by rw [f6 _ hb0]; have := fanN_le (keyL 1 (keyR (midB (fileI [pl7] id1)))) (b0 id7); rwa [keyL_len] at this
  have HFI := Lib.hid (fun (w' : World) X A1 c1 A2 c2 A3 c3 (h' : IX w' X 1 A1 c1 A2 c2 A3 c3 (fanR (midB (fileI [pl7] id1))) (keyR (midB (fileI [pl7] id1))) (smR (midB (fileI [pl7] id1)) 1) (atR (midB (fileI [pl7] id1)) 1) id1) =>
    IFind_any X 1 A1 A2 A3 c1 c2 c3 (fanR (midB (fileI [pl7] id1))) (keyR (midB (fileI [pl7] id1))) (smR (midB (fileI [pl7] id1)) 1) (atR (midB (fileI [pl7] id1)) 1) id1 id7 (by decide) (fun j _ => u4_small _ _) id7_big (by rw [f5]; intro m hm; rw [List.mem_singleton.1 hm]; exact id7_big) (by rw [f5]; exact ris_one _) hle1 hle2 w' h')
  have hk0 : keyR (midB (fileI [pl7] id1)) 0 = id7 := by have := keyL_gt 1 (keyR (midB (fileI [pl7] id1))) 0 (by decide); rw [f5] at this; exact this.symm
  rw [f5] at hfa
  have hfh : fhsI 1 (fanR (midB (fileI [pl7] id1))) (keyR (midB (fileI [pl7] id1))) id7 = true := by rw [hfa.1]; exact has_7.2
  have hfn : fndI 1 (fanR (midB (fileI [pl7] id1))) (keyR (midB (fileI [pl7] id1))) (smR (midB (fileI [pl7] id1)) 1) (atR (midB (fileI [pl7] id1)) 1) id7 = pl7 := by
    have h1 := hfa.2 has_7.2
    rw [has_7.1] at h1
    unfold fndI
    unfold fhsI at hfh
    rw [if_pos hfh, f5, h1]
    unfold atI
    rw [if_pos (by decide)]
    show (⟨keyR (midB (fileI [pl7] id1)) 0, (atR (midB (fileI [pl7] id1)) 1 0 : Nat), (smR (midB (fileI [pl7] id1)) 1 0 : Nat)⟩ : Pl) = pl7
    rw [hk0, f7, f8]; rfl
  rw [hfh, hfn, pl_7, arr_7] at HFI
  have HLE := Lib.hid (fun (w' : World) X A1 c1 A2 c2 A3 c3 f ks ss ts (h' : IX w' X 1 A1 c1 A2 c2 A3 c3 f ks ss ts id1) => ILen_any X 1 A1 A2 A3 c1 c2 c3 f ks ss ts id1 w' h')
  have HOF := Lib.hid (fun (w' : World) X A1 c1 A2 c2 A3 c3 f ks ss ts (h' : IX w' X 1 A1 c1 A2 c2 A3 c3 f ks ss ts id1) => IOf_any X 1 A1 A2 A3 c1 c2 c3 f ks ss ts id1 w' h')
  have hcc := fun w => eq_nums id1 id1 id1_big id1_big w
  rw [arr_1] at HOF hcc
  rw [show (id1 == id1) = true from by simp] at hcc
  have HF1 := Lib.hid hF1
  have hFB : Hid ((fileI [pl7] id1).length = 1136) := Lib.hid f1
  obtain ⟨FB, hFBd⟩ : ∃ F, fileI [pl7] id1 = F := ⟨_, rfl⟩
  rw [hFBd] at HMK HOP HFI hFB
  unfold arr7 at HMK HFI HOF hcc
  unfold lit7 at hw1
  have HPS : Hid (lit7.size = 34) := Lib.hid rfl
  have HPO := Lib.hid (plC_one pl7)
  rw [pl_7] at HPO
  have HP32 : Hid (lit7[32]? = some (.int .i64 12)) := Lib.hid rfl
  obtain ⟨pc, hpc⟩ : ∃ c, lit7 = c := ⟨_, rfl⟩
  rw [hpc] at HFI HPS HPO HP32
  clear hpc
  clear f1 f2 f3 f4 f5 f6 f7 f8 hfa hle1 hle2 hfh hfn hk0 hFBd hL1 hF1 hb0 ht
  go_enter Tryd.func7, Tryd.ntmps7
  go_upto_region 2 with (go_at_call 8; refine HMK.out.mono ?_; rintro e w2 ⟨v, rfl, o2, f2⟩; obtain ⟨A2, c2, hv2, hk2, -⟩ := own_slice o2; subst hv2; have HL2 := Lib.hid (Lies.of_own o2); have HK2 := Lib.hid hk2; have HF2 := Lib.hid (HF1.out.trans f2 (fun _ _ e => e)); clear o2 f2 hk2)
  go_upto_region 3 with (go_at_call 12; refine (HOP.out _ HF2.out _ _ HK2.out HL2.out).mono ?_; rintro e w3 ⟨f3, ⟨h0, -⟩ | ⟨-, X, g1, g2, g3, rfl, hx⟩⟩; exact absurd rfl h0; have HX3 := Lib.hid hx.ix; have HF3 := Lib.hid (HF2.out.trans f3 (fun _ _ e => e)); clear f3 hx)
  go_upto_region 4 with (first
    | (go_at_call 17
       refine (HFI.out _ _ _ _ _ _ _ _ HX3.out).mono ?_
       rintro e w4 ⟨rfl, f4⟩
       have HX4 := Lib.hid (HX3.out.fr f4)
       have HF4 := Lib.hid (HF3.out.trans f4 (fun _ _ e => e))
       clear f4
       obtain ⟨w5, hw5⟩ : ∃ w5, w4.alloc (.cells zeroPl 49) = w5 := ⟨_, rfl⟩
       have HZ5 := Lib.hid (show Whole w5 w4.heap.size 49 zeroPl from by subst hw5; exact Whole.new w4 49 zeroPl)
       have HA5 := Lib.hid (show Fr (fun _ => False) w4 w5 from by subst hw5; exact (Fr.refl _ w4).alloc _)
       unfold zeroPl at hw5
       simp [List.replicate] at hw5)
    | (refine wpList_store_at rfl 49 _ _ rfl w4.heap.size 0 49 zeroPl pc rfl rfl HZ5.out (by rw [HPS.out]; decide) (by rw [HPS.out]; exact size_pl) HPO.out ?_
       intro w6 hw6 hf6
       rw [laidAt_all _ _ (by rw [HPS.out]; rfl)] at hw6
       have c32 : w6.cell? ⟨w4.heap.size, 32, none⟩ = some (.int .i64 12) := (by rw [hw6.cell]; exact HP32.out)
       have hf46 := HA5.out.trans hf6 (fun i hi e => by omega)
       have HX5 := Lib.hid (HX4.out.fr hf46)
       have HF5 := Lib.hid (HF4.out.trans hf46 (fun _ _ e => e))
       clear hw6 hf6 hf46))
  go_wp2_with (first
    | (go_at_call 15; refine (HLE.out _ _ _ _ _ _ _ _ _ _ _ _ HX5.out).mono ?_; rintro e w7 ⟨rfl, rfl⟩)
    | (go_at_call 16; refine (HOF.out _ _ _ _ _ _ _ _ _ _ _ _ HX5.out).mono ?_; rintro e w8 ⟨rfl, f6⟩; have HF6 := Lib.hid (HF5.out.trans f6 (fun _ _ e => e)); clear f6))
  go_ret
  exact ⟨rfl, HF6.out⟩
end Go.Proofs.YtgbhdjncccmabaaDoor

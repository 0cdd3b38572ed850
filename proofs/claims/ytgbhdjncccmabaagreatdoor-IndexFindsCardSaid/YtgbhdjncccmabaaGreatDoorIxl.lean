/- What is proved: what stands between an index's head and its sum is read, by the program. Conditions: the bytes are there, as many as so many ids need. -/
import Derived.Test.YtgbhdjncccmabaaGreatDoorIxk
namespace Go.Proofs.YtgbhdjncccmabaaGreatDoor
open Go.RowKit
set_option linter.unusedVariables false

def fanR (bs : List UInt8) (c : Nat) : Nat := u4 bs (4 * c)
def keyR (bs : List UInt8) (k : Nat) : Nat := bigV ((bs.drop (1024 + 32 * k)).take 32)
def smR (bs : List UInt8) (n k : Nat) : Nat := u4 bs (1024 + 32 * n + 4 * k)
def atR (bs : List UInt8) (n k : Nat) : Nat := u4 bs (1024 + 36 * n + 4 * k)
def ofR (bs : List UInt8) (n : Nat) : Nat := bigV ((bs.drop (1024 + 40 * n)).take 32)
def upto (f : Nat → Nat) (m c : Nat) : Nat := if c < m then f c else 0
theorem upto_zero (f : Nat → Nat) : upto f 0 = fun _ => 0 := by funext c; simp [upto]
theorem upto_other (f : Nat → Nat) (m i : Nat) (h : i ≠ m) : upto f m i = upto f (m + 1) i := by
  unfold upto
  by_cases h1 : i < m
  · rw [if_pos h1, if_pos (by omega)]
  · rw [if_neg h1, if_neg (by omega)]
theorem upto_at (f : Nat → Nat) (m : Nat) : upto f (m + 1) m = f m := by unfold upto; rw [if_pos (by omega)]
theorem hist_nil : hist [] = fun _ => 0 := by funext c; rfl
def RdxPost (w : World) (bs : List UInt8) (n : Nat) (e : Ending) (w' : World) : Prop :=
  ∃ X g1 g2 g3, e = .returned (.pointer (some ⟨X, 0, none⟩)) ∧ XAt w.heap.size w' X g1 g2 g3 n (fanR bs) (keyR bs) (smR bs n) (atR bs n) (ofR bs n) ∧ Fr (fun _ => False) w w'

set_option maxHeartbeats 6400000 in
set_option maxRecDepth 100000 in
theorem Iread_any (A : Option Addr) (c : Nat) (bs : List UInt8) (n : Nat) (hl : bs.length = 1056 + 40 * n) (hn : n ≤ 600) (w : World) (h : Lies w A (bytesV bs)) :
    Calls Tryz.prog 25 #[.slice A (1056 + 40 * n) c, .int .i64 n] w (RdxPost w bs n) := by
  unfold RdxPost
  obtain ⟨ik, hk1, hk2, hk3, hk4⟩ := info_parts infoKey
  obtain ⟨iu, hu1, hu2, hu3, hu4⟩ := info_parts infoU32
  have HN := Lib.hid (NewReader_rp A (1056 + 40 * n) c bs hl w h (by omega))
  unfold RpPost at HN
  have HL := Lib.hid hl
  obtain ⟨M, hM⟩ : ∃ M, 1056 + 40 * n = M := ⟨_, rfl⟩
  rw [hM] at HN ⊢
  have HM := Lib.hid hM
  clear h hl hM
  go_enter Tryz.func25, Tryz.ntmps25
  go_upto_region 2 with (go_at_call 45; refine HN.out.mono ?_; rintro e w1 ⟨g, v, rfl, hp, hf⟩; have HP := Lib.hid hp; have HF := Lib.hid hf; clear hp hf)
  go_cut [6] from 13 to 20 (fun s6 wc => ∃ X g1 g2 g3, s6 = .pointer (some ⟨X, 0, none⟩) ∧ Hid (XAt w1.heap.size wc X g1 g2 g3 n (fun _ => 0) (fun _ => 0) (fun _ => 0) (fun _ => 0) 0) ∧ Hid (Fr (fun _ => False) w1 wc))
  case first =>
    refine wp_region_held (S := fun _ => True) (by kernel_rfl) ?_
    have HSq := Lib.hid True.intro
    (
      refine wpAnyH_takeX (i := 0) (v := .int .i64 n) 13 rfl rfl (by kernel_rfl) (by kernel_rfl) (by kernel_rfl) (fun _ _ _ h => h) (.inl ⟨by rfl, ?_⟩) HSq.out ?_
      · intro xw xf
        go_simp)
    (
      refine wpAnyH_takeX (i := 2) (v := .int .i64 n) 15 rfl rfl (by kernel_rfl) (by kernel_rfl) (by kernel_rfl) (fun _ _ _ h => h) (.inl ⟨by rfl, ?_⟩) HSq.out ?_
      · intro xw xf
        go_simp)
    (
      refine wpAnyH_takeX (i := 4) (v := .int .i64 n) 17 rfl rfl (by kernel_rfl) (by kernel_rfl) (by kernel_rfl) (fun _ _ _ h => h) (.inl ⟨by rfl, ?_⟩) HSq.out ?_
      · intro xw xf
        go_simp)
    (
      change wpAnyH _ _ _ _ _ _ _ _ (World.drew w1)
      have HFd := Lib.hid (show Fr (fun _ => False) w1 (World.drew w1) from (Fr.refl _ w1).drew)
      obtain ⟨wd, hwd⟩ : ∃ wd, World.drew w1 = wd := ⟨_, rfl⟩
      rw [hwd]
      rw [hwd] at HFd
      clear hwd HSq)
    try simp only [List.setIfInBounds_toArray, List.set_cons_succ, List.set_cons_zero]
    refine wpAnyH_all (rs := [1, 3, 5]) (by kernel_rfl) (by simp) ?_
    intro i hi
    simp only [List.mem_cons, List.not_mem_nil, or_false] at hi
    rcases hi with rfl | rfl | rfl
    · (
      refine wpOp_step rfl (fun K hK => ?_)
      rw [if_pos (by rfl)]
      refine wp_makeX 73 (.tmp 13) (.tmp 13) rfl 90 ik (.agg zero32) 32 Tryz.underlying73 hk1 hk2 hk3 n rfl rfl (by rw [hk4]; omega) (by omega) ?_
      go_simp
      refine hK _ _ ⟨True.intro, ?_⟩
      clear hK K)
      try simp only [List.setIfInBounds_toArray, List.set_cons_succ, List.set_cons_zero]
      refine wpAnyH_all (rs := [3, 5]) (by kernel_rfl) (by simp) ?_
      intro i hi
      simp only [List.mem_cons, List.not_mem_nil, or_false] at hi
      rcases hi with rfl | rfl
      · (
        refine wpOp_step rfl (fun K hK => ?_)
        rw [if_pos (by rfl)]
        refine wp_makeX 74 (.tmp 15) (.tmp 15) rfl 41 iu (.int .u32 0) 1 Tryz.underlying74 hu1 hu2 hu3 n rfl rfl (by rw [hu4]; omega) (by omega) ?_
        go_simp
        refine hK _ _ ⟨True.intro, ?_⟩
        clear hK K)
        (
          try simp only [List.setIfInBounds_toArray, List.set_cons_succ, List.set_cons_zero]
          refine wpAnyH_all (rs := [5]) (by kernel_rfl) (by simp) ?_
          intro i hi
          simp only [List.mem_cons, List.not_mem_nil, or_false] at hi
          subst hi)
        (
          refine wpOp_step rfl (fun K hK => ?_)
          rw [if_pos (by rfl)]
          refine wp_makeX 74 (.tmp 17) (.tmp 17) rfl 41 iu (.int .u32 0) 1 Tryz.underlying74 hu1 hu2 hu3 n rfl rfl (by rw [hu4]; omega) (by omega) ?_
          go_simp
          refine hK _ _ ⟨True.intro, ?_⟩
          clear hK K)
        have hb := build_idx (.slice (some ⟨wd.heap.size, 0, none⟩) n n) (.slice (some ⟨wd.heap.size + 1, 0, none⟩) n n) (.slice (some ⟨wd.heap.size + 1 + 1, 0, none⟩) n n)
        have hch := chain4 wd 90 41 41 76 (zeroK n) (zeroU n) (zeroU n) (idxC (fanC (hist [])) (.slice (some ⟨wd.heap.size, 0, none⟩) n n) (.slice (some ⟨wd.heap.size + 1, 0, none⟩) n n) (.slice (some ⟨wd.heap.size + 1 + 1, 0, none⟩) n n) zero32)
        obtain ⟨IC, hIC⟩ : ∃ IC, idxC (fanC (hist [])) (.slice (some ⟨wd.heap.size, 0, none⟩) n n) (.slice (some ⟨wd.heap.size + 1, 0, none⟩) n n) (.slice (some ⟨wd.heap.size + 1 + 1, 0, none⟩) n n) zero32 = IC := ⟨_, rfl⟩
        rw [hIC] at hb hch
        have HSq := Lib.hid True.intro
        (
          refine wpAnyH_takeX (i := 6) (v := .agg IC) 19 rfl rfl (by kernel_rfl) (by kernel_rfl) (by kernel_rfl) (fun _ _ _ h => h) (.inl ⟨by rfl, ?_⟩) HSq.out ?_
          · intro xw xf
            go_simp)
        (
          try simp only [List.setIfInBounds_toArray, List.set_cons_succ, List.set_cons_zero]
          refine wpAnyH_all (rs := [7]) (by kernel_rfl) (by simp) ?_
          intro i hi
          simp only [List.mem_cons, List.not_mem_nil, or_false] at hi
          subst hi)
        refine wpOp_step rfl (fun K hK => ?_)
        go_simp
        refine hK _ _ ⟨True.intro, ?_⟩
        clear hK K
        (
          refine wpAnyH_takeX (i := 8) (v := .pointer (some ⟨wd.heap.size + 1 + 1 + 1, 0, none⟩)) 6 rfl rfl (by kernel_rfl) (by kernel_rfl) (by kernel_rfl) (fun _ _ _ h => h) (.inl ⟨by rfl, ?_⟩) HSq.out ?_
          · intro xw xf
            go_simp)
        refine wpAnyH_done (by kernel_rfl) ?_ _
        go_wp2_with fail
        go_meet
        case rel =>
          rw [show madeCells zero32 (n * 32) = zeroK n from rfl, show madeCells #[Value.int .u32 0] n = zeroU n from by rw [zeroU, Nat.mul_one]; rfl]
          obtain ⟨hA, hB, hC, hD, hq⟩ := hch
          refine ⟨_, wd.heap.size, wd.heap.size + 1, wd.heap.size + 1 + 1, rfl, Lib.hid ⟨?_, ?_, ?_, ?_, ?_, ?_, ?_, ?_, ?_⟩, Lib.hid (HFd.out.trans hq (fun _ _ e => e))⟩
          · rw [zero_id, ← hist_nil, hIC]; exact hD
          · rw [← zeroK_key]; exact hA
          · rw [← zeroU_num]; exact hB
          · rw [← zeroU_num]; exact hC
          all_goals have := HFd.out.size
          all_goals omega
      · (
        refine wpOp_step rfl (fun K hK => ?_)
        rw [if_pos (by rfl)]
        refine wp_makeX 74 (.tmp 17) (.tmp 17) rfl 41 iu (.int .u32 0) 1 Tryz.underlying74 hu1 hu2 hu3 n rfl rfl (by rw [hu4]; omega) (by omega) ?_
        go_simp
        refine hK _ _ ⟨True.intro, ?_⟩
        clear hK K)
        (
          try simp only [List.setIfInBounds_toArray, List.set_cons_succ, List.set_cons_zero]
          refine wpAnyH_all (rs := [3]) (by kernel_rfl) (by simp) ?_
          intro i hi
          simp only [List.mem_cons, List.not_mem_nil, or_false] at hi
          subst hi)
        (
          refine wpOp_step rfl (fun K hK => ?_)
          rw [if_pos (by rfl)]
          refine wp_makeX 74 (.tmp 15) (.tmp 15) rfl 41 iu (.int .u32 0) 1 Tryz.underlying74 hu1 hu2 hu3 n rfl rfl (by rw [hu4]; omega) (by omega) ?_
          go_simp
          refine hK _ _ ⟨True.intro, ?_⟩
          clear hK K)
        have hb := build_idx (.slice (some ⟨wd.heap.size, 0, none⟩) n n) (.slice (some ⟨wd.heap.size + 1 + 1, 0, none⟩) n n) (.slice (some ⟨wd.heap.size + 1, 0, none⟩) n n)
        have hch := chain4 wd 90 41 41 76 (zeroK n) (zeroU n) (zeroU n) (idxC (fanC (hist [])) (.slice (some ⟨wd.heap.size, 0, none⟩) n n) (.slice (some ⟨wd.heap.size + 1 + 1, 0, none⟩) n n) (.slice (some ⟨wd.heap.size + 1, 0, none⟩) n n) zero32)
        obtain ⟨IC, hIC⟩ : ∃ IC, idxC (fanC (hist [])) (.slice (some ⟨wd.heap.size, 0, none⟩) n n) (.slice (some ⟨wd.heap.size + 1 + 1, 0, none⟩) n n) (.slice (some ⟨wd.heap.size + 1, 0, none⟩) n n) zero32 = IC := ⟨_, rfl⟩
        rw [hIC] at hb hch
        have HSq := Lib.hid True.intro
        (
          refine wpAnyH_takeX (i := 6) (v := .agg IC) 19 rfl rfl (by kernel_rfl) (by kernel_rfl) (by kernel_rfl) (fun _ _ _ h => h) (.inl ⟨by rfl, ?_⟩) HSq.out ?_
          · intro xw xf
            go_simp)
        (
          try simp only [List.setIfInBounds_toArray, List.set_cons_succ, List.set_cons_zero]
          refine wpAnyH_all (rs := [7]) (by kernel_rfl) (by simp) ?_
          intro i hi
          simp only [List.mem_cons, List.not_mem_nil, or_false] at hi
          subst hi)
        refine wpOp_step rfl (fun K hK => ?_)
        go_simp
        refine hK _ _ ⟨True.intro, ?_⟩
        clear hK K
        (
          refine wpAnyH_takeX (i := 8) (v := .pointer (some ⟨wd.heap.size + 1 + 1 + 1, 0, none⟩)) 6 rfl rfl (by kernel_rfl) (by kernel_rfl) (by kernel_rfl) (fun _ _ _ h => h) (.inl ⟨by rfl, ?_⟩) HSq.out ?_
          · intro xw xf
            go_simp)
        refine wpAnyH_done (by kernel_rfl) ?_ _
        go_wp2_with fail
        go_meet
        case rel =>
          rw [show madeCells zero32 (n * 32) = zeroK n from rfl, show madeCells #[Value.int .u32 0] n = zeroU n from by rw [zeroU, Nat.mul_one]; rfl]
          obtain ⟨hA, hB, hC, hD, hq⟩ := hch
          refine ⟨_, wd.heap.size, wd.heap.size + 1 + 1, wd.heap.size + 1, rfl, Lib.hid ⟨?_, ?_, ?_, ?_, ?_, ?_, ?_, ?_, ?_⟩, Lib.hid (HFd.out.trans hq (fun _ _ e => e))⟩
          · rw [zero_id, ← hist_nil, hIC]; exact hD
          · rw [← zeroK_key]; exact hA
          · rw [← zeroU_num]; exact hC
          · rw [← zeroU_num]; exact hB
          all_goals have := HFd.out.size
          all_goals omega
    · (
      refine wpOp_step rfl (fun K hK => ?_)
      rw [if_pos (by rfl)]
      refine wp_makeX 74 (.tmp 15) (.tmp 15) rfl 41 iu (.int .u32 0) 1 Tryz.underlying74 hu1 hu2 hu3 n rfl rfl (by rw [hu4]; omega) (by omega) ?_
      go_simp
      refine hK _ _ ⟨True.intro, ?_⟩
      clear hK K)
      try simp only [List.setIfInBounds_toArray, List.set_cons_succ, List.set_cons_zero]
      refine wpAnyH_all (rs := [1, 5]) (by kernel_rfl) (by simp) ?_
      intro i hi
      simp only [List.mem_cons, List.not_mem_nil, or_false] at hi
      rcases hi with rfl | rfl
      · (
        refine wpOp_step rfl (fun K hK => ?_)
        rw [if_pos (by rfl)]
        refine wp_makeX 73 (.tmp 13) (.tmp 13) rfl 90 ik (.agg zero32) 32 Tryz.underlying73 hk1 hk2 hk3 n rfl rfl (by rw [hk4]; omega) (by omega) ?_
        go_simp
        refine hK _ _ ⟨True.intro, ?_⟩
        clear hK K)
        (
          try simp only [List.setIfInBounds_toArray, List.set_cons_succ, List.set_cons_zero]
          refine wpAnyH_all (rs := [5]) (by kernel_rfl) (by simp) ?_
          intro i hi
          simp only [List.mem_cons, List.not_mem_nil, or_false] at hi
          subst hi)
        (
          refine wpOp_step rfl (fun K hK => ?_)
          rw [if_pos (by rfl)]
          refine wp_makeX 74 (.tmp 17) (.tmp 17) rfl 41 iu (.int .u32 0) 1 Tryz.underlying74 hu1 hu2 hu3 n rfl rfl (by rw [hu4]; omega) (by omega) ?_
          go_simp
          refine hK _ _ ⟨True.intro, ?_⟩
          clear hK K)
        have hb := build_idx (.slice (some ⟨wd.heap.size + 1, 0, none⟩) n n) (.slice (some ⟨wd.heap.size, 0, none⟩) n n) (.slice (some ⟨wd.heap.size + 1 + 1, 0, none⟩) n n)
        have hch := chain4 wd 41 90 41 76 (zeroU n) (zeroK n) (zeroU n) (idxC (fanC (hist [])) (.slice (some ⟨wd.heap.size + 1, 0, none⟩) n n) (.slice (some ⟨wd.heap.size, 0, none⟩) n n) (.slice (some ⟨wd.heap.size + 1 + 1, 0, none⟩) n n) zero32)
        obtain ⟨IC, hIC⟩ : ∃ IC, idxC (fanC (hist [])) (.slice (some ⟨wd.heap.size + 1, 0, none⟩) n n) (.slice (some ⟨wd.heap.size, 0, none⟩) n n) (.slice (some ⟨wd.heap.size + 1 + 1, 0, none⟩) n n) zero32 = IC := ⟨_, rfl⟩
        rw [hIC] at hb hch
        have HSq := Lib.hid True.intro
        (
          refine wpAnyH_takeX (i := 6) (v := .agg IC) 19 rfl rfl (by kernel_rfl) (by kernel_rfl) (by kernel_rfl) (fun _ _ _ h => h) (.inl ⟨by rfl, ?_⟩) HSq.out ?_
          · intro xw xf
            go_simp)
        (
          try simp only [List.setIfInBounds_toArray, List.set_cons_succ, List.set_cons_zero]
          refine wpAnyH_all (rs := [7]) (by kernel_rfl) (by simp) ?_
          intro i hi
          simp only [List.mem_cons, List.not_mem_nil, or_false] at hi
          subst hi)
        refine wpOp_step rfl (fun K hK => ?_)
        go_simp
        refine hK _ _ ⟨True.intro, ?_⟩
        clear hK K
        (
          refine wpAnyH_takeX (i := 8) (v := .pointer (some ⟨wd.heap.size + 1 + 1 + 1, 0, none⟩)) 6 rfl rfl (by kernel_rfl) (by kernel_rfl) (by kernel_rfl) (fun _ _ _ h => h) (.inl ⟨by rfl, ?_⟩) HSq.out ?_
          · intro xw xf
            go_simp)
        refine wpAnyH_done (by kernel_rfl) ?_ _
        go_wp2_with fail
        go_meet
        case rel =>
          rw [show madeCells zero32 (n * 32) = zeroK n from rfl, show madeCells #[Value.int .u32 0] n = zeroU n from by rw [zeroU, Nat.mul_one]; rfl]
          obtain ⟨hA, hB, hC, hD, hq⟩ := hch
          refine ⟨_, wd.heap.size + 1, wd.heap.size, wd.heap.size + 1 + 1, rfl, Lib.hid ⟨?_, ?_, ?_, ?_, ?_, ?_, ?_, ?_, ?_⟩, Lib.hid (HFd.out.trans hq (fun _ _ e => e))⟩
          · rw [zero_id, ← hist_nil, hIC]; exact hD
          · rw [← zeroK_key]; exact hB
          · rw [← zeroU_num]; exact hA
          · rw [← zeroU_num]; exact hC
          all_goals have := HFd.out.size
          all_goals omega
      · (
        refine wpOp_step rfl (fun K hK => ?_)
        rw [if_pos (by rfl)]
        refine wp_makeX 74 (.tmp 17) (.tmp 17) rfl 41 iu (.int .u32 0) 1 Tryz.underlying74 hu1 hu2 hu3 n rfl rfl (by rw [hu4]; omega) (by omega) ?_
        go_simp
        refine hK _ _ ⟨True.intro, ?_⟩
        clear hK K)
        (
          try simp only [List.setIfInBounds_toArray, List.set_cons_succ, List.set_cons_zero]
          refine wpAnyH_all (rs := [1]) (by kernel_rfl) (by simp) ?_
          intro i hi
          simp only [List.mem_cons, List.not_mem_nil, or_false] at hi
          subst hi)
        (
          refine wpOp_step rfl (fun K hK => ?_)
          rw [if_pos (by rfl)]
          refine wp_makeX 73 (.tmp 13) (.tmp 13) rfl 90 ik (.agg zero32) 32 Tryz.underlying73 hk1 hk2 hk3 n rfl rfl (by rw [hk4]; omega) (by omega) ?_
          go_simp
          refine hK _ _ ⟨True.intro, ?_⟩
          clear hK K)
        have hb := build_idx (.slice (some ⟨wd.heap.size + 1 + 1, 0, none⟩) n n) (.slice (some ⟨wd.heap.size, 0, none⟩) n n) (.slice (some ⟨wd.heap.size + 1, 0, none⟩) n n)
        have hch := chain4 wd 41 41 90 76 (zeroU n) (zeroU n) (zeroK n) (idxC (fanC (hist [])) (.slice (some ⟨wd.heap.size + 1 + 1, 0, none⟩) n n) (.slice (some ⟨wd.heap.size, 0, none⟩) n n) (.slice (some ⟨wd.heap.size + 1, 0, none⟩) n n) zero32)
        obtain ⟨IC, hIC⟩ : ∃ IC, idxC (fanC (hist [])) (.slice (some ⟨wd.heap.size + 1 + 1, 0, none⟩) n n) (.slice (some ⟨wd.heap.size, 0, none⟩) n n) (.slice (some ⟨wd.heap.size + 1, 0, none⟩) n n) zero32 = IC := ⟨_, rfl⟩
        rw [hIC] at hb hch
        have HSq := Lib.hid True.intro
        (
          refine wpAnyH_takeX (i := 6) (v := .agg IC) 19 rfl rfl (by kernel_rfl) (by kernel_rfl) (by kernel_rfl) (fun _ _ _ h => h) (.inl ⟨by rfl, ?_⟩) HSq.out ?_
          · intro xw xf
            go_simp)
        (
          try simp only [List.setIfInBounds_toArray, List.set_cons_succ, List.set_cons_zero]
          refine wpAnyH_all (rs := [7]) (by kernel_rfl) (by simp) ?_
          intro i hi
          simp only [List.mem_cons, List.not_mem_nil, or_false] at hi
          subst hi)
        refine wpOp_step rfl (fun K hK => ?_)
        go_simp
        refine hK _ _ ⟨True.intro, ?_⟩
        clear hK K
        (
          refine wpAnyH_takeX (i := 8) (v := .pointer (some ⟨wd.heap.size + 1 + 1 + 1, 0, none⟩)) 6 rfl rfl (by kernel_rfl) (by kernel_rfl) (by kernel_rfl) (fun _ _ _ h => h) (.inl ⟨by rfl, ?_⟩) HSq.out ?_
          · intro xw xf
            go_simp)
        refine wpAnyH_done (by kernel_rfl) ?_ _
        go_wp2_with fail
        go_meet
        case rel =>
          rw [show madeCells zero32 (n * 32) = zeroK n from rfl, show madeCells #[Value.int .u32 0] n = zeroU n from by rw [zeroU, Nat.mul_one]; rfl]
          obtain ⟨hA, hB, hC, hD, hq⟩ := hch
          refine ⟨_, wd.heap.size + 1 + 1, wd.heap.size, wd.heap.size + 1, rfl, Lib.hid ⟨?_, ?_, ?_, ?_, ?_, ?_, ?_, ?_, ?_⟩, Lib.hid (HFd.out.trans hq (fun _ _ e => e))⟩
          · rw [zero_id, ← hist_nil, hIC]; exact hD
          · rw [← zeroK_key]; exact hC
          · rw [← zeroU_num]; exact hA
          · rw [← zeroU_num]; exact hB
          all_goals have := HFd.out.size
          all_goals omega
    · (
      refine wpOp_step rfl (fun K hK => ?_)
      rw [if_pos (by rfl)]
      refine wp_makeX 74 (.tmp 17) (.tmp 17) rfl 41 iu (.int .u32 0) 1 Tryz.underlying74 hu1 hu2 hu3 n rfl rfl (by rw [hu4]; omega) (by omega) ?_
      go_simp
      refine hK _ _ ⟨True.intro, ?_⟩
      clear hK K)
      try simp only [List.setIfInBounds_toArray, List.set_cons_succ, List.set_cons_zero]
      refine wpAnyH_all (rs := [1, 3]) (by kernel_rfl) (by simp) ?_
      intro i hi
      simp only [List.mem_cons, List.not_mem_nil, or_false] at hi
      rcases hi with rfl | rfl
      · (
        refine wpOp_step rfl (fun K hK => ?_)
        rw [if_pos (by rfl)]
        refine wp_makeX 73 (.tmp 13) (.tmp 13) rfl 90 ik (.agg zero32) 32 Tryz.underlying73 hk1 hk2 hk3 n rfl rfl (by rw [hk4]; omega) (by omega) ?_
        go_simp
        refine hK _ _ ⟨True.intro, ?_⟩
        clear hK K)
        (
          try simp only [List.setIfInBounds_toArray, List.set_cons_succ, List.set_cons_zero]
          refine wpAnyH_all (rs := [3]) (by kernel_rfl) (by simp) ?_
          intro i hi
          simp only [List.mem_cons, List.not_mem_nil, or_false] at hi
          subst hi)
        (
          refine wpOp_step rfl (fun K hK => ?_)
          rw [if_pos (by rfl)]
          refine wp_makeX 74 (.tmp 15) (.tmp 15) rfl 41 iu (.int .u32 0) 1 Tryz.underlying74 hu1 hu2 hu3 n rfl rfl (by rw [hu4]; omega) (by omega) ?_
          go_simp
          refine hK _ _ ⟨True.intro, ?_⟩
          clear hK K)
        have hb := build_idx (.slice (some ⟨wd.heap.size + 1, 0, none⟩) n n) (.slice (some ⟨wd.heap.size + 1 + 1, 0, none⟩) n n) (.slice (some ⟨wd.heap.size, 0, none⟩) n n)
        have hch := chain4 wd 41 90 41 76 (zeroU n) (zeroK n) (zeroU n) (idxC (fanC (hist [])) (.slice (some ⟨wd.heap.size + 1, 0, none⟩) n n) (.slice (some ⟨wd.heap.size + 1 + 1, 0, none⟩) n n) (.slice (some ⟨wd.heap.size, 0, none⟩) n n) zero32)
        obtain ⟨IC, hIC⟩ : ∃ IC, idxC (fanC (hist [])) (.slice (some ⟨wd.heap.size + 1, 0, none⟩) n n) (.slice (some ⟨wd.heap.size + 1 + 1, 0, none⟩) n n) (.slice (some ⟨wd.heap.size, 0, none⟩) n n) zero32 = IC := ⟨_, rfl⟩
        rw [hIC] at hb hch
        have HSq := Lib.hid True.intro
        (
          refine wpAnyH_takeX (i := 6) (v := .agg IC) 19 rfl rfl (by kernel_rfl) (by kernel_rfl) (by kernel_rfl) (fun _ _ _ h => h) (.inl ⟨by rfl, ?_⟩) HSq.out ?_
          · intro xw xf
            go_simp)
        (
          try simp only [List.setIfInBounds_toArray, List.set_cons_succ, List.set_cons_zero]
          refine wpAnyH_all (rs := [7]) (by kernel_rfl) (by simp) ?_
          intro i hi
          simp only [List.mem_cons, List.not_mem_nil, or_false] at hi
          subst hi)
        refine wpOp_step rfl (fun K hK => ?_)
        go_simp
        refine hK _ _ ⟨True.intro, ?_⟩
        clear hK K
        (
          refine wpAnyH_takeX (i := 8) (v := .pointer (some ⟨wd.heap.size + 1 + 1 + 1, 0, none⟩)) 6 rfl rfl (by kernel_rfl) (by kernel_rfl) (by kernel_rfl) (fun _ _ _ h => h) (.inl ⟨by rfl, ?_⟩) HSq.out ?_
          · intro xw xf
            go_simp)
        refine wpAnyH_done (by kernel_rfl) ?_ _
        go_wp2_with fail
        go_meet
        case rel =>
          rw [show madeCells zero32 (n * 32) = zeroK n from rfl, show madeCells #[Value.int .u32 0] n = zeroU n from by rw [zeroU, Nat.mul_one]; rfl]
          obtain ⟨hA, hB, hC, hD, hq⟩ := hch
          refine ⟨_, wd.heap.size + 1, wd.heap.size + 1 + 1, wd.heap.size, rfl, Lib.hid ⟨?_, ?_, ?_, ?_, ?_, ?_, ?_, ?_, ?_⟩, Lib.hid (HFd.out.trans hq (fun _ _ e => e))⟩
          · rw [zero_id, ← hist_nil, hIC]; exact hD
          · rw [← zeroK_key]; exact hB
          · rw [← zeroU_num]; exact hC
          · rw [← zeroU_num]; exact hA
          all_goals have := HFd.out.size
          all_goals omega
      · (
        refine wpOp_step rfl (fun K hK => ?_)
        rw [if_pos (by rfl)]
        refine wp_makeX 74 (.tmp 15) (.tmp 15) rfl 41 iu (.int .u32 0) 1 Tryz.underlying74 hu1 hu2 hu3 n rfl rfl (by rw [hu4]; omega) (by omega) ?_
        go_simp
        refine hK _ _ ⟨True.intro, ?_⟩
        clear hK K)
        (
          try simp only [List.setIfInBounds_toArray, List.set_cons_succ, List.set_cons_zero]
          refine wpAnyH_all (rs := [1]) (by kernel_rfl) (by simp) ?_
          intro i hi
          simp only [List.mem_cons, List.not_mem_nil, or_false] at hi
          subst hi)
        (
          refine wpOp_step rfl (fun K hK => ?_)
          rw [if_pos (by rfl)]
          refine wp_makeX 73 (.tmp 13) (.tmp 13) rfl 90 ik (.agg zero32) 32 Tryz.underlying73 hk1 hk2 hk3 n rfl rfl (by rw [hk4]; omega) (by omega) ?_
          go_simp
          refine hK _ _ ⟨True.intro, ?_⟩
          clear hK K)
        have hb := build_idx (.slice (some ⟨wd.heap.size + 1 + 1, 0, none⟩) n n) (.slice (some ⟨wd.heap.size + 1, 0, none⟩) n n) (.slice (some ⟨wd.heap.size, 0, none⟩) n n)
        have hch := chain4 wd 41 41 90 76 (zeroU n) (zeroU n) (zeroK n) (idxC (fanC (hist [])) (.slice (some ⟨wd.heap.size + 1 + 1, 0, none⟩) n n) (.slice (some ⟨wd.heap.size + 1, 0, none⟩) n n) (.slice (some ⟨wd.heap.size, 0, none⟩) n n) zero32)
        obtain ⟨IC, hIC⟩ : ∃ IC, idxC (fanC (hist [])) (.slice (some ⟨wd.heap.size + 1 + 1, 0, none⟩) n n) (.slice (some ⟨wd.heap.size + 1, 0, none⟩) n n) (.slice (some ⟨wd.heap.size, 0, none⟩) n n) zero32 = IC := ⟨_, rfl⟩
        rw [hIC] at hb hch
        have HSq := Lib.hid True.intro
        (
          refine wpAnyH_takeX (i := 6) (v := .agg IC) 19 rfl rfl (by kernel_rfl) (by kernel_rfl) (by kernel_rfl) (fun _ _ _ h => h) (.inl ⟨by rfl, ?_⟩) HSq.out ?_
          · intro xw xf
            go_simp)
        (
          try simp only [List.setIfInBounds_toArray, List.set_cons_succ, List.set_cons_zero]
          refine wpAnyH_all (rs := [7]) (by kernel_rfl) (by simp) ?_
          intro i hi
          simp only [List.mem_cons, List.not_mem_nil, or_false] at hi
          subst hi)
        refine wpOp_step rfl (fun K hK => ?_)
        go_simp
        refine hK _ _ ⟨True.intro, ?_⟩
        clear hK K
        (
          refine wpAnyH_takeX (i := 8) (v := .pointer (some ⟨wd.heap.size + 1 + 1 + 1, 0, none⟩)) 6 rfl rfl (by kernel_rfl) (by kernel_rfl) (by kernel_rfl) (fun _ _ _ h => h) (.inl ⟨by rfl, ?_⟩) HSq.out ?_
          · intro xw xf
            go_simp)
        refine wpAnyH_done (by kernel_rfl) ?_ _
        go_wp2_with fail
        go_meet
        case rel =>
          rw [show madeCells zero32 (n * 32) = zeroK n from rfl, show madeCells #[Value.int .u32 0] n = zeroU n from by rw [zeroU, Nat.mul_one]; rfl]
          obtain ⟨hA, hB, hC, hD, hq⟩ := hch
          refine ⟨_, wd.heap.size + 1 + 1, wd.heap.size + 1, wd.heap.size, rfl, Lib.hid ⟨?_, ?_, ?_, ?_, ?_, ?_, ?_, ?_, ?_⟩, Lib.hid (HFd.out.trans hq (fun _ _ e => e))⟩
          · rw [zero_id, ← hist_nil, hIC]; exact hD
          · rw [← zeroK_key]; exact hC
          · rw [← zeroU_num]; exact hB
          · rw [← zeroU_num]; exact hA
          all_goals have := HFd.out.size
          all_goals omega
  case rest =>
    obtain ⟨X, g1, g2, g3, rfl, HX, HFc⟩ := hcut
    have HPc := Lib.hid (HP.out.frF HFc.out)
    have HGlo := Lib.hid HP.out.lo
    have HGhi := Lib.hid HP.out.hi
    have HS1 := Lib.hid HF.out.size
    have HU := Lib.hid (fun w' p (hp : Rp w w1 w' g v bs p) (h : p + 4 ≤ bs.length) => RU32_rp w w1 w' g v bs p hp h)
    have HRR := Lib.hid (fun w' p (hp : Rp w w1 w' g v bs p) (h : p + 32 ≤ bs.length) => RRaw_rp w w1 w' g v bs p 32 32 rfl hp h (by decide))
    unfold U32Rp at HU
    unfold RawRp at HRR
    clear HN
    go_wp2_with fail
    go_loopg [21] 256 (fun kx s wr => ∃ k : Nat, s = .int .i64 k ∧ k ≤ 256 ∧ 256 - k ≤ kx ∧ Hid (XAt w1.heap.size wr X g1 g2 g3 n (upto (fanR bs) k) (fun _ => 0) (fun _ => 0) (fun _ => 0) 0) ∧ Hid (Rp w w1 wr g v bs (4 * k)) ∧ Hid (Fr (fun j => w.heap.size ≤ j) w1 wr))
    case atStart => exact ⟨0, rfl, by omega, by omega, Lib.hid (by rw [upto_zero]; exact HX.out), HPc, Lib.hid (HFc.out.mono (fun _ _ e => e.elim))⟩
    case round =>
      obtain ⟨k, rfl, hk, hkx, HXk, HPk, HFk⟩ := hrel
      obtain ⟨wo, rfl⟩ : ∃ wo, wo = wr := ⟨wr, rfl⟩
      have wk := wrap_nat k (by omega)
      by_cases hlt : k < 256
      · have hltz : (k : Int) < 256 := by omega
        have hUk : Hid (4 * k + 4 ≤ bs.length) := Lib.hid (by rw [HL.out]; omega)
        have hk0 : (0 : Int) ≤ k := by omega
        go_upto_region 6 with fail
        refine wp_region_held (S := fun _ => True) (by kernel_rfl) ?_
        have HSq := Lib.hid True.intro
        (
          refine wpAnyH_takeX (i := 0) (v := .pointer (some ⟨X, 0, none⟩)) 24 rfl rfl (by kernel_rfl) (by kernel_rfl) (by kernel_rfl) (fun _ _ _ h => h) (.inl ⟨by rfl, ?_⟩) HSq.out ?_
          · intro xw xf
            go_simp)
        (
          refine wpAnyH_takeX (i := 1) (v := .int .i64 k) 25 rfl rfl (by kernel_rfl) (by kernel_rfl) (by kernel_rfl) (fun _ _ _ h => h) (.inl ⟨by rfl, ?_⟩) HSq.out ?_
          · intro xw xf
            go_simp)
        (
          refine wpAnyH_takeX (i := 2) (v := .pointer (some ⟨g, 0, none⟩)) 26 rfl rfl (by kernel_rfl) (by kernel_rfl) (by kernel_rfl) (fun _ _ _ h => h) (.inl ⟨by rfl, ?_⟩) HSq.out ?_
          · intro xw xf
            go_simp)
        (
          refine wpAnyH_takeX (i := 4) (v := .pointer (some ⟨X, 0, none⟩)) 28 rfl rfl (by kernel_rfl) (by kernel_rfl) (by kernel_rfl) (fun _ _ _ h => h) (.inl ⟨by rfl, ?_⟩) HSq.out ?_
          · intro xw xf
            go_simp)
        (
          refine wpAnyH_takeX (i := 5) (v := .pointer (some ⟨X, 0, none⟩)) 29 rfl rfl (by kernel_rfl) (by kernel_rfl) (by kernel_rfl) (fun _ _ _ h => h) (.inl ⟨by rfl, ?_⟩) HSq.out ?_
          · intro xw xf
            go_simp)
        (
          change wpAnyH _ _ _ _ _ _ _ _ (World.drew wo)
          have HFd := Lib.hid (show Fr (fun _ => False) wo (World.drew wo) from (Fr.refl _ wo).drew)
          obtain ⟨wd, hwd⟩ : ∃ wd, World.drew wo = wd := ⟨_, rfl⟩
          rw [hwd]
          rw [hwd] at HFd
          clear hwd HSq)
        (
          try simp only [List.setIfInBounds_toArray, List.set_cons_succ, List.set_cons_zero]
          refine wpAnyH_all (rs := [3]) (by kernel_rfl) (by simp) ?_
          intro i hi
          simp only [List.mem_cons, List.not_mem_nil, or_false] at hi
          subst hi)
        refine wpOp_step rfl (fun K hK => ?_)
        go_simp
        go_wp2_with (go_at_call 47; refine (HU.out wd (4 * k) (HPk.out.frF HFd.out) hUk.out).mono ?_; rintro e w4 ⟨rfl, hp4, hf4⟩; have HP4 := Lib.hid hp4; have HF4 := Lib.hid hf4; clear hp4 hf4)
        refine ⟨True.intro, ?_⟩
        have HX4 := Lib.hid ((HXk.out.frF HFd.out).frB HF4.out HGhi.out)
        have c0 : w4.cell? ⟨X, k, none⟩ = some (.int .u32 (upto (fanR bs) k k : Nat)) := by rw [HX4.out.x.cell, idxC_fan _ _ _ _ _ _ hlt]
        have z0 := HX4.out.x.frozen k
        have hfr : bigV ((bs.drop (4 * k)).take 4) = fanR bs k := rfl
        obtain ⟨V, hV⟩ : ∃ V, bigV ((bs.drop (4 * k)).take 4) = V := ⟨_, rfl⟩
        rw [hV] at hfr ⊢
        have HV := Lib.hid hfr
        clear hV hfr
        have HSq := Lib.hid True.intro
        (
          refine wpAnyH_takeX (i := 6) (v := .pointer (some ⟨X, k, none⟩)) 30 rfl rfl (by kernel_rfl) (by kernel_rfl) (by kernel_rfl) (fun _ _ _ h => h) (.inl ⟨by rfl, ?_⟩) HSq.out ?_
          · intro xw xf
            go_simp)
        (
          try simp only [List.setIfInBounds_toArray, List.set_cons_succ, List.set_cons_zero]
          refine wpAnyH_all (rs := [7]) (by kernel_rfl) (by simp) ?_
          intro i hi
          simp only [List.mem_cons, List.not_mem_nil, or_false] at hi
          subst hi)
        refine wpOp_step rfl (fun K hK => ?_)
        go_simp
        refine hK _ _ ⟨True.intro, ?_⟩
        clear hK K
        refine wpAnyH_done (by kernel_rfl) ?_ _
        go_wp2_with fail
        go_roundg (256 - (k + 1))
        case measure => omega
        case rel =>
          have hset := HX4.out.x.set k (.int .u32 (V : Int))
          rw [idxC_set (upto (fanR bs) k) (upto (fanR bs) (k + 1)) _ _ _ _ k hlt _ (fun i _ hi => upto_other _ _ _ hi) (by rw [upto_at, HV.out])] at hset
          refine ⟨k + 1, by go_num, by omega, Nat.le_refl _, Lib.hid ⟨hset, ?_, ?_, ?_, HX4.out.bx, HX4.out.b1, HX4.out.b2, HX4.out.b3, HX4.out.n23⟩, Lib.hid ?_, Lib.hid ?_⟩
          all_goals have fS : Fr (fun j => j = X) w4 (w4.setCell ⟨X, k, none⟩ (.int .u32 (V : Int))) := Fr.setCell (p := ⟨X, k, none⟩) (Fr.refl (fun j => j = X) w4) (fun _ => rfl) _
          · exact HX4.out.k.fr fS (fun e => (HX4.out.k.apart HX4.out.x (by decide)) e)
          · exact HX4.out.s.fr fS (fun e => (HX4.out.s.apart HX4.out.x (by decide)) e)
          · exact HX4.out.a.fr fS (fun e => (HX4.out.a.apart HX4.out.x (by decide)) e)
          · exact HP4.out.frT (fS.mono (fun j _ e => by have := HX4.out.bx; omega))
          · exact ((HFk.out.trans HFd.out (fun _ _ e => e.elim)).trans HF4.out (fun j _ e => by have := HGlo.out; omega)).trans fS (fun j _ e => by have := HX4.out.bx; have := HS1.out; omega)
      · have hltz : ¬ ((k : Int) < 256) := by omega
        obtain rfl : 256 = k := by omega
        have HXA : Hid (XAt w1.heap.size wo X g1 g2 g3 n (fanR bs) (upto (keyR bs) 0) (fun _ => 0) (fun _ => 0) 0) := Lib.hid (by
          have h := HXk.out
          rw [upto_zero]
          refine ⟨?_, h.k, h.s, h.a, h.bx, h.b1, h.b2, h.b3, h.n23⟩
          rw [fanC_congr (fanR bs) (upto (fanR bs) 256) (fun c hc => by unfold upto; rw [if_pos hc])]
          exact h.x)
        have HPA : Hid (Rp w w1 wo g v bs (1024 + 32 * 0)) := HPk
        have HFA := HFk
        have c1 : wo.cell? ⟨X, 256, none⟩ = some (.slice (some ⟨g1, 0, none⟩) n n) := by rw [HXA.out.x.cell]; exact idxC_mid _ _ _ _ _ 0 (by decide)
        clear HXk HPk HFk
        go_wp2_with fail
        clear c1
        go_loopg [37] n (fun kx s wr => ∃ k : Nat, s = .int .i64 k ∧ k ≤ n ∧ n - k ≤ kx ∧ Hid (XAt w1.heap.size wr X g1 g2 g3 n (fanR bs) (upto (keyR bs) k) (fun _ => 0) (fun _ => 0) 0) ∧ Hid (Rp w w1 wr g v bs (1024 + 32 * k)) ∧ Hid (Fr (fun j => w.heap.size ≤ j) w1 wr))
        case atStart => exact ⟨0, rfl, by omega, by omega, HXA, HPA, HFA⟩
        case round =>
          obtain ⟨k, rfl, hk, hkx, HXk, HPk, HFk⟩ := hrel
          obtain ⟨wo, rfl⟩ : ∃ wo, wo = wr := ⟨wr, rfl⟩
          have wk := wrap_nat k (by omega)
          by_cases hlt : k < n
          · have hltz : (k : Int) < (n : Int) := by omega
            have hUk : Hid (1024 + 32 * k + 32 ≤ bs.length) := Lib.hid (by rw [HL.out]; omega)
            have hk0 : (0 : Int) ≤ k := by omega
            have i6 := fun w => slice_key g1 (k * 32) w
            go_upto_region 11 with fail
            refine wp_region_held (S := fun w' => w'.cell? ⟨X, 256, none⟩ = some (.slice (some ⟨g1, 0, none⟩) n n)) (by kernel_rfl) ?_
            have HSq := Lib.hid (show (World.drew wo).cell? ⟨X, 256, none⟩ = some (.slice (some ⟨g1, 0, none⟩) n n) from by rw [show (World.drew wo).cell? ⟨X, 256, none⟩ = wo.cell? ⟨X, 256, none⟩ from rfl, HXk.out.x.cell]; exact idxC_mid _ _ _ _ _ 0 (by decide))
            (
              refine wpAnyH_takeX (i := 0) (v := .pointer (some ⟨X, 0, none⟩)) 40 rfl rfl (by kernel_rfl) (by kernel_rfl) (by kernel_rfl) (fun _ _ _ h => h) (.inl ⟨by rfl, ?_⟩) HSq.out ?_
              · intro xw xf
                go_simp)
            (
              refine wpAnyH_takeX (i := 1) (v := .pointer (some ⟨X, 0, none⟩)) 41 rfl rfl (by kernel_rfl) (by kernel_rfl) (by kernel_rfl) (fun _ _ _ h => h) (.inl ⟨by rfl, ?_⟩) HSq.out ?_
              · intro xw xf
                go_simp)
            (
              refine wpAnyH_takeX (i := 2) (v := .pointer (some ⟨X, 256, none⟩)) 42 rfl rfl (by kernel_rfl) (by kernel_rfl) (by kernel_rfl) (fun _ _ _ h => h) (.inl ⟨by rfl, ?_⟩) HSq.out ?_
              · intro xw xf
                go_simp)
            (
              refine wpAnyH_takeX (i := 3) (v := .slice (some ⟨g1, 0, none⟩) n n) 43 rfl rfl (by kernel_rfl) (by kernel_rfl) (by kernel_rfl) (fun _ _ _ h => h) (.inl ⟨by rfl, ?_⟩) HSq.out ?_
              · intro xw xf
                go_simp)
            (
              refine wpAnyH_takeX (i := 4) (v := .int .i64 k) 44 rfl rfl (by kernel_rfl) (by kernel_rfl) (by kernel_rfl) (fun _ _ _ h => h) (.inl ⟨by rfl, ?_⟩) HSq.out ?_
              · intro xw xf
                go_simp)
            (
              refine wpAnyH_takeX (i := 5) (v := .pointer (some ⟨g1, k * 32, none⟩)) 45 rfl rfl (by kernel_rfl) (by kernel_rfl) (by kernel_rfl) (fun _ _ _ h => h) (.inl ⟨by rfl, ?_⟩) HSq.out ?_
              · intro xw xf
                go_simp)
            (
              refine wpAnyH_takeX (i := 6) (v := .slice (some ⟨g1, k * 32, none⟩) 32 32) 46 rfl rfl (by kernel_rfl) (by kernel_rfl) (by kernel_rfl) (fun _ _ _ h => h) (.inl ⟨by rfl, ?_⟩) HSq.out ?_
              · intro xw xf
                go_simp)
            (
              refine wpAnyH_takeX (i := 7) (v := .pointer (some ⟨g, 0, none⟩)) 47 rfl rfl (by kernel_rfl) (by kernel_rfl) (by kernel_rfl) (fun _ _ _ h => h) (.inl ⟨by rfl, ?_⟩) HSq.out ?_
              · intro xw xf
                go_simp)
            (
              change wpAnyH _ _ _ _ _ _ _ _ (World.drew wo)
              have HFd := Lib.hid (show Fr (fun _ => False) wo (World.drew wo) from (Fr.refl _ wo).drew)
              obtain ⟨wd, hwd⟩ : ∃ wd, World.drew wo = wd := ⟨_, rfl⟩
              rw [hwd]
              rw [hwd] at HFd
              clear hwd HSq)
            (
              try simp only [List.setIfInBounds_toArray, List.set_cons_succ, List.set_cons_zero]
              refine wpAnyH_all (rs := [8]) (by kernel_rfl) (by simp) ?_
              intro i hi
              simp only [List.mem_cons, List.not_mem_nil, or_false] at hi
              subst hi)
            refine wpOp_step rfl (fun K hK => ?_)
            go_simp
            go_wp2_with (go_at_call 46; refine (HRR.out wd (1024 + 32 * k) (HPk.out.frF HFd.out) hUk.out).mono ?_; rintro e w4 ⟨x, rfl, ox, hp4, hf4⟩; obtain ⟨Ax, cx, hx, -, -⟩ := own_slice ox; subst hx; have HLX := Lib.hid (Lies.of_own ox); have HP4 := Lib.hid hp4; have HF4 := Lib.hid hf4; clear ox hp4 hf4)
            have HX4 := Lib.hid ((HXk.out.frF HFd.out).frB HF4.out HGhi.out)
            refine ⟨by rw [HX4.out.x.cell]; exact idxC_mid _ _ _ _ _ 0 (by decide), ?_⟩
            have HWl : Hid (((bs.drop (1024 + 32 * k)).take 32).length = 32) := Lib.hid (by rw [List.length_take, List.length_drop]; have := hUk.out; omega)
            have HWk : Hid (bigV ((bs.drop (1024 + 32 * k)).take 32) = keyR bs k) := Lib.hid rfl
            obtain ⟨W, hW⟩ : ∃ W, (bs.drop (1024 + 32 * k)).take 32 = W := ⟨_, rfl⟩
            rw [hW] at HWl HWk HLX
            clear hW
            (
              try simp only [List.setIfInBounds_toArray, List.set_cons_succ, List.set_cons_zero]
              refine wpAnyH_all (rs := [9]) (by kernel_rfl) (by simp) ?_
              intro i hi
              simp only [List.mem_cons, List.not_mem_nil, or_false] at hi
              subst hi)
            refine wpOp_step rfl (fun K hK => ?_)
            refine step_copy_at (by rfl) (.tmp 46) (.tmp 48) 28 28 (by rfl) 5 Tryz.underlying28 size_u8 g1 (k * 32) 32 32 Ax 32 cx (by rfl) (by rfl) _ 90 HX4.out.k (bytesV W) (by rw [bytesV_length, HWl.out]; rfl) (by rw [bytesV_length, HWl.out]; decide) HLX.out (by rw [bytesV_length, HWl.out, List.size_toArray, flatI_len, keyL_len]; omega) (bytesV_one _) ?_
            intro w5 hw5 hf5
            have HF5 := Lib.hid hf5
            rw [keyL_splice n (upto (keyR bs) k) (upto (keyR bs) (k + 1)) k hlt W HWl.out (fun i _ hi => upto_other _ _ _ hi) (by rw [upto_at, ← HWk.out, idL_bigV W HWl.out])] at hw5
            have HK5 := Lib.hid hw5
            clear hw5 hf5
            have HX5 := Lib.hid (HX4.out.x.fr HF5.out (fun e => (HX4.out.x.apart HX4.out.k (by decide)) e))
            go_simp
            refine hK _ _ ⟨by rw [HX5.out.cell]; exact idxC_mid _ _ _ _ _ 0 (by decide), ?_⟩
            clear hK K
            refine wpAnyH_done (by kernel_rfl) ?_ _
            go_wp2_with fail
            go_roundg (n - (k + 1))
            case measure => omega
            case rel =>
              refine ⟨k + 1, by go_num, by omega, Nat.le_refl _, Lib.hid ⟨HX5.out, HK5.out, ?_, ?_, HX4.out.bx, HX4.out.b1, HX4.out.b2, HX4.out.b3, HX4.out.n23⟩, Lib.hid ?_, Lib.hid ?_⟩
              · exact HX4.out.s.fr HF5.out (fun e => (HX4.out.s.apart HX4.out.k (by decide)) e)
              · exact HX4.out.a.fr HF5.out (fun e => (HX4.out.a.apart HX4.out.k (by decide)) e)
              · exact HP4.out.frT (HF5.out.mono (fun j _ e => by have := HX4.out.b1; omega))
              · exact ((HFk.out.trans HFd.out (fun _ _ e => e.elim)).trans HF4.out (fun j _ e => by have := HGlo.out; omega)).trans HF5.out (fun j _ e => by have := HX4.out.b1; have := HS1.out; omega)
          · have hltz : ¬ ((k : Int) < (n : Int)) := by omega
            obtain rfl : n = k := by omega
            have HXB : Hid (XAt w1.heap.size wo X g1 g2 g3 n (fanR bs) (keyR bs) (upto (smR bs n) 0) (fun _ => 0) 0) := Lib.hid (by
              have h := HXk.out
              rw [upto_zero]
              refine ⟨h.x, ?_, h.s, h.a, h.bx, h.b1, h.b2, h.b3, h.n23⟩
              rw [show keyL n (keyR bs) = keyL n (upto (keyR bs) n) from List.map_congr_left (fun c hc => by unfold upto; rw [if_pos (List.mem_range.1 hc)])]
              exact h.k)
            have HPB : Hid (Rp w w1 wo g v bs (1024 + 32 * n + 4 * 0)) := HPk
            have HFB := HFk
            clear HXk HPk HFk
            have c1 : wo.cell? ⟨X, 257, none⟩ = some (.slice (some ⟨g2, 0, none⟩) n n) := by rw [HXB.out.x.cell]; exact idxC_mid _ _ _ _ _ 1 (by decide)
            go_wp2_with fail
            clear c1
            go_loopg [56] n (fun kx s wr => ∃ k : Nat, s = .int .i64 k ∧ k ≤ n ∧ n - k ≤ kx ∧ Hid (XAt w1.heap.size wr X g1 g2 g3 n (fanR bs) (keyR bs) (upto (smR bs n) k) (fun _ => 0) 0) ∧ Hid (Rp w w1 wr g v bs (1024 + 32 * n + 4 * k)) ∧ Hid (Fr (fun j => w.heap.size ≤ j) w1 wr))
            case atStart => exact ⟨0, rfl, by omega, by omega, HXB, HPB, HFB⟩
            case round =>
              obtain ⟨k, rfl, hk, hkx, HXk, HPk, HFk⟩ := hrel
              obtain ⟨wo, rfl⟩ : ∃ wo, wo = wr := ⟨wr, rfl⟩
              have wk := wrap_nat k (by omega)
              by_cases hlt : k < n
              · have hltz : (k : Int) < (n : Int) := by omega
                have hUk : Hid (1024 + 32 * n + 4 * k + 4 ≤ bs.length) := Lib.hid (by rw [HL.out]; omega)
                have hk0 : (0 : Int) ≤ k := by omega
                go_upto_region 16 with fail
                refine wp_region_held (S := fun w' => w'.cell? ⟨X, 257, none⟩ = some (.slice (some ⟨g2, 0, none⟩) n n)) (by kernel_rfl) ?_
                have HSq := Lib.hid (show (World.drew wo).cell? ⟨X, 257, none⟩ = some (.slice (some ⟨g2, 0, none⟩) n n) from by rw [show (World.drew wo).cell? ⟨X, 257, none⟩ = wo.cell? ⟨X, 257, none⟩ from rfl, HXk.out.x.cell]; exact idxC_mid _ _ _ _ _ 1 (by decide))
                (
                  refine wpAnyH_takeX (i := 0) (v := .pointer (some ⟨X, 0, none⟩)) 59 rfl rfl (by kernel_rfl) (by kernel_rfl) (by kernel_rfl) (fun _ _ _ h => h) (.inl ⟨by rfl, ?_⟩) HSq.out ?_
                  · intro xw xf
                    go_simp)
                (
                  refine wpAnyH_takeX (i := 1) (v := .pointer (some ⟨X, 0, none⟩)) 60 rfl rfl (by kernel_rfl) (by kernel_rfl) (by kernel_rfl) (fun _ _ _ h => h) (.inl ⟨by rfl, ?_⟩) HSq.out ?_
                  · intro xw xf
                    go_simp)
                (
                  refine wpAnyH_takeX (i := 2) (v := .pointer (some ⟨X, 257, none⟩)) 61 rfl rfl (by kernel_rfl) (by kernel_rfl) (by kernel_rfl) (fun _ _ _ h => h) (.inl ⟨by rfl, ?_⟩) HSq.out ?_
                  · intro xw xf
                    go_simp)
                (
                  refine wpAnyH_takeX (i := 3) (v := .slice (some ⟨g2, 0, none⟩) n n) 62 rfl rfl (by kernel_rfl) (by kernel_rfl) (by kernel_rfl) (fun _ _ _ h => h) (.inl ⟨by rfl, ?_⟩) HSq.out ?_
                  · intro xw xf
                    go_simp)
                (
                  refine wpAnyH_takeX (i := 4) (v := .int .i64 k) 63 rfl rfl (by kernel_rfl) (by kernel_rfl) (by kernel_rfl) (fun _ _ _ h => h) (.inl ⟨by rfl, ?_⟩) HSq.out ?_
                  · intro xw xf
                    go_simp)
                (
                  refine wpAnyH_takeX (i := 5) (v := .pointer (some ⟨g, 0, none⟩)) 64 rfl rfl (by kernel_rfl) (by kernel_rfl) (by kernel_rfl) (fun _ _ _ h => h) (.inl ⟨by rfl, ?_⟩) HSq.out ?_
                  · intro xw xf
                    go_simp)
                (
                  change wpAnyH _ _ _ _ _ _ _ _ (World.drew wo)
                  have HFd := Lib.hid (show Fr (fun _ => False) wo (World.drew wo) from (Fr.refl _ wo).drew)
                  obtain ⟨wd, hwd⟩ : ∃ wd, World.drew wo = wd := ⟨_, rfl⟩
                  rw [hwd]
                  rw [hwd] at HFd
                  clear hwd HSq)
                (
                  try simp only [List.setIfInBounds_toArray, List.set_cons_succ, List.set_cons_zero]
                  refine wpAnyH_all (rs := [6]) (by kernel_rfl) (by simp) ?_
                  intro i hi
                  simp only [List.mem_cons, List.not_mem_nil, or_false] at hi
                  subst hi)
                refine wpOp_step rfl (fun K hK => ?_)
                go_simp
                go_wp2_with (go_at_call 47; refine (HU.out wd (1024 + 32 * n + 4 * k) (HPk.out.frF HFd.out) hUk.out).mono ?_; rintro e w4 ⟨rfl, hp4, hf4⟩; have HP4 := Lib.hid hp4; have HF4 := Lib.hid hf4; clear hp4 hf4)
                have HX4 := Lib.hid ((HXk.out.frF HFd.out).frB HF4.out HGhi.out)
                refine ⟨by rw [HX4.out.x.cell]; exact idxC_mid _ _ _ _ _ 1 (by decide), ?_⟩
                have c0 : w4.cell? ⟨g2, k, none⟩ = some (.int .u32 (upto (smR bs n) k k : Nat)) := by rw [HX4.out.s.cell, List.getElem?_toArray, numL_get _ _ _ hlt]
                have z0 := HX4.out.s.frozen k
                have hfr : bigV ((bs.drop (1024 + 32 * n + 4 * k)).take 4) = smR bs n k := rfl
                obtain ⟨V, hV⟩ : ∃ V, bigV ((bs.drop (1024 + 32 * n + 4 * k)).take 4) = V := ⟨_, rfl⟩
                rw [hV] at hfr ⊢
                have HV := Lib.hid hfr
                clear hV hfr
                have HSq := Lib.hid (show w4.cell? ⟨X, 257, none⟩ = some (.slice (some ⟨g2, 0, none⟩) n n) from by rw [HX4.out.x.cell]; exact idxC_mid _ _ _ _ _ 1 (by decide))
                (
                  refine wpAnyH_takeX (i := 7) (v := .pointer (some ⟨g2, k, none⟩)) 66 rfl rfl (by kernel_rfl) (by kernel_rfl) (by kernel_rfl) (fun _ _ _ h => h) (.inl ⟨by rfl, ?_⟩) HSq.out ?_
                  · intro xw xf
                    go_simp)
                (
                  try simp only [List.setIfInBounds_toArray, List.set_cons_succ, List.set_cons_zero]
                  refine wpAnyH_all (rs := [8]) (by kernel_rfl) (by simp) ?_
                  intro i hi
                  simp only [List.mem_cons, List.not_mem_nil, or_false] at hi
                  subst hi)
                have HFS := Lib.hid (show Fr (fun j => j = g2) w4 (w4.setCell ⟨g2, k, none⟩ (.int .u32 (V : Int))) from Fr.setCell (p := ⟨g2, k, none⟩) (Fr.refl (fun j => j = g2) w4) (fun _ => rfl) _)
                have HX5 := Lib.hid (HX4.out.x.fr HFS.out (fun e => (HX4.out.x.apart HX4.out.s (by decide)) e))
                refine wpOp_step rfl (fun K hK => ?_)
                go_simp
                refine hK _ _ ⟨by have := HX5.out.cell 257; exact this.trans (idxC_mid _ _ _ _ _ 1 (by decide)), ?_⟩
                clear hK K
                refine wpAnyH_done (by kernel_rfl) ?_ _
                go_wp2_with fail
                go_roundg (n - (k + 1))
                case measure => omega
                case rel =>
                  have hset := HX4.out.s.set k (.int .u32 (V : Int))
                  rw [numL_set n (upto (smR bs n) k) (upto (smR bs n) (k + 1)) k hlt _ (fun i _ hi => upto_other _ _ _ hi) (by rw [upto_at, HV.out])] at hset
                  refine ⟨k + 1, by go_num, by omega, Nat.le_refl _, Lib.hid ⟨HX5.out, ?_, ?_, ?_, HX4.out.bx, HX4.out.b1, HX4.out.b2, HX4.out.b3, HX4.out.n23⟩, Lib.hid ?_, Lib.hid ?_⟩
                  · exact HX4.out.k.fr HFS.out (fun e => (HX4.out.k.apart HX4.out.s (by decide)) e)
                  · exact hset
                  · exact HX4.out.a.fr HFS.out (fun e => HX4.out.n23 e.symm)
                  · exact HP4.out.frT (HFS.out.mono (fun j _ e => by have := HX4.out.b2; omega))
                  · exact ((HFk.out.trans HFd.out (fun _ _ e => e.elim)).trans HF4.out (fun j _ e => by have := HGlo.out; omega)).trans HFS.out (fun j _ e => by have := HX4.out.b2; have := HS1.out; omega)
              · have hltz : ¬ ((k : Int) < (n : Int)) := by omega
                obtain rfl : n = k := by omega
                have HXB : Hid (XAt w1.heap.size wo X g1 g2 g3 n (fanR bs) (keyR bs) (smR bs n) (upto (atR bs n) 0) 0) := Lib.hid (by
                  have h := HXk.out
                  rw [upto_zero]
                  refine ⟨h.x, h.k, ?_, h.a, h.bx, h.b1, h.b2, h.b3, h.n23⟩
                  rw [numL_congr n (smR bs n) (upto (smR bs n) n) (fun c hc => by unfold upto; rw [if_pos hc])]
                  exact h.s)
                have HPB : Hid (Rp w w1 wo g v bs (1024 + 36 * n + 4 * 0)) := Lib.hid (by have := HPk.out; rwa [show 1024 + 32 * n + 4 * n = 1024 + 36 * n + 4 * 0 by omega] at this)
                have HFB := HFk
                clear HXk HPk HFk
                have c1 : wo.cell? ⟨X, 258, none⟩ = some (.slice (some ⟨g3, 0, none⟩) n n) := by rw [HXB.out.x.cell]; exact idxC_mid _ _ _ _ _ 2 (by decide)
                go_wp2_with fail
                clear c1
                go_loopg [73] n (fun kx s wr => ∃ k : Nat, s = .int .i64 k ∧ k ≤ n ∧ n - k ≤ kx ∧ Hid (XAt w1.heap.size wr X g1 g2 g3 n (fanR bs) (keyR bs) (smR bs n) (upto (atR bs n) k) 0) ∧ Hid (Rp w w1 wr g v bs (1024 + 36 * n + 4 * k)) ∧ Hid (Fr (fun j => w.heap.size ≤ j) w1 wr))
                case atStart => exact ⟨0, rfl, by omega, by omega, HXB, HPB, HFB⟩
                case round =>
                  obtain ⟨k, rfl, hk, hkx, HXk, HPk, HFk⟩ := hrel
                  obtain ⟨wo, rfl⟩ : ∃ wo, wo = wr := ⟨wr, rfl⟩
                  have wk := wrap_nat k (by omega)
                  by_cases hlt : k < n
                  · have hltz : (k : Int) < (n : Int) := by omega
                    have hUk : Hid (1024 + 36 * n + 4 * k + 4 ≤ bs.length) := Lib.hid (by rw [HL.out]; omega)
                    have hk0 : (0 : Int) ≤ k := by omega
                    go_upto_region 21 with fail
                    refine wp_region_held (S := fun w' => w'.cell? ⟨X, 258, none⟩ = some (.slice (some ⟨g3, 0, none⟩) n n)) (by kernel_rfl) ?_
                    have HSq := Lib.hid (show (World.drew wo).cell? ⟨X, 258, none⟩ = some (.slice (some ⟨g3, 0, none⟩) n n) from by rw [show (World.drew wo).cell? ⟨X, 258, none⟩ = wo.cell? ⟨X, 258, none⟩ from rfl, HXk.out.x.cell]; exact idxC_mid _ _ _ _ _ 2 (by decide))
                    (
                      refine wpAnyH_takeX (i := 0) (v := .pointer (some ⟨X, 0, none⟩)) 76 rfl rfl (by kernel_rfl) (by kernel_rfl) (by kernel_rfl) (fun _ _ _ h => h) (.inl ⟨by rfl, ?_⟩) HSq.out ?_
                      · intro xw xf
                        go_simp)
                    (
                      refine wpAnyH_takeX (i := 1) (v := .pointer (some ⟨X, 0, none⟩)) 77 rfl rfl (by kernel_rfl) (by kernel_rfl) (by kernel_rfl) (fun _ _ _ h => h) (.inl ⟨by rfl, ?_⟩) HSq.out ?_
                      · intro xw xf
                        go_simp)
                    (
                      refine wpAnyH_takeX (i := 2) (v := .pointer (some ⟨X, 258, none⟩)) 78 rfl rfl (by kernel_rfl) (by kernel_rfl) (by kernel_rfl) (fun _ _ _ h => h) (.inl ⟨by rfl, ?_⟩) HSq.out ?_
                      · intro xw xf
                        go_simp)
                    (
                      refine wpAnyH_takeX (i := 3) (v := .slice (some ⟨g3, 0, none⟩) n n) 79 rfl rfl (by kernel_rfl) (by kernel_rfl) (by kernel_rfl) (fun _ _ _ h => h) (.inl ⟨by rfl, ?_⟩) HSq.out ?_
                      · intro xw xf
                        go_simp)
                    (
                      refine wpAnyH_takeX (i := 4) (v := .int .i64 k) 80 rfl rfl (by kernel_rfl) (by kernel_rfl) (by kernel_rfl) (fun _ _ _ h => h) (.inl ⟨by rfl, ?_⟩) HSq.out ?_
                      · intro xw xf
                        go_simp)
                    (
                      refine wpAnyH_takeX (i := 5) (v := .pointer (some ⟨g, 0, none⟩)) 81 rfl rfl (by kernel_rfl) (by kernel_rfl) (by kernel_rfl) (fun _ _ _ h => h) (.inl ⟨by rfl, ?_⟩) HSq.out ?_
                      · intro xw xf
                        go_simp)
                    (
                      change wpAnyH _ _ _ _ _ _ _ _ (World.drew wo)
                      have HFd := Lib.hid (show Fr (fun _ => False) wo (World.drew wo) from (Fr.refl _ wo).drew)
                      obtain ⟨wd, hwd⟩ : ∃ wd, World.drew wo = wd := ⟨_, rfl⟩
                      rw [hwd]
                      rw [hwd] at HFd
                      clear hwd HSq)
                    (
                      try simp only [List.setIfInBounds_toArray, List.set_cons_succ, List.set_cons_zero]
                      refine wpAnyH_all (rs := [6]) (by kernel_rfl) (by simp) ?_
                      intro i hi
                      simp only [List.mem_cons, List.not_mem_nil, or_false] at hi
                      subst hi)
                    refine wpOp_step rfl (fun K hK => ?_)
                    go_simp
                    go_wp2_with (go_at_call 47; refine (HU.out wd (1024 + 36 * n + 4 * k) (HPk.out.frF HFd.out) hUk.out).mono ?_; rintro e w4 ⟨rfl, hp4, hf4⟩; have HP4 := Lib.hid hp4; have HF4 := Lib.hid hf4; clear hp4 hf4)
                    have HX4 := Lib.hid ((HXk.out.frF HFd.out).frB HF4.out HGhi.out)
                    refine ⟨by rw [HX4.out.x.cell]; exact idxC_mid _ _ _ _ _ 2 (by decide), ?_⟩
                    have c0 : w4.cell? ⟨g3, k, none⟩ = some (.int .u32 (upto (atR bs n) k k : Nat)) := by rw [HX4.out.a.cell, List.getElem?_toArray, numL_get _ _ _ hlt]
                    have z0 := HX4.out.a.frozen k
                    have hfr : bigV ((bs.drop (1024 + 36 * n + 4 * k)).take 4) = atR bs n k := rfl
                    obtain ⟨V, hV⟩ : ∃ V, bigV ((bs.drop (1024 + 36 * n + 4 * k)).take 4) = V := ⟨_, rfl⟩
                    rw [hV] at hfr ⊢
                    have HV := Lib.hid hfr
                    clear hV hfr
                    have HSq := Lib.hid (show w4.cell? ⟨X, 258, none⟩ = some (.slice (some ⟨g3, 0, none⟩) n n) from by rw [HX4.out.x.cell]; exact idxC_mid _ _ _ _ _ 2 (by decide))
                    (
                      refine wpAnyH_takeX (i := 7) (v := .pointer (some ⟨g3, k, none⟩)) 83 rfl rfl (by kernel_rfl) (by kernel_rfl) (by kernel_rfl) (fun _ _ _ h => h) (.inl ⟨by rfl, ?_⟩) HSq.out ?_
                      · intro xw xf
                        go_simp)
                    (
                      try simp only [List.setIfInBounds_toArray, List.set_cons_succ, List.set_cons_zero]
                      refine wpAnyH_all (rs := [8]) (by kernel_rfl) (by simp) ?_
                      intro i hi
                      simp only [List.mem_cons, List.not_mem_nil, or_false] at hi
                      subst hi)
                    have HFS := Lib.hid (show Fr (fun j => j = g3) w4 (w4.setCell ⟨g3, k, none⟩ (.int .u32 (V : Int))) from Fr.setCell (p := ⟨g3, k, none⟩) (Fr.refl (fun j => j = g3) w4) (fun _ => rfl) _)
                    have HX5 := Lib.hid (HX4.out.x.fr HFS.out (fun e => (HX4.out.x.apart HX4.out.a (by decide)) e))
                    refine wpOp_step rfl (fun K hK => ?_)
                    go_simp
                    refine hK _ _ ⟨by have := HX5.out.cell 258; exact this.trans (idxC_mid _ _ _ _ _ 2 (by decide)), ?_⟩
                    clear hK K
                    refine wpAnyH_done (by kernel_rfl) ?_ _
                    go_wp2_with fail
                    go_roundg (n - (k + 1))
                    case measure => omega
                    case rel =>
                      have hset := HX4.out.a.set k (.int .u32 (V : Int))
                      rw [numL_set n (upto (atR bs n) k) (upto (atR bs n) (k + 1)) k hlt _ (fun i _ hi => upto_other _ _ _ hi) (by rw [upto_at, HV.out])] at hset
                      refine ⟨k + 1, by go_num, by omega, Nat.le_refl _, Lib.hid ⟨HX5.out, ?_, ?_, ?_, HX4.out.bx, HX4.out.b1, HX4.out.b2, HX4.out.b3, HX4.out.n23⟩, Lib.hid ?_, Lib.hid ?_⟩
                      · exact HX4.out.k.fr HFS.out (fun e => (HX4.out.k.apart HX4.out.a (by decide)) e)
                      · exact HX4.out.s.fr HFS.out (fun e => HX4.out.n23 e)
                      · exact hset
                      · exact HP4.out.frT (HFS.out.mono (fun j _ e => by have := HX4.out.b3; omega))
                      · exact ((HFk.out.trans HFd.out (fun _ _ e => e.elim)).trans HF4.out (fun j _ e => by have := HGlo.out; omega)).trans HFS.out (fun j _ e => by have := HX4.out.b3; have := HS1.out; omega)
                  · have hltz : ¬ ((k : Int) < (n : Int)) := by omega
                    obtain rfl : n = k := by omega
                    have HXE : Hid (XAt w1.heap.size wo X g1 g2 g3 n (fanR bs) (keyR bs) (smR bs n) (atR bs n) 0) := Lib.hid (by
                      have h := HXk.out
                      refine ⟨h.x, h.k, h.s, ?_, h.bx, h.b1, h.b2, h.b3, h.n23⟩
                      rw [numL_congr n (atR bs n) (upto (atR bs n) n) (fun c hc => by unfold upto; rw [if_pos hc])]
                      exact h.a)
                    have HPE : Hid (Rp w w1 wo g v bs (1024 + 40 * n)) := Lib.hid (by have := HPk.out; rwa [show 1024 + 36 * n + 4 * n = 1024 + 40 * n by omega] at this)
                    have HFE := HFk
                    clear HXk HPk HFk
                    have hUk : Hid (1024 + 40 * n + 32 ≤ bs.length) := Lib.hid (by rw [HL.out]; omega)
                    have i6 := fun w => slice_idAt X 259 w
                    go_upto_region 23 with fail
                    refine wp_region_held (S := fun _ => True) (by kernel_rfl) ?_
                    have HSq := Lib.hid True.intro
                    (
                      refine wpAnyH_takeX (i := 0) (v := .pointer (some ⟨X, 0, none⟩)) 85 rfl rfl (by kernel_rfl) (by kernel_rfl) (by kernel_rfl) (fun _ _ _ h => h) (.inl ⟨by rfl, ?_⟩) HSq.out ?_
                      · intro xw xf
                        go_simp)
                    (
                      refine wpAnyH_takeX (i := 1) (v := .pointer (some ⟨X, 0, none⟩)) 86 rfl rfl (by kernel_rfl) (by kernel_rfl) (by kernel_rfl) (fun _ _ _ h => h) (.inl ⟨by rfl, ?_⟩) HSq.out ?_
                      · intro xw xf
                        go_simp)
                    (
                      refine wpAnyH_takeX (i := 2) (v := .pointer (some ⟨X, 259, none⟩)) 87 rfl rfl (by kernel_rfl) (by kernel_rfl) (by kernel_rfl) (fun _ _ _ h => h) (.inl ⟨by rfl, ?_⟩) HSq.out ?_
                      · intro xw xf
                        go_simp)
                    (
                      refine wpAnyH_takeX (i := 3) (v := .slice (some ⟨X, 259, none⟩) 32 32) 88 rfl rfl (by kernel_rfl) (by kernel_rfl) (by kernel_rfl) (fun _ _ _ h => h) (.inl ⟨by rfl, ?_⟩) HSq.out ?_
                      · intro xw xf
                        go_simp)
                    (
                      refine wpAnyH_takeX (i := 4) (v := .pointer (some ⟨g, 0, none⟩)) 89 rfl rfl (by kernel_rfl) (by kernel_rfl) (by kernel_rfl) (fun _ _ _ h => h) (.inl ⟨by rfl, ?_⟩) HSq.out ?_
                      · intro xw xf
                        go_simp)
                    (
                      change wpAnyH _ _ _ _ _ _ _ _ (World.drew wo)
                      have HFd := Lib.hid (show Fr (fun _ => False) wo (World.drew wo) from (Fr.refl _ wo).drew)
                      obtain ⟨wd, hwd⟩ : ∃ wd, World.drew wo = wd := ⟨_, rfl⟩
                      rw [hwd]
                      rw [hwd] at HFd
                      clear hwd HSq)
                    (
                      try simp only [List.setIfInBounds_toArray, List.set_cons_succ, List.set_cons_zero]
                      refine wpAnyH_all (rs := [5]) (by kernel_rfl) (by simp) ?_
                      intro i hi
                      simp only [List.mem_cons, List.not_mem_nil, or_false] at hi
                      subst hi)
                    refine wpOp_step rfl (fun K hK => ?_)
                    go_simp
                    go_wp2_with (go_at_call 46; refine (HRR.out wd (1024 + 40 * n) (HPE.out.frF HFd.out) hUk.out).mono ?_; rintro e w4 ⟨x, rfl, ox, hp4, hf4⟩; obtain ⟨Ax, cx, hx, -, -⟩ := own_slice ox; subst hx; have HLX := Lib.hid (Lies.of_own ox); have HF4 := Lib.hid hf4; clear ox hp4 hf4)
                    have HX4 := Lib.hid ((HXE.out.frF HFd.out).frB HF4.out HGhi.out)
                    refine ⟨True.intro, ?_⟩
                    have HWl : Hid (((bs.drop (1024 + 40 * n)).take 32).length = 32) := Lib.hid (by rw [List.length_take, List.length_drop]; have := hUk.out; omega)
                    have HWk : Hid (bigV ((bs.drop (1024 + 40 * n)).take 32) = ofR bs n) := Lib.hid rfl
                    obtain ⟨W, hW⟩ : ∃ W, (bs.drop (1024 + 40 * n)).take 32 = W := ⟨_, rfl⟩
                    rw [hW] at HWl HWk HLX
                    clear hW
                    (
                      try simp only [List.setIfInBounds_toArray, List.set_cons_succ, List.set_cons_zero]
                      refine wpAnyH_all (rs := [6]) (by kernel_rfl) (by simp) ?_
                      intro i hi
                      simp only [List.mem_cons, List.not_mem_nil, or_false] at hi
                      subst hi)
                    refine wpOp_step rfl (fun K hK => ?_)
                    refine step_copy_at (by rfl) (.tmp 88) (.tmp 90) 28 28 (by rfl) 5 Tryz.underlying28 size_u8 X 259 32 32 Ax 32 cx (by rfl) (by rfl) _ 76 HX4.out.x (bytesV W) (by rw [bytesV_length, HWl.out]; rfl) (by rw [bytesV_length, HWl.out]; decide) HLX.out (by rw [bytesV_length, HWl.out, idxC_size]; decide) (bytesV_one _) ?_
                    intro w5 hw5 hf5
                    have HF5 := Lib.hid hf5
                    rw [idxC_splice _ _ _ _ _ W HWl.out, Array.toArray_toList, HWk.out] at hw5
                    have HX5 := Lib.hid hw5
                    clear hw5 hf5
                    go_simp
                    refine hK _ _ ⟨True.intro, ?_⟩
                    clear hK K
                    refine wpAnyH_done (by kernel_rfl) ?_ _
                    go_wp2_with fail
                    go_ret
                    refine ⟨X, g1, g2, g3, rfl, ⟨HX5.out, ?_, ?_, ?_, ?_, ?_, ?_, ?_, HX4.out.n23⟩, ?_⟩
                    · exact HX4.out.k.fr HF5.out (fun e => (HX4.out.k.apart HX4.out.x (by decide)) e)
                    · exact HX4.out.s.fr HF5.out (fun e => (HX4.out.s.apart HX4.out.x (by decide)) e)
                    · exact HX4.out.a.fr HF5.out (fun e => (HX4.out.a.apart HX4.out.x (by decide)) e)
                    · have := HX4.out.bx; have := HS1.out; omega
                    · have := HX4.out.b1; have := HS1.out; omega
                    · have := HX4.out.b2; have := HS1.out; omega
                    · have := HX4.out.b3; have := HS1.out; omega
                    · exact (((HF.out.trans HFE.out (fun j hj e => by omega)).trans HFd.out (fun _ _ e => e)).trans HF4.out (fun j hj e => by have := HGlo.out; omega)).trans HF5.out (fun j hj e => by have := HX4.out.bx; have := HS1.out; omega)
end Go.Proofs.YtgbhdjncccmabaaGreatDoor

/- What is proved: the library's Compare, Or at int; who is the older one, by the program. Conditions: the numbers' cells are there. -/
import Derived.Test.YtpaigmmpihcdaaaJh
import Derived.Deep.RegionWith
namespace Go.Proofs.Ytpaigmmpihcdaaa
open Go.RowKit Go.Shelf
set_option linter.unusedVariables false

def cmpV (x y : Int) : Int := if x < y then -1 else if y < x then 1 else 0
def ageV (t : Nat → Int) (a b : Nat) : Int := if cmpV (t a) (t b) ≠ 0 then cmpV (t a) (t b) else cmpV a b
theorem age_old (t : Nat → Int) (a b : Nat) : ageV t a b < 0 ↔ old t a b := by
  unfold ageV cmpV old
  split <;> split <;> try split
  all_goals omega
theorem GnCompare_any (x y : Int) (w : World) : Calls Try.prog 39 #[.int .i64 x, .int .i64 y] w fun e w' => e = .returned (.int .i64 (cmpV x y)) ∧ w = w' := by
  have HV : Hid (cmpV x y = if x < y then -1 else if y < x then 1 else 0) := Lib.hid rfl
  obtain ⟨v, hv⟩ : ∃ v, cmpV x y = v := ⟨_, rfl⟩
  rw [hv] at HV ⊢
  clear hv
  by_cases h1 : x < y
  · have HE := Lib.hid (show v = -1 from by rw [HV.out, if_pos h1])
    clear HV
    go_enter Try.func39, Try.ntmps39
    go_wp2
    go_ret
    exact ⟨by rw [HE.out]; rfl, rfl⟩
  · by_cases h2 : y < x
    · have HE := Lib.hid (show v = 1 from by rw [HV.out, if_neg h1, if_pos h2])
      clear HV
      go_enter Try.func39, Try.ntmps39
      go_wp2
      go_ret
      exact ⟨by rw [HE.out]; rfl, rfl⟩
    · have HE := Lib.hid (show v = 0 from by rw [HV.out, if_neg h1, if_neg h2])
      clear HV
      go_enter Try.func39, Try.ntmps39
      go_wp2
      go_ret
      exact ⟨by rw [HE.out]; rfl, rfl⟩
theorem GnOr_any (g : Nat) (a b : Int) (w : World) (h : Whole w g 3 #[.int .i64 a, .int .i64 b]) : Calls Try.prog 38 #[.slice (some ⟨g, 0, none⟩) 2 2] w fun e w' => e = .returned (.int .i64 (if a ≠ 0 then a else b)) ∧ w = w' := by
  have c0 : w.cell? ⟨g, 0, none⟩ = some (.int .i64 a) := h.cell 0
  have c1 : w.cell? ⟨g, 1, none⟩ = some (.int .i64 b) := h.cell 1
  have HV : Hid (∀ v, v = (if a ≠ 0 then a else b) → v = (if a ≠ 0 then a else b)) := Lib.hid (fun _ h => h)
  obtain ⟨v, hv⟩ : ∃ v, (if a ≠ 0 then a else b) = v := ⟨_, rfl⟩
  rw [hv]
  have HVe := Lib.hid hv
  clear h hv HV
  by_cases ha : a = 0
  · by_cases hb : b = 0
    · have HE := Lib.hid (show v = 0 from by have := HVe.out; rw [if_neg (by simp [ha])] at this; omega)
      subst ha; subst hb
      go_enter Try.func38, Try.ntmps38
      go_wp2
      go_loopg [8] 2 (fun kx s8 wr => ∃ k : Nat, s8 = .int .i64 k ∧ k ≤ 2 ∧ 2 - k ≤ kx ∧ w = wr)
      case atStart => exact ⟨0, rfl, by omega, by omega, rfl⟩
      case round =>
        obtain ⟨k, rfl, hk, hkx, rfl⟩ := hrel
        rcases (by omega : k = 0 ∨ k = 1 ∨ k = 2) with rfl | rfl | rfl
        · go_wp2
          go_roundg 1
          case measure => omega
          case rel => exact ⟨1, rfl, by omega, by omega, rfl⟩
        · go_wp2
          go_roundg 0
          case measure => omega
          case rel => exact ⟨2, rfl, by omega, by omega, rfl⟩
        · go_wp2
          go_ret
          exact ⟨by rw [HE.out]; rfl, rfl⟩
    · have HE := Lib.hid (show v = b from by have := HVe.out; rw [if_neg (by simp [ha])] at this; omega)
      subst ha
      go_enter Try.func38, Try.ntmps38
      go_wp2
      go_loopg [8] 2 (fun kx s8 wr => ∃ k : Nat, s8 = .int .i64 k ∧ k ≤ 1 ∧ 2 - k ≤ kx ∧ w = wr)
      case atStart => exact ⟨0, rfl, by omega, by omega, rfl⟩
      case round =>
        obtain ⟨k, rfl, hk, hkx, rfl⟩ := hrel
        rcases (by omega : k = 0 ∨ k = 1) with rfl | rfl
        · go_wp2
          go_roundg 1
          case measure => omega
          case rel => exact ⟨1, rfl, by omega, by omega, rfl⟩
        · go_wp2
          go_ret
          exact ⟨by rw [HE.out]; rfl, rfl⟩
  · have HE := Lib.hid (show v = a from by have := HVe.out; rw [if_pos ha] at this; omega)
    go_enter Try.func38, Try.ntmps38
    go_wp2
    go_loopg [8] 2 (fun kx s8 wr => s8 = .int .i64 0 ∧ w = wr)
    case atStart => exact ⟨rfl, rfl⟩
    case round =>
      obtain ⟨rfl, rfl⟩ := hrel
      go_wp2
      go_ret
      exact ⟨by rw [HE.out]; rfl, rfl⟩

/-- What the question leans on. -/
structure AgS (gb B o a b : Nat) (v : Value) (x y : Int) (w : World) : Prop where
  c0 : w.cell? ⟨gb, 0, none⟩ = some v
  c1 : w.cell? ⟨B, o + a, none⟩ = some (.int .i64 x)
  c2 : w.cell? ⟨B, o + b, none⟩ = some (.int .i64 y)
set_option maxHeartbeats 3200000 in
set_option maxRecDepth 100000 in
theorem Orages1_any (gb : Nat) (B : Option Addr) (nb cB : Nat) (by' : List Int) (a b : Nat) (hb : by'.length = nb) (ha : a < nb) (hb2 : b < nb) (w : World) (hc : w.cell? ⟨gb, 0, none⟩ = some (.slice B nb cB)) (hl : Lies w B (zC by')) :
    Calls Try.prog 37 #[.int .i64 (a : Nat), .int .i64 (b : Nat), .pointer (some ⟨gb, 0, none⟩)] w fun e w' => e = .returned (.int .i64 (ageV (fun n => by'.getD n 0) a b)) ∧ Fr (fun _ => False) w w' := by
  obtain ⟨bb, o, rfl, hca⟩ := lies_int hl (Fr.refl _ w) a (by omega)
  obtain ⟨bb2, o2, hB2, hcb⟩ := lies_int hl (Fr.refl _ w) b (by omega)
  injection hB2 with hB2
  injection hB2 with e1 e2
  subst e1; subst e2
  have HV : Hid (ageV (fun n => by'.getD n 0) a b = if cmpV (by'.getD a 0) (by'.getD b 0) ≠ 0 then cmpV (by'.getD a 0) (by'.getD b 0) else cmpV (a : Nat) (b : Nat)) := Lib.hid rfl
  obtain ⟨v, hv⟩ : ∃ v, ageV (fun n => by'.getD n 0) a b = v := ⟨_, rfl⟩
  rw [hv] at HV ⊢
  obtain ⟨x, hx⟩ : ∃ x, by'.getD a 0 = x := ⟨_, rfl⟩
  obtain ⟨y, hy⟩ : ∃ y, by'.getD b 0 = y := ⟨_, rfl⟩
  rw [hx] at hca HV
  rw [hy] at hcb HV
  have HC1 := Lib.hid (fun w1 => GnCompare_any x y w1)
  have HC2 := Lib.hid (fun w1 => GnCompare_any (a : Nat) (b : Nat) w1)
  obtain ⟨p, hp⟩ : ∃ p, cmpV x y = p := ⟨_, rfl⟩
  obtain ⟨q, hq⟩ : ∃ q, cmpV (a : Nat) (b : Nat) = q := ⟨_, rfl⟩
  rw [hp] at HC1 HV
  rw [hq] at HC2 HV
  have haz : (a : Int) < nb := by omega
  have hbz : (b : Int) < nb := by omega
  have ha0 : (0 : Int) ≤ (a : Int) := by omega
  have hb0 : (0 : Int) ≤ (b : Int) := by omega
  clear hx hy hp hq hv hl hb ha hb2
  go_enter Try.func37, Try.ntmps37
  have HC0 := Lib.hid (show AgS gb bb o a b (.slice (some ⟨bb, o, none⟩) nb cB) x y w from ⟨hc, hca, hcb⟩)
  clear hc hca hcb
  go_upto_region 1 with fail
  refine wp_region_held (S := AgS gb bb o a b (.slice (some ⟨bb, o, none⟩) nb cB) x y) (by kernel_rfl) ?_
  change wpAnyH _ _ _ _ _ _ _ _ (World.drew w)
  have HFc := Lib.hid (show Fr (fun _ => False) w w.drew from (Fr.refl _ w).drew)
  have HSq := Lib.hid (show AgS gb bb o a b (.slice (some ⟨bb, o, none⟩) nb cB) x y w.drew from ⟨HFc.out.cell HC0.out.c0 (fun e => e), HFc.out.cell HC0.out.c1 (fun e => e), HFc.out.cell HC0.out.c2 (fun e => e)⟩)
  obtain ⟨wc, hwc⟩ : ∃ wc, w.drew = wc := ⟨_, rfl⟩
  rw [hwc] at HFc HSq ⊢
  clear hwc
  (
    refine wpAnyH_takeM (i := 0) (v := .slice (some ⟨bb, o, none⟩) nb cB) 6 rfl rfl (by kernel_rfl) (by kernel_rfl) (by kernel_rfl) (fun _ _ _ h => h) (.inl ⟨by rfl, ?_⟩) HSq.out ?_
    · intro wq hq
      obtain ⟨k0, k1, k2⟩ := hq
      go_simp)
  (
    refine wpAnyH_takeM (i := 1) (v := .int .i64 (a : Nat)) 7 rfl rfl (by kernel_rfl) (by kernel_rfl) (by kernel_rfl) (fun _ _ _ h => h) (.inl ⟨by rfl, ?_⟩) HSq.out ?_
    · intro wq hq
      obtain ⟨k0, k1, k2⟩ := hq
      go_simp)
  (
    refine wpAnyH_takeM (i := 2) (v := .pointer (some ⟨bb, o + a, none⟩)) 8 rfl rfl (by kernel_rfl) (by kernel_rfl) (by kernel_rfl) (fun _ _ _ h => h) (.inl ⟨by rfl, ?_⟩) HSq.out ?_
    · intro wq hq
      obtain ⟨k0, k1, k2⟩ := hq
      go_simp)
  (
    refine wpAnyH_takeM (i := 3) (v := .int .i64 x) 9 rfl rfl (by kernel_rfl) (by kernel_rfl) (by kernel_rfl) (fun _ _ _ h => h) (.inl ⟨by rfl, ?_⟩) HSq.out ?_
    · intro wq hq
      obtain ⟨k0, k1, k2⟩ := hq
      go_simp)
  (
    refine wpAnyH_takeM (i := 4) (v := .slice (some ⟨bb, o, none⟩) nb cB) 10 rfl rfl (by kernel_rfl) (by kernel_rfl) (by kernel_rfl) (fun _ _ _ h => h) (.inl ⟨by rfl, ?_⟩) HSq.out ?_
    · intro wq hq
      obtain ⟨k0, k1, k2⟩ := hq
      go_simp)
  (
    refine wpAnyH_takeM (i := 5) (v := .int .i64 (b : Nat)) 11 rfl rfl (by kernel_rfl) (by kernel_rfl) (by kernel_rfl) (fun _ _ _ h => h) (.inl ⟨by rfl, ?_⟩) HSq.out ?_
    · intro wq hq
      obtain ⟨k0, k1, k2⟩ := hq
      go_simp)
  (
    refine wpAnyH_takeM (i := 6) (v := .pointer (some ⟨bb, o + b, none⟩)) 12 rfl rfl (by kernel_rfl) (by kernel_rfl) (by kernel_rfl) (fun _ _ _ h => h) (.inl ⟨by rfl, ?_⟩) HSq.out ?_
    · intro wq hq
      obtain ⟨k0, k1, k2⟩ := hq
      go_simp)
  (
    refine wpAnyH_takeM (i := 7) (v := .int .i64 y) 13 rfl rfl (by kernel_rfl) (by kernel_rfl) (by kernel_rfl) (fun _ _ _ h => h) (.inl ⟨by rfl, ?_⟩) HSq.out ?_
    · intro wq hq
      obtain ⟨k0, k1, k2⟩ := hq
      go_simp)
  (
    refine wpAnyH_takeM (i := 9) (v := .int .i64 (a : Nat)) 15 rfl rfl (by kernel_rfl) (by kernel_rfl) (by kernel_rfl) (fun _ _ _ h => h) (.inl ⟨by rfl, ?_⟩) HSq.out ?_
    · intro wq hq
      obtain ⟨k0, k1, k2⟩ := hq
      go_simp)
  (
    refine wpAnyH_takeM (i := 10) (v := .int .i64 (b : Nat)) 16 rfl rfl (by kernel_rfl) (by kernel_rfl) (by kernel_rfl) (fun _ _ _ h => h) (.inl ⟨by rfl, ?_⟩) HSq.out ?_
    · intro wq hq
      obtain ⟨k0, k1, k2⟩ := hq
      go_simp)
  (
    try simp only [List.setIfInBounds_toArray, List.set_cons_succ, List.set_cons_zero]
    refine wpAnyH_all (rs := [8]) (by kernel_rfl) (by simp) ?_
    intro i hi
    simp only [List.mem_cons, List.not_mem_nil, or_false] at hi
    subst hi)
  refine wpOp_step rfl (fun K hK => ?_)
  go_simp
  go_wp2_with (go_at_call 39; refine (HC1.out _).mono ?_; rintro e w1 ⟨rfl, rfl⟩)
  refine ⟨HSq.out, ?_⟩
  (
    try simp only [List.setIfInBounds_toArray, List.set_cons_succ, List.set_cons_zero]
    refine wpAnyH_all (rs := [11]) (by kernel_rfl) (by simp) ?_
    intro i hi
    simp only [List.mem_cons, List.not_mem_nil, or_false] at hi
    subst hi)
  refine wpOp_step rfl (fun K hK => ?_)
  go_simp
  go_wp2_with (go_at_call 39; refine (HC2.out _).mono ?_; rintro e w1 ⟨rfl, rfl⟩)
  refine ⟨HSq.out, ?_⟩
  (
    try simp only [List.setIfInBounds_toArray, List.set_cons_succ, List.set_cons_zero]
    refine wpAnyH_all (rs := [12]) (by kernel_rfl) (by simp) ?_
    intro i hi
    simp only [List.mem_cons, List.not_mem_nil, or_false] at hi
    subst hi)
  refine wpOp_step rfl (fun K hK => ?_)
  go_simp
  refine hK _ _ ?_
  obtain ⟨w2, hw2⟩ : ∃ w2, wc.alloc (.cells #[.int .i64 p, .int .i64 q] 3) = w2 := ⟨_, rfl⟩
  have HW2 := Lib.hid (show Whole w2 wc.heap.size 3 #[.int .i64 p, .int .i64 q] from by subst hw2; exact Whole.new wc 3 _)
  have HF2 := Lib.hid (show Fr (fun _ => False) wc w2 from by subst hw2; exact (Fr.refl _ wc).alloc _)
  have HS2 := Lib.hid (show AgS gb bb o a b (.slice (some ⟨bb, o, none⟩) nb cB) x y w2 from ⟨HF2.out.cell HSq.out.c0 (fun e => e), HF2.out.cell HSq.out.c1 (fun e => e), HF2.out.cell HSq.out.c2 (fun e => e)⟩)
  have HOr := Lib.hid (GnOr_any wc.heap.size p q w2 HW2.out)
  rw [hw2]
  obtain ⟨g2, hg2⟩ : ∃ g2, wc.heap.size = g2 := ⟨_, rfl⟩
  rw [hg2] at HOr ⊢
  have HVe : Hid (v = if p ≠ 0 then p else q) := HV
  rw [← HVe.out] at HOr
  clear hw2 hg2 HVe HV
  refine ⟨HS2.out, ?_⟩
  (
    try simp only [List.setIfInBounds_toArray, List.set_cons_succ, List.set_cons_zero]
    refine wpAnyH_all (rs := [13]) (by kernel_rfl) (by simp) ?_
    intro i hi
    simp only [List.mem_cons, List.not_mem_nil, or_false] at hi
    subst hi)
  refine wpOp_step rfl (fun K hK => ?_)
  go_simp
  go_wp2_with (go_at_call 38; refine HOr.out.mono ?_; rintro e w3 ⟨rfl, rfl⟩)
  refine ⟨HS2.out, ?_⟩
  (
    try simp only [List.setIfInBounds_toArray, List.set_cons_succ, List.set_cons_zero]
    refine wpAnyH_all (rs := [14]) (by kernel_rfl) (by simp) ?_
    intro i hi
    simp only [List.mem_cons, List.not_mem_nil, or_false] at hi
    subst hi)
  refine wpOp_step rfl (fun K hK => ?_)
  go_simp
  refine hK _ _ ?_
  refine ⟨HS2.out, ?_⟩
  refine wpAnyH_done (by kernel_rfl) ?_ _
  go_wp2
  go_ret
  exact ⟨rfl, HFc.out.trans HF2.out (fun _ _ e => e)⟩
end Go.Proofs.Ytpaigmmpihcdaaa

/- What is proved: an index's ids as a list of their own, by the program. Conditions: its cells are there. -/
import Derived.Test.YtgbhdjncccmabaaGreatDoorIxn
namespace Go.Proofs.YtgbhdjncccmabaaGreatDoor
open Go.RowKit
set_option linter.unusedVariables false

def IdsPost (w : World) (l : List Nat) (e : Ending) (w' : World) : Prop := ∃ G, e = .returned (.slice (some ⟨G, 0, none⟩) l.length l.length) ∧ Whole w' G 24 (flatI l).toArray ∧ w.heap.size ≤ G ∧ Fr (fun _ => False) w w'
theorem laid_key (n : Nat) (f : Nat → Nat) (k : Nat) (h : k < n) : laidAt (flatI (keyL n (upto f k))).toArray (k * 32) (idC (dgt (f k))) = (flatI (keyL n (upto f (k + 1)))).toArray := by
  have := keyL_splice n (upto f k) (upto f (k + 1)) k h (idL (f k)) (idL_len _) (fun i _ hi => upto_other _ _ _ hi) (by rw [upto_at])
  unfold splice at this
  unfold laidAt
  congr 1
  rw [← this, idL_cells, idC_size, bytesV_length, idL_len, List.append_assoc]
theorem keyL_all (n : Nat) (f : Nat → Nat) : keyL n (upto f n) = keyL n f := List.map_congr_left (fun c hc => by unfold upto; rw [if_pos (List.mem_range.1 hc)])

set_option maxHeartbeats 3200000 in
set_option maxRecDepth 100000 in
theorem Iids_nil (w : World) : Calls Tryz.prog 26 #[.pointer none] w (IdsPost w []) := by
  unfold IdsPost
  obtain ⟨i0, hi, hz0, hz1, hz2⟩ := info_parts infoIDs
  have HLN := Lib.hid (fun w => ILen_nil w)
  go_enter Tryz.func26, Tryz.ntmps26
  go_upto_region 2 with (first
    | (go_at_call 16; refine (HLN.out _).mono ?_; rintro e w' ⟨rfl, rfl⟩)
    | (at_make; refine wpList_make_full _ rfl _ _ 51 rfl w.heap.size 24 i0 (.agg zero32) 32 Tryz.underlying51 hi hz0 hz1 .i64 .i64 _ _ 0 rfl rfl rfl rfl (by omega) (by unfold maxLen; omega) (Nat.le_refl _) ?_; intro w1 ho1 hg1; rw [madeID] at ho1; have HW1 := Lib.hid (own_whole ho1).1; have HF1 := Lib.hid (show Fr (fun _ => False) w w1 from (Fr.refl _ w).grown hg1 (fun _ e => by cases e)); clear ho1 hg1))
  go_wp2_with fail
  refine wp_loop_rounds 1 ?_
  rw [rounds_succ]
  go_wp2_with fail
  go_ret
  exact ⟨_, rfl, HW1.out, Nat.le_refl _, HF1.out⟩

set_option maxHeartbeats 3200000 in
set_option maxRecDepth 100000 in
theorem Iids_any (X n : Nat) (A1 A2 A3 : Option Addr) (c1 c2 c3 : Nat) (f ks ss ts : Nat → Nat) (of : Nat) (hn : n ≤ 1000) (w : World) (h : IX w X n A1 c1 A2 c2 A3 c3 f ks ss ts of) :
    Calls Tryz.prog 26 #[.pointer (some ⟨X, 0, none⟩)] w (IdsPost w (keyL n ks)) := by
  unfold IdsPost
  obtain ⟨i0, hi, hz0, hz1, hz2⟩ := info_parts infoIDs
  have HX := Lib.hid h
  have HLN := Lib.hid (ILen_any X n A1 A2 A3 c1 c2 c3 f ks ss ts of w h)
  have HKL := Lib.hid (keyL_len n ks)
  rw [HKL.out]
  obtain ⟨T32, hT32⟩ : ∃ T : TypeId, T = 90 := ⟨_, rfl⟩
  obtain ⟨n32, hn32⟩ : ∃ n : Nat, n = 32 := ⟨_, rfl⟩
  have ag32 : ∀ w, (isAgg T32).run Tryz.prog w = .ok true w := by rw [hT32]; exact fun _ => by kernel_rfl
  have sz32 : ∀ w, (sizeOf T32).run Tryz.prog w = .ok n32 w := by rw [hT32, hn32]; exact fun _ => by kernel_rfl
  have HN32 := Lib.hid hn32
  clear h hn32
  go_enter Tryz.func26, Tryz.ntmps26
  rw [show Op.load 90 (.tmp 20) = Op.load T32 (.tmp 20) by rw [hT32]]
  clear hT32
  go_upto_region 2 with (first
    | (go_at_call 16; refine HLN.out.mono ?_; rintro e w' ⟨rfl, rfl⟩)
    | (at_make; refine wpList_make_full _ rfl _ _ 51 rfl w.heap.size 24 i0 (.agg zero32) 32 Tryz.underlying51 hi hz0 hz1 .i64 .i64 _ _ n rfl rfl rfl rfl (by rw [hz2]; omega) (by unfold maxLen; omega) (Nat.le_refl _) ?_; intro w1 ho1 hg1; have HW1 := Lib.hid (own_whole ho1).1; have HF1 := Lib.hid (show Fr (fun _ => False) w w1 from (Fr.refl _ w).grown hg1 (fun _ e => by cases e)); clear ho1 hg1))
  have HW2 : Hid (Whole w1 w.heap.size 24 (flatI (keyL n (upto ks 0))).toArray) := Lib.hid (by
    rw [upto_zero, ← zeroK_key]
    have := HW1.out
    rwa [Array.toArray_toList] at this)
  obtain ⟨G, hG⟩ : ∃ G, w.heap.size = G := ⟨_, rfl⟩
  try rw [hG]
  rw [hG] at HW2
  have HG := Lib.hid hG
  clear hG
  go_wp2_with fail
  go_loopg [10] n (fun kx s wr => ∃ k : Nat, s = .int .i64 k ∧ k ≤ n ∧ n - k ≤ kx ∧ Hid (Whole wr G 24 (flatI (keyL n (upto ks k))).toArray) ∧ Hid (Fr (fun j => j = G) w1 wr))
  case atStart => exact ⟨0, rfl, by omega, by omega, HW2, Lib.hid (Fr.refl _ _)⟩
  case round =>
    obtain ⟨k, rfl, hk, hkx, HGk, HFr⟩ := hrel
    obtain ⟨wo, rfl⟩ : ∃ wo, wo = wr := ⟨wr, rfl⟩
    have wk := wrap_nat k (by omega)
    by_cases hlt : k < n
    · have hltz : (k : Int) < n := by omega
      have hxc : Whole wo X 76 (idxC (fanC f) (.slice A1 n c1) (.slice A2 n c2) (.slice A3 n c3) (idC (dgt of))) := (HX.out.x.fr HF1.out (fun e => e)).fr HFr.out (fun e => by have := HX.out.x.lt; have := HG.out; omega)
      have x1 : wo.cell? ⟨X, 256, none⟩ = some (.slice A1 n c1) := by rw [hxc.cell]; exact idxC_mid _ _ _ _ _ 0 (by decide)
      obtain ⟨b, o, hB⟩ := HX.out.k.some_of (by rw [keyL_len]; omega)
      subst hB
      have l1 : (loadCellsFrom ⟨b, o + k * 32, none⟩ 0 n32 #[]).run Tryz.prog wo = .ok (idC (dgt (ks k))) wo := by
        rw [HN32.out]
        have := load_at ((HX.out.k.fr HF1.out (fun _ _ e => e)).fr HFr.out (fun ad e1 e2 => by have := lies_below HX.out.k (by rw [flatI_len, keyL_len]; omega) e1; have := HG.out; omega)) (gt_some (keyL n ks) k (by rw [keyL_len]; exact hlt)) (Fr.refl _ wo)
        rwa [keyL_gt n ks k hlt] at this
      have HJk := Lib.hid (laid_key n ks k hlt)
      have HCS := Lib.hid (idC_size (dgt (ks k)))
      have HCO := Lib.hid (idC_one (dgt (ks k)))
      obtain ⟨ca, hca⟩ : ∃ c, idC (dgt (ks k)) = c := ⟨_, rfl⟩
      rw [hca] at l1 HCS HCO HJk
      clear hca hxc
      go_wp2_with (refine wpList_store_at rfl 24 _ _ rfl G (k * 32) 24 _ ca rfl rfl HGk.out (by rw [HCS.out, List.size_toArray, flatI_len, keyL_len]; omega) (by rw [HCS.out]; exact size_IDs) HCO.out ?_; intro w4 hw4 hf4; rw [HJk.out] at hw4; have HG4 := Lib.hid hw4; have HF4 := Lib.hid (HFr.out.trans hf4 (fun _ _ e => e)); clear hw4 hf4)
      go_roundg (n - (k + 1))
      case measure => omega
      case rel => exact ⟨k + 1, by go_num, by omega, Nat.le_refl _, HG4, HF4⟩
    · have hltz : ¬ ((k : Int) < n) := by omega
      obtain rfl : n = k := by omega
      go_wp2_with fail
      go_ret
      have := HGk.out
      rw [keyL_all] at this
      exact ⟨G, rfl, this, Nat.le_of_eq HG.out, HF1.out.trans HFr.out (fun i hi e => by have := HG.out; omega)⟩
end Go.Proofs.YtgbhdjncccmabaaGreatDoor

/- What is proved: what the walks of this seat need of layers below, merged out of the texts Shq (of each just what is needed). Conditions: each theorem names its own. -/
import Derived.Deep.RegionLaw
import Derived.Test.YtgbhdjncccmabaaGreatDoorBpb
set_option maxRecDepth 100000
/- What is proved: the document's own constants, start, and block. Conditions: 64 bytes, where they lie. -/
namespace Go.Proofs.YtgbhdjncccmabaaGreatDoor
open Go.RowKit
set_option linter.unusedVariables false
theorem QStart_any (w : World) : Calls Tryz.prog 53 #[] w fun e w' => e = .returned (.agg S8.start.vals) ∧ Below w.heap.size w w' := by
  have hW := Whole.new w 111 S8.zero.vals
  have hF : Fr (fun _ => False) w (w.alloc (.cells S8.zero.vals 111)) := (Fr.refl _ w).alloc _
  have HW := Lib.hid hW
  have HF := Lib.hid hF
  clear hW hF
  go_enter Tryz.func53, Tryz.ntmps53
  go_wp2_with (refine wpList_store_at rfl 111 _ _ rfl w.heap.size 0 111 _ S8.start.vals rfl rfl HW.out (show 0 + 8 ≤ 8 from Nat.le_refl 8) size8 (S8.one _) ?_; intro w2 hw2 hf2)
  replace hw2 := S8.laid hw2
  refine bodyPost_ret (v := .agg S8.start.vals) (results_cell_row (p := 0) rfl _ _ _ _ _ _ _ rfl hw2 Tryz.underlying111 rfl size8) rfl ?_
  exact ⟨rfl, (HF.out.trans hf2 (fun i hi e => by omega)).below (fun _ _ e => e)⟩
theorem QConst_any (w : World) : Calls Tryz.prog 81 #[] w fun e w' => e = .returned (.slice (some ⟨w.heap.size, 0, none⟩) 64 64) ∧ w' = w.alloc (.cells (padNums kt 64) 41) := by
  go_enter Tryz.func81, Tryz.ntmps81
  go_wp2
  go_ret
  exact ⟨rfl, rfl⟩
theorem Qright_i (x N : Int) (h1 : 1 ≤ N) (h2 : N < 32) (w : World) : Calls Tryz.prog 82 #[.int .u32 x, .int .u64 N] w fun e w' => e = .returned (.int .u32 (rotR x N.toNat)) ∧ w = w' := by
  have h := Qright_any x N.toNat (by omega) (by omega) w
  rw [Int.toNat_of_nonneg (by omega)] at h
  exact h
theorem Qright_q (x N : Int) (h1 : 1 ≤ N) (h2 : N < 32) (w : World) : Calls Tryz.prog 82 #[.int .u32 x, .int .u64 N] w fun e w' => e = .returned (.int .u32 (rotR x N.toNat)) ∧ w' = w :=
  (Qright_i x N h1 h2 w).mono fun _ _ h => ⟨h.1, h.2.symm⟩
end Go.Proofs.YtgbhdjncccmabaaGreatDoor

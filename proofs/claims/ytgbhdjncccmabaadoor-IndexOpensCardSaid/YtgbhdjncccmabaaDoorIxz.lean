/- What is proved: what the condition on the table of the sums' constants gives; that the program's own start meets it. Conditions: none. -/
import Derived.Test.YtgbhdjncccmabaaDoorBra
import Derived.Test.YtgbhdjncccmabaaDoorOy
import Derived.Test.YtgbhdjncccmabaaDoorRows
import Derived.LaidMore
import Derived.Lib.LaidTab
import Derived.Stop.Joined
import Derived.SizedLaws
namespace Go.Proofs.YtgbhdjncccmabaaDoor
open Go.ChangeShapes Go.WideShapes Go.ChangeAt Go.RowKit
set_option linter.unusedVariables false

theorem gK : Tryd.prog.globalNamed "sleuth/sha.k" = some 1 := by kernel_rfl
theorem tK : (Tryd.prog.globals[1]?).map (·.type) = some 163 := by kernel_rfl
theorem cells64 : Tryd.prog.cellsOf 163 = 64 := by kernel_rfl
theorem cells1 : Tryd.prog.cellsOf 47 = 1 := by kernel_rfl
theorem laid_eq : (Rows.laid_sleuth_sha_k : DataW Unit) = Lib.tabData .u32 kt := rfl
/-- What the condition gives: the table. -/
theorem tab_of_laid {W : World} (h : laidMetH Tryd.prog [("sleuth/sha.k", Rows.laid_sleuth_sha_k)] W) : Tab W := by
  rw [MakeChecks.laidMetH_plain _ _ _ (by kernel_rfl), laid_eq] at h
  have ht := Lib.tabIs_of_head gK tK Tryd.underlying163 Tryd.underlying47 cells1 cells64 h
  intro i hi
  exact ht.cell gK i hi
set_option maxRecDepth 100000 in
/-- The door's own heap meets the condition. -/
theorem door_met (os : Os) (args : Array Value) : laidMetH Tryd.prog [("sleuth/sha.k", Rows.laid_sleuth_sha_k)] ((World.doorLaid Tryd.prog 400 os).forCall (fun _ _ => 0) ⟨#[], args, []⟩).memory :=
  laidMetH_of_parts3 (fuel := 8) (laidMet_of_run' 8 (by kernel_rfl) (by kernel_rfl)) (by kernel_rfl) (by kernel_rfl)
end Go.Proofs.YtgbhdjncccmabaaDoor

/- What is proved: a start that meets the condition of the row ObjectNames on the four listed tables; what that condition gives. Conditions: none. -/
import Derived.Test.YtnnafiajfapenaaGreatDoorObo
import Derived.Test.YtnnafiajfapenaaGreatDoorBpa
namespace Go.Proofs.YtnnafiajfapenaaGreatDoor
open Go.ChangeShapes Go.WideShapes Go.ChangeAt Go.RowKit Go.Deep
set_option linter.unusedVariables false

def laid8k : List (String × DataW Unit) := [("math/bits.deBruijn32tab", Rows.laid_math_bits_deBruijn32tab), ("math/bits.deBruijn64tab", Rows.laid_math_bits_deBruijn64tab), ("internal/strconv.uint64pow10", Rows.laid_internal_strconv_uint64pow10), ("sleuth/sha.k", Rows.laid_sleuth_sha_k)]
set_option maxRecDepth 100000 in
theorem start_shapedk (os : Os) : (World.laidAll Tryz.prog os laid8k).Shaped Tryz.prog := World.shaped_of_ZipB (by kernel_rfl) (by kernel_rfl)
theorem tab10_of_laidk {W : World} (h : laidMetH Tryz.prog laid8k W) : Tab10 W := by
  rw [MakeChecks.laidMetH_plain _ _ _ (by kernel_rfl)] at h
  have h2 := h.tail.tail
  rw [pow_eq] at h2
  exact Lib.tabIs_of_head gPow tPow Tryz.underlying178 Tryz.underlying81 cells_u64 cells20 h2
theorem gKn : Tryz.prog.globalNamed "sleuth/sha.k" = some 1 := by kernel_rfl
theorem tKn : (Tryz.prog.globals[1]?).map (·.type) = some 149 := by kernel_rfl
theorem cells64 : Tryz.prog.cellsOf 149 = 64 := by kernel_rfl
theorem cells1 : Tryz.prog.cellsOf 82 = 1 := by kernel_rfl
theorem laidk_eq : (Rows.laid_sleuth_sha_k : DataW Unit) = Lib.tabData .u32 kt := by kernel_rfl
/-- What the condition gives: the table of constants. -/
theorem tab_of_laidk {W : World} (h : laidMetH Tryz.prog laid8k W) : Tab W := by
  rw [MakeChecks.laidMetH_plain _ _ _ (by kernel_rfl)] at h
  have h2 := h.tail.tail.tail
  rw [laidk_eq] at h2
  have ht := Lib.tabIs_of_head gKn tKn Tryz.underlying149 Tryz.underlying82 cells1 cells64 h2
  intro i hi
  exact ht.cell gKn i hi
end Go.Proofs.YtnnafiajfapenaaGreatDoor

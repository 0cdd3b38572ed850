/- What is proved: closed facts of the program that each statement's ending names. Conditions: none. -/
import Derived.Test.YtfdindkagddjbaaRows
import Derived.Test.YtfdindkagddjbaaAr2
namespace Go.Proofs.Ytfdindkagddjbaa
open Go.ChangeShapes Go.WideShapes Go.ChangeAt Go.RowKit
theorem own_knob : ownKnob Try.prog.godebug = none := by kernel_rfl
theorem laidOut : laidOutB Try.prog = true := by kernel_rfl
theorem bytes_u8 : Try.prog.bytesOf 5 = 1 := by kernel_rfl
end Go.Proofs.Ytfdindkagddjbaa

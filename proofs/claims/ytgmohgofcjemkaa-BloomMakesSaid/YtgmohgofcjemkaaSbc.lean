/- What is proved: the program's own copy of the library's count of bits is the one that the library's contract speaks of (the numbers of this program laid beside those). Conditions: none. Written by the kit's command for such tables (lay-plain), for one laying. -/
import Derived.Shelf.Small.Bits
import Derived.Test.YtgmohgofcjemkaaProg
namespace Go.Proofs.Ytgmohgofcjemkaa
open Go.Shelf
def bits8_ren : Go.Shelf.Ren := ⟨fun | 135 => 28 | n => n, fun | 5 => 5 | 3 => 3 | 9 => 9 | n => n, fun | n => n⟩
theorem bits8 : Go.Proofs.Lays.n135 Try.prog bits8_ren := {
  mixed := by kernel_rfl
  f135 := Try.func28.trans (congrArg some (by kernel_rfl))
  t3 := Try.underlying3
  a3 := Try.isAgg3
  z3 := Try.sizeOf3
  v3 := Try.zeroValue3
  t5 := Try.underlying5
  a5 := Try.isAgg5
  z5 := Try.sizeOf5
  v5 := Try.zeroValue5
  t9 := Try.underlying9
  a9 := Try.isAgg9
  z9 := Try.sizeOf9
  v9 := Try.zeroValue9 }
end Go.Proofs.Ytgmohgofcjemkaa

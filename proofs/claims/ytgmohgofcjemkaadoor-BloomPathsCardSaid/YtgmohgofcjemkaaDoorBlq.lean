/- What is proved: a start that meets the row's condition on the library's tables. Conditions: none. -/
import Derived.Test.YtgmohgofcjemkaaDoorBlo
import Derived.Test.YtgmohgofcjemkaaDoorRows
import Derived.Lay
import Derived.Stop.Joined
namespace Go.Proofs.YtgmohgofcjemkaaDoor
open Go.ChangeShapes Go.WideShapes Go.ChangeAt Go.RowKit Go.Deep
set_option linter.unusedVariables false

/-- What the rows list. -/
def laidAt5 : List (String × DataW Unit) := [("unicode/utf8.acceptRanges", Rows.laid_unicode_utf8_acceptRanges), ("unicode/utf8.first", Rows.laid_unicode_utf8_first)]
set_option maxRecDepth 100000 in
theorem start_shaped (os : Os) : (World.laidAll Tryd.prog os laidAt5).Shaped Tryd.prog := World.shaped_of_ZipB (by kernel_rfl) (by kernel_rfl)
end Go.Proofs.YtgmohgofcjemkaaDoor

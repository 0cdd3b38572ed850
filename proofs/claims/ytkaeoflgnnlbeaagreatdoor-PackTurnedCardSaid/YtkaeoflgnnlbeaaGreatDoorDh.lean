/- What is proved: what the walks of this seat need of layers below, merged out of the texts Ojb Ojc (of each just what is needed). Conditions: each theorem names its own. -/
import Derived.Test.YtkaeoflgnnlbeaaGreatDoorDb
import Derived.Test.YtkaeoflgnnlbeaaGreatDoorDas
set_option maxRecDepth 100000
/- What is proved: whether a list rises, by the program and by the document; where an id stands, by the document. Conditions: the list's cells are there. -/
namespace Go.Proofs.YtkaeoflgnnlbeaaGreatDoor
open Go.RowKit
set_option linter.unusedVariables false
theorem wrap_nat (k : Nat) (h : k ≤ 100000) : IntKind.i64.wrap (k : Int) = k := by rw [IntKind.wrap_i64]; omega
theorem wrap_nat1 (k : Nat) (h : k ≤ 100000) : IntKind.i64.wrap ((k : Int) + 1) = (k : Int) + 1 := by rw [IntKind.wrap_i64]; omega
theorem toNat_nat1 (k : Nat) : ((k : Int) + 1).toNat = k + 1 := by omega
theorem nonneg_nat1 (k : Nat) : (0 : Int) ≤ (k : Int) + 1 := by omega
end Go.Proofs.YtkaeoflgnnlbeaaGreatDoor

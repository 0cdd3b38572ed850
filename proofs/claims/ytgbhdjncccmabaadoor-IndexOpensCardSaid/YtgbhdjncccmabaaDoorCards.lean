/-
  DERIVED. GIVEN WITH THE SEED: THE CARDS: each row of YtgbhdjncccmabaaDoorRows.lean that lists a variable, with what it lists TIED to the program's text (the seventh form; the later family's looks); each row that meets fmt, with fmt's text TOLD by the authors' own Lean function (tested against real Go, not proved from fmt's source: count such statements apart). THE CARD IS WHAT COUNTS. Prove the row's statement (the work); the ties are given (YtgbhdjncccmabaaDoorTie.lean); close each card by the builder's one call (the guide's Derived/Test/ToyasCard.lean, 'card_holds'). Laid BY PROGRAM, IN A SANDBOX (cutbox-door.mjs). By AI agents, Wed Nov 11 2026. No macro, syntax, notation, axiom, sorry.
-/
import Derived.Test.YtgbhdjncccmabaaDoorRows
import GoSem.ClaimSeven
namespace Go.Proofs.YtgbhdjncccmabaaDoor
namespace Rows

/-- THE TIED CARD OF 'sleuthlaw11.IndexMakes'. -/
def indexMakesCard : Claim7 := { stood := { row := indexMakesRow, standIns := [], harness := (true, "acfaedaa05a717de31b8ecea042a42ab198a4d63e706879589d1dbdc9467af26"), looks := false }, kinds := [], alts := [], laidByText := true, laidKinds := [.data], laidTests := true, laidLooks := .later }
def IndexMakesCardSaid : Prop := Claim7.holds Tryd.pinned (.plain (OpenSpec.ofChange indexMakesSpec)) indexMakesCard

/-- THE TIED CARD OF 'sleuthlaw11.IndexOpens'. -/
def indexOpensCard : Claim7 := { stood := { row := indexOpensRow, standIns := [], harness := (true, "acfaedaa05a717de31b8ecea042a42ab198a4d63e706879589d1dbdc9467af26"), looks := false }, kinds := [], alts := [], laidByText := true, laidKinds := [.data], laidTests := true, laidLooks := .later }
def IndexOpensCardSaid : Prop := Claim7.holds Tryd.pinned (.plain (OpenSpec.ofChange indexOpensSpec)) indexOpensCard

/-- THE TIED CARD OF 'sleuthlaw11.IndexBack'. -/
def indexBackCard : Claim7 := { stood := { row := indexBackRow, standIns := [], harness := (true, "acfaedaa05a717de31b8ecea042a42ab198a4d63e706879589d1dbdc9467af26"), looks := false }, kinds := [], alts := [], laidByText := true, laidKinds := [.data], laidTests := true, laidLooks := .later }
def IndexBackCardSaid : Prop := Claim7.holds Tryd.pinned (.plain (OpenSpec.ofChange indexBackSpec)) indexBackCard

/-- THE TIED CARD OF 'sleuthlaw11.IndexNone'. -/
def indexNoneCard : Claim7 := { stood := { row := indexNoneRow, standIns := [], harness := (true, "acfaedaa05a717de31b8ecea042a42ab198a4d63e706879589d1dbdc9467af26"), looks := false }, kinds := [], alts := [], laidByText := true, laidKinds := [.data], laidTests := true, laidLooks := .later }
def IndexNoneCardSaid : Prop := Claim7.holds Tryd.pinned (.plain (OpenSpec.ofChange indexNoneSpec)) indexNoneCard

/-- THE SECOND FORM's CARD OF 'sleuthlaw11.IndexMakes'. -/
def indexMakesUptoCard : Claim7 := { stood := { row := indexMakesUptoRow, standIns := [], harness := (true, "acfaedaa05a717de31b8ecea042a42ab198a4d63e706879589d1dbdc9467af26"), looks := false }, kinds := [], alts := [], laidByText := true, laidKinds := [.data], laidTests := true, laidLooks := .later }
def IndexMakesUptoCardSaid : Prop := Claim7.holds Tryd.pinned (.plain (OpenSpec.upto indexMakesSpec)) indexMakesUptoCard

/-- THE SECOND FORM's CARD OF 'sleuthlaw11.IndexOpens'. -/
def indexOpensUptoCard : Claim7 := { stood := { row := indexOpensUptoRow, standIns := [], harness := (true, "acfaedaa05a717de31b8ecea042a42ab198a4d63e706879589d1dbdc9467af26"), looks := false }, kinds := [], alts := [], laidByText := true, laidKinds := [.data], laidTests := true, laidLooks := .later }
def IndexOpensUptoCardSaid : Prop := Claim7.holds Tryd.pinned (.plain (OpenSpec.upto indexOpensSpec)) indexOpensUptoCard

/-- THE SECOND FORM's CARD OF 'sleuthlaw11.IndexBack'. -/
def indexBackUptoCard : Claim7 := { stood := { row := indexBackUptoRow, standIns := [], harness := (true, "acfaedaa05a717de31b8ecea042a42ab198a4d63e706879589d1dbdc9467af26"), looks := false }, kinds := [], alts := [], laidByText := true, laidKinds := [.data], laidTests := true, laidLooks := .later }
def IndexBackUptoCardSaid : Prop := Claim7.holds Tryd.pinned (.plain (OpenSpec.upto indexBackSpec)) indexBackUptoCard

/-- THE SECOND FORM's CARD OF 'sleuthlaw11.IndexNone'. -/
def indexNoneUptoCard : Claim7 := { stood := { row := indexNoneUptoRow, standIns := [], harness := (true, "acfaedaa05a717de31b8ecea042a42ab198a4d63e706879589d1dbdc9467af26"), looks := false }, kinds := [], alts := [], laidByText := true, laidKinds := [.data], laidTests := true, laidLooks := .later }
def IndexNoneUptoCardSaid : Prop := Claim7.holds Tryd.pinned (.plain (OpenSpec.upto indexNoneSpec)) indexNoneUptoCard
end Rows
end Go.Proofs.YtgbhdjncccmabaaDoor

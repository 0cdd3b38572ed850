/-
  DERIVED. GIVEN WITH THE SEED: THE CARDS: each row of YtnnafiajfapenaaGreatDoorRows.lean that lists a variable, with what it lists TIED to the program's text (the seventh form; the later family's looks); each row that meets fmt, with fmt's text TOLD by the authors' own Lean function (tested against real Go, not proved from fmt's source: count such statements apart). THE CARD IS WHAT COUNTS. Prove the row's statement (the work); the ties are given (YtnnafiajfapenaaGreatDoorTie.lean); close each card by the builder's one call (the guide's Derived/Test/ToyasCard.lean, 'card_holds'). Laid BY PROGRAM, IN A SANDBOX (cutbox-door.mjs). By AI agents, Wed Nov 11 2026. No macro, syntax, notation, axiom, sorry.
-/
import Derived.Test.YtnnafiajfapenaaGreatDoorRows
import GoSem.ClaimSeven
namespace Go.Proofs.YtnnafiajfapenaaGreatDoor
namespace Rows

/-- THE TIED CARD OF 'sleuthlaw08.ObjectBytes'. -/
def objectBytesCard : Claim7 := { stood := { row := objectBytesRow, standIns := [], harness := (true, "fe51ec411aecdbef457ae9d2b1be3cb8ca8134898d309609529fcc2acf0887bc"), looks := true }, kinds := [], alts := [], laidByText := true, laidKinds := [.data, .data, .data], laidTests := true, laidLooks := .later }
def ObjectBytesCardSaid : Prop := Claim7.holds Tryz.pinned (.plain (OpenSpec.ofChange objectBytesSpec)) objectBytesCard

/-- THE TIED CARD OF 'sleuthlaw08.ObjectSplits'. -/
def objectSplitsCard : Claim7 := { stood := { row := objectSplitsRow, standIns := [], harness := (true, "fe51ec411aecdbef457ae9d2b1be3cb8ca8134898d309609529fcc2acf0887bc"), looks := true }, kinds := [], alts := [], laidByText := true, laidKinds := [.data, .data, .data], laidTests := true, laidLooks := .later }
def ObjectSplitsCardSaid : Prop := Claim7.holds Tryz.pinned (.plain (OpenSpec.ofChange objectSplitsSpec)) objectSplitsCard

/-- THE TIED CARD OF 'sleuthlaw08.ObjectNames'. -/
def objectNamesCard : Claim7 := { stood := { row := objectNamesRow, standIns := [], harness := (true, "fe51ec411aecdbef457ae9d2b1be3cb8ca8134898d309609529fcc2acf0887bc"), looks := true }, kinds := [], alts := [], laidByText := true, laidKinds := [.data, .data, .data, .data], laidTests := true, laidLooks := .later }
def ObjectNamesCardSaid : Prop := Claim7.holds Tryz.pinned (.plain (OpenSpec.ofChange objectNamesSpec)) objectNamesCard

/-- THE TIED CARD OF 'sleuthlaw08.ObjectLinks'. -/
def objectLinksCard : Claim7 := { stood := { row := objectLinksRow, standIns := [], harness := (true, "fe51ec411aecdbef457ae9d2b1be3cb8ca8134898d309609529fcc2acf0887bc"), looks := true }, kinds := [], alts := [], laidByText := true, laidKinds := [.data, .data, .data], laidTests := true, laidLooks := .later }
def ObjectLinksCardSaid : Prop := Claim7.holds Tryz.pinned (.plain (OpenSpec.ofChange objectLinksSpec)) objectLinksCard

/-- THE SECOND FORM's CARD OF 'sleuthlaw08.ObjectBytes'. -/
def objectBytesUptoCard : Claim7 := { stood := { row := objectBytesUptoRow, standIns := [], harness := (true, "fe51ec411aecdbef457ae9d2b1be3cb8ca8134898d309609529fcc2acf0887bc"), looks := true }, kinds := [], alts := [], laidByText := true, laidKinds := [.data, .data, .data], laidTests := true, laidLooks := .later }
def ObjectBytesUptoCardSaid : Prop := Claim7.holds Tryz.pinned (.plain (OpenSpec.upto objectBytesSpec)) objectBytesUptoCard

/-- THE SECOND FORM's CARD OF 'sleuthlaw08.ObjectSplits'. -/
def objectSplitsUptoCard : Claim7 := { stood := { row := objectSplitsUptoRow, standIns := [], harness := (true, "fe51ec411aecdbef457ae9d2b1be3cb8ca8134898d309609529fcc2acf0887bc"), looks := true }, kinds := [], alts := [], laidByText := true, laidKinds := [.data, .data, .data], laidTests := true, laidLooks := .later }
def ObjectSplitsUptoCardSaid : Prop := Claim7.holds Tryz.pinned (.plain (OpenSpec.upto objectSplitsSpec)) objectSplitsUptoCard

/-- THE SECOND FORM's CARD OF 'sleuthlaw08.ObjectNames'. -/
def objectNamesUptoCard : Claim7 := { stood := { row := objectNamesUptoRow, standIns := [], harness := (true, "fe51ec411aecdbef457ae9d2b1be3cb8ca8134898d309609529fcc2acf0887bc"), looks := true }, kinds := [], alts := [], laidByText := true, laidKinds := [.data, .data, .data, .data], laidTests := true, laidLooks := .later }
def ObjectNamesUptoCardSaid : Prop := Claim7.holds Tryz.pinned (.plain (OpenSpec.upto objectNamesSpec)) objectNamesUptoCard

/-- THE SECOND FORM's CARD OF 'sleuthlaw08.ObjectLinks'. -/
def objectLinksUptoCard : Claim7 := { stood := { row := objectLinksUptoRow, standIns := [], harness := (true, "fe51ec411aecdbef457ae9d2b1be3cb8ca8134898d309609529fcc2acf0887bc"), looks := true }, kinds := [], alts := [], laidByText := true, laidKinds := [.data, .data, .data], laidTests := true, laidLooks := .later }
def ObjectLinksUptoCardSaid : Prop := Claim7.holds Tryz.pinned (.plain (OpenSpec.upto objectLinksSpec)) objectLinksUptoCard
end Rows
end Go.Proofs.YtnnafiajfapenaaGreatDoor

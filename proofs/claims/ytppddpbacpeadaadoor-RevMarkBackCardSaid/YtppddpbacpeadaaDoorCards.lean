/-
  DERIVED. GIVEN WITH THE SEED: THE CARDS: each row of YtppddpbacpeadaaDoorRows.lean that lists a variable, with what it lists TIED to the program's text (the seventh form; the later family's looks); each row that meets fmt, with fmt's text TOLD by the authors' own Lean function (tested against real Go, not proved from fmt's source: count such statements apart). THE CARD IS WHAT COUNTS. Prove the row's statement (the work); the ties are given (YtppddpbacpeadaaDoorTie.lean); close each card by the builder's one call (the guide's Derived/Test/ToyasCard.lean, 'card_holds'). Laid BY PROGRAM, IN A SANDBOX (cutbox-door.mjs). By AI agents, Wed Nov 11 2026. No macro, syntax, notation, axiom, sorry.
-/
import Derived.Test.YtppddpbacpeadaaDoorRows
import GoSem.ClaimSeven
namespace Go.Proofs.YtppddpbacpeadaaDoor
namespace Rows

/-- THE TIED CARD OF 'sleuthlaw07.RevPuts'. -/
def revPutsCard : Claim7 := { stood := { row := revPutsRow, standIns := [], harness := (true, "6618b30351da706c23ebaa7aef1e43655ca9836ccf84595f8909f8799833a988"), looks := false }, kinds := [], alts := [], laidByText := true, laidKinds := [.data, .data, .data], laidTests := true, laidLooks := .later }
def RevPutsCardSaid : Prop := Claim7.holds Tryd.pinned (.plain (OpenSpec.ofChange revPutsSpec)) revPutsCard

/-- THE TIED CARD OF 'sleuthlaw07.RevGets'. -/
def revGetsCard : Claim7 := { stood := { row := revGetsRow, standIns := [], harness := (true, "6618b30351da706c23ebaa7aef1e43655ca9836ccf84595f8909f8799833a988"), looks := false }, kinds := [], alts := [], laidByText := true, laidKinds := [.data, .data, .data], laidTests := true, laidLooks := .later }
def RevGetsCardSaid : Prop := Claim7.holds Tryd.pinned (.plain (OpenSpec.ofChange revGetsSpec)) revGetsCard

/-- THE TIED CARD OF 'sleuthlaw07.RevBack'. -/
def revBackCard : Claim7 := { stood := { row := revBackRow, standIns := [], harness := (true, "6618b30351da706c23ebaa7aef1e43655ca9836ccf84595f8909f8799833a988"), looks := false }, kinds := [], alts := [], laidByText := true, laidKinds := [.data, .data, .data], laidTests := true, laidLooks := .later }
def RevBackCardSaid : Prop := Claim7.holds Tryd.pinned (.plain (OpenSpec.ofChange revBackSpec)) revBackCard

/-- THE TIED CARD OF 'sleuthlaw07.RevMarks'. -/
def revMarksCard : Claim7 := { stood := { row := revMarksRow, standIns := [], harness := (true, "6618b30351da706c23ebaa7aef1e43655ca9836ccf84595f8909f8799833a988"), looks := false }, kinds := [], alts := [], laidByText := true, laidKinds := [.data, .data, .data], laidTests := true, laidLooks := .later }
def RevMarksCardSaid : Prop := Claim7.holds Tryd.pinned (.plain (OpenSpec.ofChange revMarksSpec)) revMarksCard

/-- THE TIED CARD OF 'sleuthlaw07.RevMarkBack'. -/
def revMarkBackCard : Claim7 := { stood := { row := revMarkBackRow, standIns := [], harness := (true, "6618b30351da706c23ebaa7aef1e43655ca9836ccf84595f8909f8799833a988"), looks := false }, kinds := [], alts := [], laidByText := true, laidKinds := [.data, .data, .data], laidTests := true, laidLooks := .later }
def RevMarkBackCardSaid : Prop := Claim7.holds Tryd.pinned (.plain (OpenSpec.ofChange revMarkBackSpec)) revMarkBackCard

/-- THE SECOND FORM's CARD OF 'sleuthlaw07.RevPuts'. -/
def revPutsUptoCard : Claim7 := { stood := { row := revPutsUptoRow, standIns := [], harness := (true, "6618b30351da706c23ebaa7aef1e43655ca9836ccf84595f8909f8799833a988"), looks := false }, kinds := [], alts := [], laidByText := true, laidKinds := [.data, .data, .data], laidTests := true, laidLooks := .later }
def RevPutsUptoCardSaid : Prop := Claim7.holds Tryd.pinned (.plain (OpenSpec.upto revPutsSpec)) revPutsUptoCard

/-- THE SECOND FORM's CARD OF 'sleuthlaw07.RevGets'. -/
def revGetsUptoCard : Claim7 := { stood := { row := revGetsUptoRow, standIns := [], harness := (true, "6618b30351da706c23ebaa7aef1e43655ca9836ccf84595f8909f8799833a988"), looks := false }, kinds := [], alts := [], laidByText := true, laidKinds := [.data, .data, .data], laidTests := true, laidLooks := .later }
def RevGetsUptoCardSaid : Prop := Claim7.holds Tryd.pinned (.plain (OpenSpec.upto revGetsSpec)) revGetsUptoCard

/-- THE SECOND FORM's CARD OF 'sleuthlaw07.RevBack'. -/
def revBackUptoCard : Claim7 := { stood := { row := revBackUptoRow, standIns := [], harness := (true, "6618b30351da706c23ebaa7aef1e43655ca9836ccf84595f8909f8799833a988"), looks := false }, kinds := [], alts := [], laidByText := true, laidKinds := [.data, .data, .data], laidTests := true, laidLooks := .later }
def RevBackUptoCardSaid : Prop := Claim7.holds Tryd.pinned (.plain (OpenSpec.upto revBackSpec)) revBackUptoCard

/-- THE SECOND FORM's CARD OF 'sleuthlaw07.RevMarks'. -/
def revMarksUptoCard : Claim7 := { stood := { row := revMarksUptoRow, standIns := [], harness := (true, "6618b30351da706c23ebaa7aef1e43655ca9836ccf84595f8909f8799833a988"), looks := false }, kinds := [], alts := [], laidByText := true, laidKinds := [.data, .data, .data], laidTests := true, laidLooks := .later }
def RevMarksUptoCardSaid : Prop := Claim7.holds Tryd.pinned (.plain (OpenSpec.upto revMarksSpec)) revMarksUptoCard

/-- THE SECOND FORM's CARD OF 'sleuthlaw07.RevMarkBack'. -/
def revMarkBackUptoCard : Claim7 := { stood := { row := revMarkBackUptoRow, standIns := [], harness := (true, "6618b30351da706c23ebaa7aef1e43655ca9836ccf84595f8909f8799833a988"), looks := false }, kinds := [], alts := [], laidByText := true, laidKinds := [.data, .data, .data], laidTests := true, laidLooks := .later }
def RevMarkBackUptoCardSaid : Prop := Claim7.holds Tryd.pinned (.plain (OpenSpec.upto revMarkBackSpec)) revMarkBackUptoCard
end Rows
end Go.Proofs.YtppddpbacpeadaaDoor

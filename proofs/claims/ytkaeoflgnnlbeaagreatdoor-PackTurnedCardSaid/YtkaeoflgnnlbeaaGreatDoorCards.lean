/-
  DERIVED. GIVEN WITH THE SEED: THE CARDS: each row of YtkaeoflgnnlbeaaGreatDoorRows.lean that lists a variable, with what it lists TIED to the program's text (the seventh form; the later family's looks); each row that meets fmt, with fmt's text TOLD by the authors' own Lean function (tested against real Go, not proved from fmt's source: count such statements apart). THE CARD IS WHAT COUNTS. Prove the row's statement (the work); the ties are given (YtkaeoflgnnlbeaaGreatDoorTie.lean); close each card by the builder's one call (the guide's Derived/Test/ToyasCard.lean, 'card_holds'). Laid BY PROGRAM, IN A SANDBOX (cutbox-door.mjs). By AI agents, Wed Nov 11 2026. No macro, syntax, notation, axiom, sorry.
-/
import Derived.Test.YtkaeoflgnnlbeaaGreatDoorRows
import GoSem.ClaimSeven
namespace Go.Proofs.YtkaeoflgnnlbeaaGreatDoor
namespace Rows

/-- THE TIED CARD OF 'sleuthlaw10.PackWrites'. -/
def packWritesCard : Claim7 := { stood := { row := packWritesRow, standIns := [], harness := (true, "4d29824bb5c3c7e93a249668f246453c84c163643df2ff51281d2513921a91f3"), looks := false }, kinds := [], alts := [], laidByText := true, laidKinds := [.data, .data, .data, .data], laidTests := true, laidLooks := .later }
def PackWritesCardSaid : Prop := Claim7.holds Tryz.pinned (.plain (OpenSpec.ofChange packWritesSpec)) packWritesCard

/-- THE TIED CARD OF 'sleuthlaw10.PackReads'. -/
def packReadsCard : Claim7 := { stood := { row := packReadsRow, standIns := [], harness := (true, "4d29824bb5c3c7e93a249668f246453c84c163643df2ff51281d2513921a91f3"), looks := false }, kinds := [], alts := [], laidByText := true, laidKinds := [.data, .data, .data, .data], laidTests := true, laidLooks := .later }
def PackReadsCardSaid : Prop := Claim7.holds Tryz.pinned (.plain (OpenSpec.ofChange packReadsSpec)) packReadsCard

/-- THE TIED CARD OF 'sleuthlaw10.PackScans'. -/
def packScansCard : Claim7 := { stood := { row := packScansRow, standIns := [], harness := (true, "4d29824bb5c3c7e93a249668f246453c84c163643df2ff51281d2513921a91f3"), looks := false }, kinds := [], alts := [], laidByText := true, laidKinds := [.data, .data, .data, .data], laidTests := true, laidLooks := .later }
def PackScansCardSaid : Prop := Claim7.holds Tryz.pinned (.plain (OpenSpec.ofChange packScansSpec)) packScansCard

/-- THE TIED CARD OF 'sleuthlaw10.PackBack'. -/
def packBackCard : Claim7 := { stood := { row := packBackRow, standIns := [], harness := (true, "4d29824bb5c3c7e93a249668f246453c84c163643df2ff51281d2513921a91f3"), looks := false }, kinds := [], alts := [], laidByText := true, laidKinds := [.data, .data, .data, .data], laidTests := true, laidLooks := .later }
def PackBackCardSaid : Prop := Claim7.holds Tryz.pinned (.plain (OpenSpec.ofChange packBackSpec)) packBackCard

/-- THE TIED CARD OF 'sleuthlaw10.PackTurned'. -/
def packTurnedCard : Claim7 := { stood := { row := packTurnedRow, standIns := [], harness := (true, "4d29824bb5c3c7e93a249668f246453c84c163643df2ff51281d2513921a91f3"), looks := false }, kinds := [], alts := [], laidByText := true, laidKinds := [.data, .data, .data, .data], laidTests := true, laidLooks := .later }
def PackTurnedCardSaid : Prop := Claim7.holds Tryz.pinned (.plain (OpenSpec.ofChange packTurnedSpec)) packTurnedCard

/-- THE SECOND FORM's CARD OF 'sleuthlaw10.PackWrites'. -/
def packWritesUptoCard : Claim7 := { stood := { row := packWritesUptoRow, standIns := [], harness := (true, "4d29824bb5c3c7e93a249668f246453c84c163643df2ff51281d2513921a91f3"), looks := false }, kinds := [], alts := [], laidByText := true, laidKinds := [.data, .data, .data, .data], laidTests := true, laidLooks := .later }
def PackWritesUptoCardSaid : Prop := Claim7.holds Tryz.pinned (.plain (OpenSpec.upto packWritesSpec)) packWritesUptoCard

/-- THE SECOND FORM's CARD OF 'sleuthlaw10.PackReads'. -/
def packReadsUptoCard : Claim7 := { stood := { row := packReadsUptoRow, standIns := [], harness := (true, "4d29824bb5c3c7e93a249668f246453c84c163643df2ff51281d2513921a91f3"), looks := false }, kinds := [], alts := [], laidByText := true, laidKinds := [.data, .data, .data, .data], laidTests := true, laidLooks := .later }
def PackReadsUptoCardSaid : Prop := Claim7.holds Tryz.pinned (.plain (OpenSpec.upto packReadsSpec)) packReadsUptoCard

/-- THE SECOND FORM's CARD OF 'sleuthlaw10.PackScans'. -/
def packScansUptoCard : Claim7 := { stood := { row := packScansUptoRow, standIns := [], harness := (true, "4d29824bb5c3c7e93a249668f246453c84c163643df2ff51281d2513921a91f3"), looks := false }, kinds := [], alts := [], laidByText := true, laidKinds := [.data, .data, .data, .data], laidTests := true, laidLooks := .later }
def PackScansUptoCardSaid : Prop := Claim7.holds Tryz.pinned (.plain (OpenSpec.upto packScansSpec)) packScansUptoCard

/-- THE SECOND FORM's CARD OF 'sleuthlaw10.PackBack'. -/
def packBackUptoCard : Claim7 := { stood := { row := packBackUptoRow, standIns := [], harness := (true, "4d29824bb5c3c7e93a249668f246453c84c163643df2ff51281d2513921a91f3"), looks := false }, kinds := [], alts := [], laidByText := true, laidKinds := [.data, .data, .data, .data], laidTests := true, laidLooks := .later }
def PackBackUptoCardSaid : Prop := Claim7.holds Tryz.pinned (.plain (OpenSpec.upto packBackSpec)) packBackUptoCard

/-- THE SECOND FORM's CARD OF 'sleuthlaw10.PackTurned'. -/
def packTurnedUptoCard : Claim7 := { stood := { row := packTurnedUptoRow, standIns := [], harness := (true, "4d29824bb5c3c7e93a249668f246453c84c163643df2ff51281d2513921a91f3"), looks := false }, kinds := [], alts := [], laidByText := true, laidKinds := [.data, .data, .data, .data], laidTests := true, laidLooks := .later }
def PackTurnedUptoCardSaid : Prop := Claim7.holds Tryz.pinned (.plain (OpenSpec.upto packTurnedSpec)) packTurnedUptoCard
end Rows
end Go.Proofs.YtkaeoflgnnlbeaaGreatDoor

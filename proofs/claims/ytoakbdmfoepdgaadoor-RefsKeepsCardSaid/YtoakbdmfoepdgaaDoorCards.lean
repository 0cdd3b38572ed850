/-
  DERIVED. GIVEN WITH THE SEED: THE CARDS: each row of YtoakbdmfoepdgaaDoorRows.lean that lists a variable, with what it lists TIED to the program's text (the seventh form; the later family's looks); each row that meets fmt, with fmt's text TOLD by the authors' own Lean function (tested against real Go, not proved from fmt's source: count such statements apart). THE CARD IS WHAT COUNTS. Prove the row's statement (the work); the ties are given (YtoakbdmfoepdgaaDoorTie.lean); close each card by the builder's one call (the guide's Derived/Test/ToyasCard.lean, 'card_holds'). Laid BY PROGRAM, IN A SANDBOX (cutbox-door.mjs). By AI agents, Wed Nov 11 2026. No macro, syntax, notation, axiom, sorry.
-/
import Derived.Test.YtoakbdmfoepdgaaDoorRows
import GoSem.ClaimSeven
namespace Go.Proofs.YtoakbdmfoepdgaaDoor
namespace Rows

/-- THE TIED CARD OF 'sleuthlaw12.RefsPuts'. -/
def refsPutsCard : Claim7 := { stood := { row := refsPutsRow, standIns := [], harness := (true, "1cd46c4d5dbc386196c8a61bad2a386cd08b36b7d25a39047f7692d3680c9cb0"), looks := false }, kinds := [], alts := [], laidByText := true, laidKinds := [.data, .pinned], laidTests := true, laidLooks := .later }
def RefsPutsCardSaid : Prop := Claim7.holds Tryd.pinned (.plain (OpenSpec.ofChange refsPutsSpec)) refsPutsCard

/-- THE TIED CARD OF 'sleuthlaw12.RefsGets'. -/
def refsGetsCard : Claim7 := { stood := { row := refsGetsRow, standIns := [], harness := (true, "1cd46c4d5dbc386196c8a61bad2a386cd08b36b7d25a39047f7692d3680c9cb0"), looks := false }, kinds := [], alts := [], laidByText := true, laidKinds := [.data, .pinned], laidTests := true, laidLooks := .later }
def RefsGetsCardSaid : Prop := Claim7.holds Tryd.pinned (.plain (OpenSpec.ofChange refsGetsSpec)) refsGetsCard

/-- THE TIED CARD OF 'sleuthlaw12.RefsSets'. -/
def refsSetsCard : Claim7 := { stood := { row := refsSetsRow, standIns := [], harness := (true, "1cd46c4d5dbc386196c8a61bad2a386cd08b36b7d25a39047f7692d3680c9cb0"), looks := false }, kinds := [], alts := [], laidByText := true, laidKinds := [.data, .pinned], laidTests := true, laidLooks := .later }
def RefsSetsCardSaid : Prop := Claim7.holds Tryd.pinned (.plain (OpenSpec.ofChange refsSetsSpec)) refsSetsCard

/-- THE TIED CARD OF 'sleuthlaw12.RefsFinds'. -/
def refsFindsCard : Claim7 := { stood := { row := refsFindsRow, standIns := [], harness := (true, "1cd46c4d5dbc386196c8a61bad2a386cd08b36b7d25a39047f7692d3680c9cb0"), looks := false }, kinds := [], alts := [], laidByText := true, laidKinds := [.data, .pinned], laidTests := true, laidLooks := .later }
def RefsFindsCardSaid : Prop := Claim7.holds Tryd.pinned (.plain (OpenSpec.ofChange refsFindsSpec)) refsFindsCard

/-- THE TIED CARD OF 'sleuthlaw12.RefsKeeps'. -/
def refsKeepsCard : Claim7 := { stood := { row := refsKeepsRow, standIns := [], harness := (true, "1cd46c4d5dbc386196c8a61bad2a386cd08b36b7d25a39047f7692d3680c9cb0"), looks := false }, kinds := [], alts := [], laidByText := true, laidKinds := [.data, .pinned], laidTests := true, laidLooks := .later }
def RefsKeepsCardSaid : Prop := Claim7.holds Tryd.pinned (.plain (OpenSpec.ofChange refsKeepsSpec)) refsKeepsCard

/-- THE SECOND FORM's CARD OF 'sleuthlaw12.RefsPuts'. -/
def refsPutsUptoCard : Claim7 := { stood := { row := refsPutsUptoRow, standIns := [], harness := (true, "1cd46c4d5dbc386196c8a61bad2a386cd08b36b7d25a39047f7692d3680c9cb0"), looks := false }, kinds := [], alts := [], laidByText := true, laidKinds := [.data, .pinned], laidTests := true, laidLooks := .later }
def RefsPutsUptoCardSaid : Prop := Claim7.holds Tryd.pinned (.plain (OpenSpec.upto refsPutsSpec)) refsPutsUptoCard

/-- THE SECOND FORM's CARD OF 'sleuthlaw12.RefsGets'. -/
def refsGetsUptoCard : Claim7 := { stood := { row := refsGetsUptoRow, standIns := [], harness := (true, "1cd46c4d5dbc386196c8a61bad2a386cd08b36b7d25a39047f7692d3680c9cb0"), looks := false }, kinds := [], alts := [], laidByText := true, laidKinds := [.data, .pinned], laidTests := true, laidLooks := .later }
def RefsGetsUptoCardSaid : Prop := Claim7.holds Tryd.pinned (.plain (OpenSpec.upto refsGetsSpec)) refsGetsUptoCard

/-- THE SECOND FORM's CARD OF 'sleuthlaw12.RefsSets'. -/
def refsSetsUptoCard : Claim7 := { stood := { row := refsSetsUptoRow, standIns := [], harness := (true, "1cd46c4d5dbc386196c8a61bad2a386cd08b36b7d25a39047f7692d3680c9cb0"), looks := false }, kinds := [], alts := [], laidByText := true, laidKinds := [.data, .pinned], laidTests := true, laidLooks := .later }
def RefsSetsUptoCardSaid : Prop := Claim7.holds Tryd.pinned (.plain (OpenSpec.upto refsSetsSpec)) refsSetsUptoCard

/-- THE SECOND FORM's CARD OF 'sleuthlaw12.RefsFinds'. -/
def refsFindsUptoCard : Claim7 := { stood := { row := refsFindsUptoRow, standIns := [], harness := (true, "1cd46c4d5dbc386196c8a61bad2a386cd08b36b7d25a39047f7692d3680c9cb0"), looks := false }, kinds := [], alts := [], laidByText := true, laidKinds := [.data, .pinned], laidTests := true, laidLooks := .later }
def RefsFindsUptoCardSaid : Prop := Claim7.holds Tryd.pinned (.plain (OpenSpec.upto refsFindsSpec)) refsFindsUptoCard

/-- THE SECOND FORM's CARD OF 'sleuthlaw12.RefsKeeps'. -/
def refsKeepsUptoCard : Claim7 := { stood := { row := refsKeepsUptoRow, standIns := [], harness := (true, "1cd46c4d5dbc386196c8a61bad2a386cd08b36b7d25a39047f7692d3680c9cb0"), looks := false }, kinds := [], alts := [], laidByText := true, laidKinds := [.data, .pinned], laidTests := true, laidLooks := .later }
def RefsKeepsUptoCardSaid : Prop := Claim7.holds Tryd.pinned (.plain (OpenSpec.upto refsKeepsSpec)) refsKeepsUptoCard
end Rows
end Go.Proofs.YtoakbdmfoepdgaaDoor

/-
  DERIVED. GIVEN WITH THE SEED: THE CARDS: each row of YtgmohgofcjemkaaDoorRows.lean that lists a variable, with what it lists TIED to the program's text (the seventh form; the later family's looks); each row that meets fmt, with fmt's text TOLD by the authors' own Lean function (tested against real Go, not proved from fmt's source: count such statements apart). THE CARD IS WHAT COUNTS. Prove the row's statement (the work); the ties are given (YtgmohgofcjemkaaDoorTie.lean); close each card by the builder's one call (the guide's Derived/Test/ToyasCard.lean, 'card_holds'). Laid BY PROGRAM, IN A SANDBOX (cutbox-door.mjs). By AI agents, Wed Nov 11 2026. No macro, syntax, notation, axiom, sorry.
-/
import Derived.Test.YtgmohgofcjemkaaDoorRows
import GoSem.ClaimSeven
namespace Go.Proofs.YtgmohgofcjemkaaDoor
namespace Rows

/-- THE TIED CARD OF 'sleuthlaw16.BloomPaths'. -/
def bloomPathsCard : Claim7 := { stood := { row := bloomPathsRow, standIns := [], harness := (true, "2600b502ac5407b3e5094c4ad67e40a183bd2690fa8f0173b12084a0259cd645"), looks := false }, kinds := [], alts := [], laidByText := true, laidKinds := [.data, .pinned], laidTests := true, laidLooks := .later }
def BloomPathsCardSaid : Prop := Claim7.holds Tryd.pinned (.plain (OpenSpec.ofChange bloomPathsSpec)) bloomPathsCard

/-- THE SECOND FORM's CARD OF 'sleuthlaw16.BloomPaths'. -/
def bloomPathsUptoCard : Claim7 := { stood := { row := bloomPathsUptoRow, standIns := [], harness := (true, "2600b502ac5407b3e5094c4ad67e40a183bd2690fa8f0173b12084a0259cd645"), looks := false }, kinds := [], alts := [], laidByText := true, laidKinds := [.data, .pinned], laidTests := true, laidLooks := .later }
def BloomPathsUptoCardSaid : Prop := Claim7.holds Tryd.pinned (.plain (OpenSpec.upto bloomPathsSpec)) bloomPathsUptoCard
end Rows
end Go.Proofs.YtgmohgofcjemkaaDoor

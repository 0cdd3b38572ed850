/-
  DERIVED. GIVEN WITH THE SEED: THE CARDS: each row of YtddckehejdpjcabGreatDoorRows.lean that lists a variable, with what it lists TIED to the program's text (the seventh form; the later family's looks); each row that meets fmt, with fmt's text TOLD by the authors' own Lean function (tested against real Go, not proved from fmt's source: count such statements apart). THE CARD IS WHAT COUNTS. Prove the row's statement (the work); the ties are given (YtddckehejdpjcabGreatDoorTie.lean); close each card by the builder's one call (the guide's Derived/Test/ToyasCard.lean, 'card_holds'). Laid BY PROGRAM, IN A SANDBOX (cutbox-door.mjs). By AI agents, Wed Nov 11 2026. No macro, syntax, notation, axiom, sorry.
-/
import Derived.Test.YtddckehejdpjcabGreatDoorRows
import GoSem.ClaimSeven
namespace Go.Proofs.YtddckehejdpjcabGreatDoor
namespace Rows

/-- THE TIED CARD OF 'sleuthlaw08.ObjectLinks'. -/
def objectLinksCard : Claim7 := { stood := { row := objectLinksRow, standIns := [], harness := (true, "5322d77b35ae314393b4d6a8d46ed285cee255d188b3242efa05ab40ccf6a242"), looks := true }, kinds := [], alts := [], laidByText := true, laidKinds := [.data, .data, .data], laidTests := true, laidLooks := .later }
def ObjectLinksCardSaid : Prop := Claim7.holds Tryz.pinned (.plain (OpenSpec.ofChange objectLinksSpec)) objectLinksCard

/-- THE SECOND FORM's CARD OF 'sleuthlaw08.ObjectLinks'. -/
def objectLinksUptoCard : Claim7 := { stood := { row := objectLinksUptoRow, standIns := [], harness := (true, "5322d77b35ae314393b4d6a8d46ed285cee255d188b3242efa05ab40ccf6a242"), looks := true }, kinds := [], alts := [], laidByText := true, laidKinds := [.data, .data, .data], laidTests := true, laidLooks := .later }
def ObjectLinksUptoCardSaid : Prop := Claim7.holds Tryz.pinned (.plain (OpenSpec.upto objectLinksSpec)) objectLinksUptoCard
end Rows
end Go.Proofs.YtddckehejdpjcabGreatDoor

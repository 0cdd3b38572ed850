/-
  DERIVED. GIVEN WITH THE SEED: THE CARDS: each row of YtnekddpnajgmdaaDoorRows.lean that lists a variable, with what it lists TIED to the program's text (the seventh form; the later family's looks); each row that meets fmt, with fmt's text TOLD by the authors' own Lean function (tested against real Go, not proved from fmt's source: count such statements apart). THE CARD IS WHAT COUNTS. Prove the row's statement (the work); the ties are given (YtnekddpnajgmdaaDoorTie.lean); close each card by the builder's one call (the guide's Derived/Test/ToyasCard.lean, 'card_holds'). Laid BY PROGRAM, IN A SANDBOX (cutbox-door.mjs). By AI agents, Wed Nov 11 2026. No macro, syntax, notation, axiom, sorry.
-/
import Derived.Test.YtnekddpnajgmdaaDoorRows
import GoSem.ClaimSeven
namespace Go.Proofs.YtnekddpnajgmdaaDoor
namespace Rows

/-- THE TIED CARD OF 'sleuthlaw05.RouteRight'. -/
def routeRightCard : Claim7 := { stood := { row := routeRightRow, standIns := [], harness := (true, "f977d964c17fd8639c35f2da036e38765ea94316cecfdc2a956a02edc6aeec6a"), looks := false }, kinds := [], alts := [], laidByText := true, laidKinds := [.data, .pinned], laidTests := true, laidLooks := .later }
def RouteRightCardSaid : Prop := Claim7.holds Tryd.pinned (.plain (OpenSpec.ofChange routeRightSpec)) routeRightCard

/-- THE TIED CARD OF 'sleuthlaw05.RouteParts'. -/
def routePartsCard : Claim7 := { stood := { row := routePartsRow, standIns := [], harness := (true, "f977d964c17fd8639c35f2da036e38765ea94316cecfdc2a956a02edc6aeec6a"), looks := false }, kinds := [], alts := [], laidByText := true, laidKinds := [.data, .pinned], laidTests := true, laidLooks := .later }
def RoutePartsCardSaid : Prop := Claim7.holds Tryd.pinned (.plain (OpenSpec.ofChange routePartsSpec)) routePartsCard

/-- THE TIED CARD OF 'sleuthlaw05.RouteBack'. -/
def routeBackCard : Claim7 := { stood := { row := routeBackRow, standIns := [], harness := (true, "f977d964c17fd8639c35f2da036e38765ea94316cecfdc2a956a02edc6aeec6a"), looks := false }, kinds := [], alts := [], laidByText := true, laidKinds := [.data, .pinned], laidTests := true, laidLooks := .later }
def RouteBackCardSaid : Prop := Claim7.holds Tryd.pinned (.plain (OpenSpec.ofChange routeBackSpec)) routeBackCard

/-- THE TIED CARD OF 'sleuthlaw05.RouteFits'. -/
def routeFitsCard : Claim7 := { stood := { row := routeFitsRow, standIns := [], harness := (true, "f977d964c17fd8639c35f2da036e38765ea94316cecfdc2a956a02edc6aeec6a"), looks := false }, kinds := [], alts := [], laidByText := true, laidKinds := [.data, .pinned], laidTests := true, laidLooks := .later }
def RouteFitsCardSaid : Prop := Claim7.holds Tryd.pinned (.plain (OpenSpec.ofChange routeFitsSpec)) routeFitsCard

/-- THE TIED CARD OF 'sleuthlaw05.RouteTouch'. -/
def routeTouchCard : Claim7 := { stood := { row := routeTouchRow, standIns := [], harness := (true, "f977d964c17fd8639c35f2da036e38765ea94316cecfdc2a956a02edc6aeec6a"), looks := false }, kinds := [], alts := [], laidByText := true, laidKinds := [.data, .pinned], laidTests := true, laidLooks := .later }
def RouteTouchCardSaid : Prop := Claim7.holds Tryd.pinned (.plain (OpenSpec.ofChange routeTouchSpec)) routeTouchCard

/-- THE TIED CARD OF 'sleuthlaw05.RouteHolds'. -/
def routeHoldsCard : Claim7 := { stood := { row := routeHoldsRow, standIns := [], harness := (true, "f977d964c17fd8639c35f2da036e38765ea94316cecfdc2a956a02edc6aeec6a"), looks := false }, kinds := [], alts := [], laidByText := true, laidKinds := [.data, .pinned], laidTests := true, laidLooks := .later }
def RouteHoldsCardSaid : Prop := Claim7.holds Tryd.pinned (.plain (OpenSpec.ofChange routeHoldsSpec)) routeHoldsCard

/-- THE SECOND FORM's CARD OF 'sleuthlaw05.RouteRight'. -/
def routeRightUptoCard : Claim7 := { stood := { row := routeRightUptoRow, standIns := [], harness := (true, "f977d964c17fd8639c35f2da036e38765ea94316cecfdc2a956a02edc6aeec6a"), looks := false }, kinds := [], alts := [], laidByText := true, laidKinds := [.data, .pinned], laidTests := true, laidLooks := .later }
def RouteRightUptoCardSaid : Prop := Claim7.holds Tryd.pinned (.plain (OpenSpec.upto routeRightSpec)) routeRightUptoCard

/-- THE SECOND FORM's CARD OF 'sleuthlaw05.RouteParts'. -/
def routePartsUptoCard : Claim7 := { stood := { row := routePartsUptoRow, standIns := [], harness := (true, "f977d964c17fd8639c35f2da036e38765ea94316cecfdc2a956a02edc6aeec6a"), looks := false }, kinds := [], alts := [], laidByText := true, laidKinds := [.data, .pinned], laidTests := true, laidLooks := .later }
def RoutePartsUptoCardSaid : Prop := Claim7.holds Tryd.pinned (.plain (OpenSpec.upto routePartsSpec)) routePartsUptoCard

/-- THE SECOND FORM's CARD OF 'sleuthlaw05.RouteBack'. -/
def routeBackUptoCard : Claim7 := { stood := { row := routeBackUptoRow, standIns := [], harness := (true, "f977d964c17fd8639c35f2da036e38765ea94316cecfdc2a956a02edc6aeec6a"), looks := false }, kinds := [], alts := [], laidByText := true, laidKinds := [.data, .pinned], laidTests := true, laidLooks := .later }
def RouteBackUptoCardSaid : Prop := Claim7.holds Tryd.pinned (.plain (OpenSpec.upto routeBackSpec)) routeBackUptoCard

/-- THE SECOND FORM's CARD OF 'sleuthlaw05.RouteFits'. -/
def routeFitsUptoCard : Claim7 := { stood := { row := routeFitsUptoRow, standIns := [], harness := (true, "f977d964c17fd8639c35f2da036e38765ea94316cecfdc2a956a02edc6aeec6a"), looks := false }, kinds := [], alts := [], laidByText := true, laidKinds := [.data, .pinned], laidTests := true, laidLooks := .later }
def RouteFitsUptoCardSaid : Prop := Claim7.holds Tryd.pinned (.plain (OpenSpec.upto routeFitsSpec)) routeFitsUptoCard

/-- THE SECOND FORM's CARD OF 'sleuthlaw05.RouteTouch'. -/
def routeTouchUptoCard : Claim7 := { stood := { row := routeTouchUptoRow, standIns := [], harness := (true, "f977d964c17fd8639c35f2da036e38765ea94316cecfdc2a956a02edc6aeec6a"), looks := false }, kinds := [], alts := [], laidByText := true, laidKinds := [.data, .pinned], laidTests := true, laidLooks := .later }
def RouteTouchUptoCardSaid : Prop := Claim7.holds Tryd.pinned (.plain (OpenSpec.upto routeTouchSpec)) routeTouchUptoCard

/-- THE SECOND FORM's CARD OF 'sleuthlaw05.RouteHolds'. -/
def routeHoldsUptoCard : Claim7 := { stood := { row := routeHoldsUptoRow, standIns := [], harness := (true, "f977d964c17fd8639c35f2da036e38765ea94316cecfdc2a956a02edc6aeec6a"), looks := false }, kinds := [], alts := [], laidByText := true, laidKinds := [.data, .pinned], laidTests := true, laidLooks := .later }
def RouteHoldsUptoCardSaid : Prop := Claim7.holds Tryd.pinned (.plain (OpenSpec.upto routeHoldsSpec)) routeHoldsUptoCard
end Rows
end Go.Proofs.YtnekddpnajgmdaaDoor

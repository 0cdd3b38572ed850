/-
  No cell of these rows narrows 'for every input' (looked for: loops, veiled, ifaces, maps, wideKeys, modest, calm, conditions, laid).
  DERIVED. THE GIVEN ROWS OF THIS SEAT. 4 by the template 'for every input the law returns true; each argument reads behind the call as it read before'; 0 by the template 'total and deterministic' (their statements: YtpaigmmpihcdaaaTotals.lean).
  GIVEN WITH THE SEED: the statements are not yours to turn. If you find one false, say at which input.
  Laid BY PROGRAM, IN A SANDBOX (cutbox-rows.mjs): the forced cells as the released guide's own fill.sh prints them over the translation 321fee9ae804ec87… (all of the seat's roots in one cut). By AI agents, Wed Nov 11 2026. No macro, syntax, notation, axiom, sorry.
-/
import Derived.Test.YtpaigmmpihcdaaaChecked
import GoSem.Claim
import GoSem.ClaimJoined
import GoSem.ClaimMapViews
import Derived.JoinedTies
import Derived.KernelRfl
namespace Go.Proofs.Ytpaigmmpihcdaaa
/- THE CELL 'sum', in the pinned program and in every row, IS THE sha256 OF THE DUMP (.gsa) THAT YtpaigmmpihcdaaaProg.lean LOADS. Nothing in Lean hashes anything: it is a label: what it is worth is what the hold of that sum in a sandbox is worth. -/
noncomputable def Try.pinned : Pinned := { name := "ytpaigmmpihcdaaa", sum := "321fee9ae804ec87cec9164d534f76b70b99c8d00833fd8d06a3c3fd07e4d32c", checked := Try.checked }
namespace Rows
def none {H : Type} : Left H := { results := [], args := [] }

/-- 'sleuthlaw15.OrderPlain': WHATEVER THE INPUT: true; the input reads as it did. -/
def orderPlainSpec : ChangeSpec := { name := "orderPlain", fn := fun _ => fun
  | [d1, d2] => { results := [.lit (.bool true)], args := [d1, d2] }
  | _ => none }
def orderPlainRow : OpenClaim := { program := "ytpaigmmpihcdaaa", sum := "321fee9ae804ec87cec9164d534f76b70b99c8d00833fd8d06a3c3fd07e4d32c", func := "sleuth/sleuthlaw15.OrderPlain", spec := "orderPlain", inPlace := ["slices.overlaps[int]"], unfollowed := true, recurses := true, apart := false }
def OrderPlainSaid : Prop := orderPlainRow.holds Try.pinned (OpenSpec.ofChange orderPlainSpec)

/-- ITS FALSE NEIGHBOUR: 'it returns false'. Refute it at one input. -/
def orderPlainWrong : ChangeSpec := { name := "orderPlain", fn := fun _ => fun
  | [d1, d2] => { results := [.lit (.bool false)], args := [d1, d2] }
  | _ => none }
def OrderPlainWrongFalsely : Prop := orderPlainRow.holds Try.pinned (OpenSpec.ofChange orderPlainWrong)

/-- 'sleuthlaw15.OrderDates': WHATEVER THE INPUT: true; the input reads as it did. -/
def orderDatesSpec : ChangeSpec := { name := "orderDates", fn := fun _ => fun
  | [d1, d2] => { results := [.lit (.bool true)], args := [d1, d2] }
  | _ => none }
def orderDatesRow : OpenClaim := { program := "ytpaigmmpihcdaaa", sum := "321fee9ae804ec87cec9164d534f76b70b99c8d00833fd8d06a3c3fd07e4d32c", func := "sleuth/sleuthlaw15.OrderDates", spec := "orderDates", inPlace := ["slices.overlaps[int]"], unfollowed := true, recurses := true, apart := false }
def OrderDatesSaid : Prop := orderDatesRow.holds Try.pinned (OpenSpec.ofChange orderDatesSpec)

/-- ITS FALSE NEIGHBOUR: 'it returns false'. Refute it at one input. -/
def orderDatesWrong : ChangeSpec := { name := "orderDates", fn := fun _ => fun
  | [d1, d2] => { results := [.lit (.bool false)], args := [d1, d2] }
  | _ => none }
def OrderDatesWrongFalsely : Prop := orderDatesRow.holds Try.pinned (OpenSpec.ofChange orderDatesWrong)

/-- 'sleuthlaw15.OrderTopos': WHATEVER THE INPUT: true; the input reads as it did. -/
def orderToposSpec : ChangeSpec := { name := "orderTopos", fn := fun _ => fun
  | [d1, d2] => { results := [.lit (.bool true)], args := [d1, d2] }
  | _ => none }
def orderToposRow : OpenClaim := { program := "ytpaigmmpihcdaaa", sum := "321fee9ae804ec87cec9164d534f76b70b99c8d00833fd8d06a3c3fd07e4d32c", func := "sleuth/sleuthlaw15.OrderTopos", spec := "orderTopos", inPlace := ["slices.overlaps[int]"], unfollowed := true, recurses := true, apart := false }
def OrderToposSaid : Prop := orderToposRow.holds Try.pinned (OpenSpec.ofChange orderToposSpec)

/-- ITS FALSE NEIGHBOUR: 'it returns false'. Refute it at one input. -/
def orderToposWrong : ChangeSpec := { name := "orderTopos", fn := fun _ => fun
  | [d1, d2] => { results := [.lit (.bool false)], args := [d1, d2] }
  | _ => none }
def OrderToposWrongFalsely : Prop := orderToposRow.holds Try.pinned (OpenSpec.ofChange orderToposWrong)

/-- 'sleuthlaw15.OrderHolds': WHATEVER THE INPUT: true; the input reads as it did. -/
def orderHoldsSpec : ChangeSpec := { name := "orderHolds", fn := fun _ => fun
  | [d1, d2] => { results := [.lit (.bool true)], args := [d1, d2] }
  | _ => none }
def orderHoldsRow : OpenClaim := { program := "ytpaigmmpihcdaaa", sum := "321fee9ae804ec87cec9164d534f76b70b99c8d00833fd8d06a3c3fd07e4d32c", func := "sleuth/sleuthlaw15.OrderHolds", spec := "orderHolds", inPlace := ["slices.overlaps[int]"], unfollowed := true, recurses := true, apart := false }
def OrderHoldsSaid : Prop := orderHoldsRow.holds Try.pinned (OpenSpec.ofChange orderHoldsSpec)

/-- ITS FALSE NEIGHBOUR: 'it returns false'. Refute it at one input. -/
def orderHoldsWrong : ChangeSpec := { name := "orderHolds", fn := fun _ => fun
  | [d1, d2] => { results := [.lit (.bool false)], args := [d1, d2] }
  | _ => none }
def OrderHoldsWrongFalsely : Prop := orderHoldsRow.holds Try.pinned (OpenSpec.ofChange orderHoldsWrong)

/- THE SECOND FORM. 'bulk': how many values and letters a reading holds, each counted each time it is reached (what is shared counts as often as it is met; a slice's spare places count too). A statement '..UptoSaid' is the law's where the arguments, and the package variables that the reading takes, are together of bulk at most 1048576: NARROWER than '..Said'. Prove '..Said' where nothing that the law and all that it calls make is longer than what came in: it says more and counts as full. Else prove '..UptoSaid'. A law counts once. -/
mutual
def uptoBulk {H : Type} : DataW H → Nat
  | .lit (.string bytes) => bytes.length + 1
  | .lit _ => 1
  | .nil => 1
  | .ptr d => uptoBulk d + 1
  | .slice elems spare => uptoBulkAll elems + uptoBulkAll spare + 1
  | .agg parts => uptoBulkAll parts + 1
  | .iface _ d => uptoBulk d + 1
  | .map entries => uptoBulkEntries entries + 1
  | .held _ => 1
def uptoBulkAll {H : Type} : List (DataW H) → Nat
  | [] => 0
  | d :: r => uptoBulk d + uptoBulkAll r
def uptoBulkEntries {H : Type} : List (Lit × DataW H) → Nat
  | [] => 0
  | x :: r => uptoBulkEntry x + uptoBulkEntries r
def uptoBulkEntry {H : Type} : Lit × DataW H → Nat
  | (.string bytes, d) => bytes.length + uptoBulk d + 1
  | (_, d) => uptoBulk d + 1
 end
def uptoSmall : (H : Type) → List (DataW H) → Bool := fun _ ds => decide (uptoBulkAll ds ≤ 1048576)
def OpenSpec.upto (s : _root_.Go.ChangeSpec) : _root_.Go.OpenSpec := { _root_.Go.OpenSpec.ofChange s with cond := some uptoSmall }

/-- 'sleuthlaw15.OrderPlain', WHERE WHAT IT READS IS OF BULK AT MOST 1048576: true; the input reads as it did. -/
def orderPlainUptoRow : OpenClaim := { program := "ytpaigmmpihcdaaa", sum := "321fee9ae804ec87cec9164d534f76b70b99c8d00833fd8d06a3c3fd07e4d32c", func := "sleuth/sleuthlaw15.OrderPlain", spec := "orderPlain", inPlace := ["slices.overlaps[int]"], unfollowed := true, recurses := true, apart := false, narrowed := true }
def OrderPlainUptoSaid : Prop := orderPlainUptoRow.holds Try.pinned (OpenSpec.upto orderPlainSpec)

/-- 'sleuthlaw15.OrderDates', WHERE WHAT IT READS IS OF BULK AT MOST 1048576: true; the input reads as it did. -/
def orderDatesUptoRow : OpenClaim := { program := "ytpaigmmpihcdaaa", sum := "321fee9ae804ec87cec9164d534f76b70b99c8d00833fd8d06a3c3fd07e4d32c", func := "sleuth/sleuthlaw15.OrderDates", spec := "orderDates", inPlace := ["slices.overlaps[int]"], unfollowed := true, recurses := true, apart := false, narrowed := true }
def OrderDatesUptoSaid : Prop := orderDatesUptoRow.holds Try.pinned (OpenSpec.upto orderDatesSpec)

/-- 'sleuthlaw15.OrderTopos', WHERE WHAT IT READS IS OF BULK AT MOST 1048576: true; the input reads as it did. -/
def orderToposUptoRow : OpenClaim := { program := "ytpaigmmpihcdaaa", sum := "321fee9ae804ec87cec9164d534f76b70b99c8d00833fd8d06a3c3fd07e4d32c", func := "sleuth/sleuthlaw15.OrderTopos", spec := "orderTopos", inPlace := ["slices.overlaps[int]"], unfollowed := true, recurses := true, apart := false, narrowed := true }
def OrderToposUptoSaid : Prop := orderToposUptoRow.holds Try.pinned (OpenSpec.upto orderToposSpec)

/-- 'sleuthlaw15.OrderHolds', WHERE WHAT IT READS IS OF BULK AT MOST 1048576: true; the input reads as it did. -/
def orderHoldsUptoRow : OpenClaim := { program := "ytpaigmmpihcdaaa", sum := "321fee9ae804ec87cec9164d534f76b70b99c8d00833fd8d06a3c3fd07e4d32c", func := "sleuth/sleuthlaw15.OrderHolds", spec := "orderHolds", inPlace := ["slices.overlaps[int]"], unfollowed := true, recurses := true, apart := false, narrowed := true }
def OrderHoldsUptoSaid : Prop := orderHoldsUptoRow.holds Try.pinned (OpenSpec.upto orderHoldsSpec)

end Rows
end Go.Proofs.Ytpaigmmpihcdaaa

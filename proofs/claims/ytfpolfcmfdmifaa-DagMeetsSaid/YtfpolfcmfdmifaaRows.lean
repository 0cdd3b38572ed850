/-
  No cell of these rows narrows 'for every input' (looked for: loops, veiled, ifaces, maps, wideKeys, modest, calm, conditions, laid).
  DERIVED. THE GIVEN ROWS OF THIS SEAT. 5 by the template 'for every input the law returns true; each argument reads behind the call as it read before'; 0 by the template 'total and deterministic' (their statements: YtfpolfcmfdmifaaTotals.lean).
  GIVEN WITH THE SEED: the statements are not yours to turn. If you find one false, say at which input.
  Laid BY PROGRAM, IN A SANDBOX (cutbox-rows.mjs): the forced cells as the released guide's own fill.sh prints them over the translation 5dc94f2cca8c6726… (all of the seat's roots in one cut). By AI agents, Wed Nov 11 2026. No macro, syntax, notation, axiom, sorry.
-/
import Derived.Test.YtfpolfcmfdmifaaChecked
import GoSem.Claim
import GoSem.ClaimJoined
import GoSem.ClaimMapViews
import Derived.JoinedTies
import Derived.KernelRfl
namespace Go.Proofs.Ytfpolfcmfdmifaa
/- THE CELL 'sum', in the pinned program and in every row, IS THE sha256 OF THE DUMP (.gsa) THAT YtfpolfcmfdmifaaProg.lean LOADS. Nothing in Lean hashes anything: it is a label: what it is worth is what the hold of that sum in a sandbox is worth. -/
noncomputable def Try.pinned : Pinned := { name := "ytfpolfcmfdmifaa", sum := "5dc94f2cca8c672608181a3d0ca9e650998c45115be85e94ae8206ab5af57ad6", checked := Try.checked }
namespace Rows
def none {H : Type} : Left H := { results := [], args := [] }

/-- 'sleuthlaw14.DagGens': WHATEVER THE INPUT: true; the input reads as it did. -/
def dagGensSpec : ChangeSpec := { name := "dagGens", fn := fun _ => fun
  | [d] => { results := [.lit (.bool true)], args := [d] }
  | _ => none }
def dagGensRow : OpenClaim := { program := "ytfpolfcmfdmifaa", sum := "5dc94f2cca8c672608181a3d0ca9e650998c45115be85e94ae8206ab5af57ad6", func := "sleuth/sleuthlaw14.DagGens", spec := "dagGens", inPlace := ["slices.overlaps[int]"], unfollowed := true, recurses := true, apart := false }
def DagGensSaid : Prop := dagGensRow.holds Try.pinned (OpenSpec.ofChange dagGensSpec)

/-- ITS FALSE NEIGHBOUR: 'it returns false'. Refute it at one input. -/
def dagGensWrong : ChangeSpec := { name := "dagGens", fn := fun _ => fun
  | [d] => { results := [.lit (.bool false)], args := [d] }
  | _ => none }
def DagGensWrongFalsely : Prop := dagGensRow.holds Try.pinned (OpenSpec.ofChange dagGensWrong)

/-- 'sleuthlaw14.DagAbove': WHATEVER THE INPUT: true; the input reads as it did. -/
def dagAboveSpec : ChangeSpec := { name := "dagAbove", fn := fun _ => fun
  | [d1, d2, d3] => { results := [.lit (.bool true)], args := [d1, d2, d3] }
  | _ => none }
def dagAboveRow : OpenClaim := { program := "ytfpolfcmfdmifaa", sum := "5dc94f2cca8c672608181a3d0ca9e650998c45115be85e94ae8206ab5af57ad6", func := "sleuth/sleuthlaw14.DagAbove", spec := "dagAbove", inPlace := ["slices.overlaps[int]"], unfollowed := true, recurses := true, apart := false }
def DagAboveSaid : Prop := dagAboveRow.holds Try.pinned (OpenSpec.ofChange dagAboveSpec)

/-- ITS FALSE NEIGHBOUR: 'it returns false'. Refute it at one input. -/
def dagAboveWrong : ChangeSpec := { name := "dagAbove", fn := fun _ => fun
  | [d1, d2, d3] => { results := [.lit (.bool false)], args := [d1, d2, d3] }
  | _ => none }
def DagAboveWrongFalsely : Prop := dagAboveRow.holds Try.pinned (OpenSpec.ofChange dagAboveWrong)

/-- 'sleuthlaw14.DagBases': WHATEVER THE INPUT: true; the input reads as it did. -/
def dagBasesSpec : ChangeSpec := { name := "dagBases", fn := fun _ => fun
  | [d1, d2, d3] => { results := [.lit (.bool true)], args := [d1, d2, d3] }
  | _ => none }
def dagBasesRow : OpenClaim := { program := "ytfpolfcmfdmifaa", sum := "5dc94f2cca8c672608181a3d0ca9e650998c45115be85e94ae8206ab5af57ad6", func := "sleuth/sleuthlaw14.DagBases", spec := "dagBases", inPlace := ["slices.overlaps[int]"], unfollowed := true, recurses := true, apart := false }
def DagBasesSaid : Prop := dagBasesRow.holds Try.pinned (OpenSpec.ofChange dagBasesSpec)

/-- ITS FALSE NEIGHBOUR: 'it returns false'. Refute it at one input. -/
def dagBasesWrong : ChangeSpec := { name := "dagBases", fn := fun _ => fun
  | [d1, d2, d3] => { results := [.lit (.bool false)], args := [d1, d2, d3] }
  | _ => none }
def DagBasesWrongFalsely : Prop := dagBasesRow.holds Try.pinned (OpenSpec.ofChange dagBasesWrong)

/-- 'sleuthlaw14.DagRanges': WHATEVER THE INPUT: true; the input reads as it did. -/
def dagRangesSpec : ChangeSpec := { name := "dagRanges", fn := fun _ => fun
  | [d1, d2, d3] => { results := [.lit (.bool true)], args := [d1, d2, d3] }
  | _ => none }
def dagRangesRow : OpenClaim := { program := "ytfpolfcmfdmifaa", sum := "5dc94f2cca8c672608181a3d0ca9e650998c45115be85e94ae8206ab5af57ad6", func := "sleuth/sleuthlaw14.DagRanges", spec := "dagRanges", inPlace := ["slices.overlaps[int]"], unfollowed := true, recurses := true, apart := false }
def DagRangesSaid : Prop := dagRangesRow.holds Try.pinned (OpenSpec.ofChange dagRangesSpec)

/-- ITS FALSE NEIGHBOUR: 'it returns false'. Refute it at one input. -/
def dagRangesWrong : ChangeSpec := { name := "dagRanges", fn := fun _ => fun
  | [d1, d2, d3] => { results := [.lit (.bool false)], args := [d1, d2, d3] }
  | _ => none }
def DagRangesWrongFalsely : Prop := dagRangesRow.holds Try.pinned (OpenSpec.ofChange dagRangesWrong)

/-- 'sleuthlaw14.DagMeets': WHATEVER THE INPUT: true; the input reads as it did. -/
def dagMeetsSpec : ChangeSpec := { name := "dagMeets", fn := fun _ => fun
  | [d1, d2, d3] => { results := [.lit (.bool true)], args := [d1, d2, d3] }
  | _ => none }
def dagMeetsRow : OpenClaim := { program := "ytfpolfcmfdmifaa", sum := "5dc94f2cca8c672608181a3d0ca9e650998c45115be85e94ae8206ab5af57ad6", func := "sleuth/sleuthlaw14.DagMeets", spec := "dagMeets", inPlace := ["slices.overlaps[int]"], unfollowed := true, recurses := true, apart := false }
def DagMeetsSaid : Prop := dagMeetsRow.holds Try.pinned (OpenSpec.ofChange dagMeetsSpec)

/-- ITS FALSE NEIGHBOUR: 'it returns false'. Refute it at one input. -/
def dagMeetsWrong : ChangeSpec := { name := "dagMeets", fn := fun _ => fun
  | [d1, d2, d3] => { results := [.lit (.bool false)], args := [d1, d2, d3] }
  | _ => none }
def DagMeetsWrongFalsely : Prop := dagMeetsRow.holds Try.pinned (OpenSpec.ofChange dagMeetsWrong)

/- THE SECOND FORM. 'bulk': how many values and letters a reading holds, each counted each time it is reached (what is shared counts as often as it is met; a slice's spare places count too). A statement '..UptoSaid' is the law's where the arguments, and the package variables that the reading takes, are together of bulk at most 1048576: NARROWER than '..Said'. Prove '..Said' where nothing that the law and all that it calls make is longer than what came in: it says more and counts as full. Else prove '..UptoSaid'. A law counts once. -/
mutual
def uptoBulk {H : Type} : DataW H → Nat
  | .lit (.string bytes) => bytes.length + 1
  | .lit _ => 1
  | .nil => 1
  | .ptr d => uptoBulk d + 1
  | .slice elems spare => uptoBulkAll elems + uptoBulkAll spare + 1
  | .agg parts => uptoBulkAll parts + 1
  | .iface _ d => uptoBulk d + 1
  | .map entries => uptoBulkEntries entries + 1
  | .held _ => 1
def uptoBulkAll {H : Type} : List (DataW H) → Nat
  | [] => 0
  | d :: r => uptoBulk d + uptoBulkAll r
def uptoBulkEntries {H : Type} : List (Lit × DataW H) → Nat
  | [] => 0
  | x :: r => uptoBulkEntry x + uptoBulkEntries r
def uptoBulkEntry {H : Type} : Lit × DataW H → Nat
  | (.string bytes, d) => bytes.length + uptoBulk d + 1
  | (_, d) => uptoBulk d + 1
 end
def uptoSmall : (H : Type) → List (DataW H) → Bool := fun _ ds => decide (uptoBulkAll ds ≤ 1048576)
def OpenSpec.upto (s : _root_.Go.ChangeSpec) : _root_.Go.OpenSpec := { _root_.Go.OpenSpec.ofChange s with cond := some uptoSmall }

/-- 'sleuthlaw14.DagGens', WHERE WHAT IT READS IS OF BULK AT MOST 1048576: true; the input reads as it did. -/
def dagGensUptoRow : OpenClaim := { program := "ytfpolfcmfdmifaa", sum := "5dc94f2cca8c672608181a3d0ca9e650998c45115be85e94ae8206ab5af57ad6", func := "sleuth/sleuthlaw14.DagGens", spec := "dagGens", inPlace := ["slices.overlaps[int]"], unfollowed := true, recurses := true, apart := false, narrowed := true }
def DagGensUptoSaid : Prop := dagGensUptoRow.holds Try.pinned (OpenSpec.upto dagGensSpec)

/-- 'sleuthlaw14.DagAbove', WHERE WHAT IT READS IS OF BULK AT MOST 1048576: true; the input reads as it did. -/
def dagAboveUptoRow : OpenClaim := { program := "ytfpolfcmfdmifaa", sum := "5dc94f2cca8c672608181a3d0ca9e650998c45115be85e94ae8206ab5af57ad6", func := "sleuth/sleuthlaw14.DagAbove", spec := "dagAbove", inPlace := ["slices.overlaps[int]"], unfollowed := true, recurses := true, apart := false, narrowed := true }
def DagAboveUptoSaid : Prop := dagAboveUptoRow.holds Try.pinned (OpenSpec.upto dagAboveSpec)

/-- 'sleuthlaw14.DagBases', WHERE WHAT IT READS IS OF BULK AT MOST 1048576: true; the input reads as it did. -/
def dagBasesUptoRow : OpenClaim := { program := "ytfpolfcmfdmifaa", sum := "5dc94f2cca8c672608181a3d0ca9e650998c45115be85e94ae8206ab5af57ad6", func := "sleuth/sleuthlaw14.DagBases", spec := "dagBases", inPlace := ["slices.overlaps[int]"], unfollowed := true, recurses := true, apart := false, narrowed := true }
def DagBasesUptoSaid : Prop := dagBasesUptoRow.holds Try.pinned (OpenSpec.upto dagBasesSpec)

/-- 'sleuthlaw14.DagRanges', WHERE WHAT IT READS IS OF BULK AT MOST 1048576: true; the input reads as it did. -/
def dagRangesUptoRow : OpenClaim := { program := "ytfpolfcmfdmifaa", sum := "5dc94f2cca8c672608181a3d0ca9e650998c45115be85e94ae8206ab5af57ad6", func := "sleuth/sleuthlaw14.DagRanges", spec := "dagRanges", inPlace := ["slices.overlaps[int]"], unfollowed := true, recurses := true, apart := false, narrowed := true }
def DagRangesUptoSaid : Prop := dagRangesUptoRow.holds Try.pinned (OpenSpec.upto dagRangesSpec)

/-- 'sleuthlaw14.DagMeets', WHERE WHAT IT READS IS OF BULK AT MOST 1048576: true; the input reads as it did. -/
def dagMeetsUptoRow : OpenClaim := { program := "ytfpolfcmfdmifaa", sum := "5dc94f2cca8c672608181a3d0ca9e650998c45115be85e94ae8206ab5af57ad6", func := "sleuth/sleuthlaw14.DagMeets", spec := "dagMeets", inPlace := ["slices.overlaps[int]"], unfollowed := true, recurses := true, apart := false, narrowed := true }
def DagMeetsUptoSaid : Prop := dagMeetsUptoRow.holds Try.pinned (OpenSpec.upto dagMeetsSpec)

end Rows
end Go.Proofs.Ytfpolfcmfdmifaa

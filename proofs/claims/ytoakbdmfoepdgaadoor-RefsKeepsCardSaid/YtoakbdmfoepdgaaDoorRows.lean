/-
  NARROWER THAN 'FOR EVERY INPUT', by the rows' own cells (each row's printed sentence says how): RefsPuts: laid · RefsGets: laid · RefsSets: laid · RefsFinds: laid · RefsKeeps: laid.
  DERIVED. THE GIVEN ROWS OF THIS SEAT. 5 by the template 'for every input the law returns true; each argument reads behind the call as it read before'; 0 by the template 'total and deterministic' (their statements: YtoakbdmfoepdgaaDoorTotals.lean).
  GIVEN WITH THE SEED: the statements are not yours to turn. If you find one false, say at which input.
  Laid BY PROGRAM, IN A SANDBOX (cutbox-rows.mjs): the forced cells as the released guide's own fill.sh prints them over the translation 4f020e814362ac52… (all of the seat's roots in one cut). By AI agents, Wed Nov 11 2026. No macro, syntax, notation, axiom, sorry.
-/
import Derived.Test.YtoakbdmfoepdgaaDoorChecked
import GoSem.PinnedTables
import GoSem.Claim
import GoSem.ClaimJoined
import GoSem.ClaimMapViews
import Derived.JoinedTies
import Derived.KernelRfl
namespace Go.Proofs.YtoakbdmfoepdgaaDoor
/- THE CELL 'sum', in the pinned program and in every row, IS THE sha256 OF THE DUMP (.gsa) THAT YtoakbdmfoepdgaaDoorProg.lean LOADS. Nothing in Lean hashes anything: it is a label: what it is worth is what the hold of that sum in a sandbox is worth. -/
noncomputable def Tryd.pinned : Pinned := { name := "ytoakbdmfoepdgaadoor", sum := "4f020e814362ac52fa73a626a479578e9cc0617604ec3f00d06b39505b1215c9", checked := Tryd.checked }
namespace Rows
def none {H : Type} : Left H := { results := [], args := [] }

/- WHAT THE LISTED PACKAGE-LEVEL VARIABLES READ AS WHEN THE CALL BEGINS. Each datum BY PROGRAM (the guide's laid-datum.mjs) off the statement by which the dump's own 'gosem.cut.vars' lays the variable. In a bare row this is a premise. The card (YtoakbdmfoepdgaaDoorCards.lean) ties it to the program's text. -/
def laid_unicode_utf8_acceptRanges {H : Type} : DataW H := .agg [.agg [.lit (.int .u8 128), .lit (.int .u8 191)], .agg [.lit (.int .u8 160), .lit (.int .u8 191)], .agg [.lit (.int .u8 128), .lit (.int .u8 159)], .agg [.lit (.int .u8 144), .lit (.int .u8 191)], .agg [.lit (.int .u8 128), .lit (.int .u8 143)], .agg [.lit (.int .u8 0), .lit (.int .u8 0)], .agg [.lit (.int .u8 0), .lit (.int .u8 0)], .agg [.lit (.int .u8 0), .lit (.int .u8 0)], .agg [.lit (.int .u8 0), .lit (.int .u8 0)], .agg [.lit (.int .u8 0), .lit (.int .u8 0)], .agg [.lit (.int .u8 0), .lit (.int .u8 0)], .agg [.lit (.int .u8 0), .lit (.int .u8 0)], .agg [.lit (.int .u8 0), .lit (.int .u8 0)], .agg [.lit (.int .u8 0), .lit (.int .u8 0)], .agg [.lit (.int .u8 0), .lit (.int .u8 0)], .agg [.lit (.int .u8 0), .lit (.int .u8 0)]]
/-- One of Go's own tables, pinned by name: the form's constant. -/
def laid_unicode_utf8_first : DataW Unit := Go.Pinned.utf8First

/-- 'sleuthlaw12.RefsPuts': WHATEVER THE INPUT: true; the input reads as it did. -/
def refsPutsSpec : ChangeSpec := { name := "refsPuts", fn := fun _ => fun
  | [d] => { results := [.lit (.bool true)], args := [d] }
  | _ => none }
def refsPutsRow : OpenClaim := { program := "ytoakbdmfoepdgaadoor", sum := "4f020e814362ac52fa73a626a479578e9cc0617604ec3f00d06b39505b1215c9", func := "sleuth/sleuthlaw12.RefsPuts", spec := "refsPuts", inPlace := ["internal/bytealg.CountString", "internal/bytealg.IndexByteString", "internal/bytealg.IndexString", "internal/bytealg.abigen_runtime_cmpstring"], unfollowed := true, recurses := true, named := ["unicode/utf8.first", "unicode/utf8.acceptRanges", "internal/bytealg.MaxLen"], apart := false, laid := [("unicode/utf8.acceptRanges", laid_unicode_utf8_acceptRanges), ("unicode/utf8.first", laid_unicode_utf8_first)] }
def RefsPutsSaid : Prop := refsPutsRow.holds Tryd.pinned (OpenSpec.ofChange refsPutsSpec)

/-- ITS FALSE NEIGHBOUR: 'it returns false'. Refute it at one input. -/
def refsPutsWrong : ChangeSpec := { name := "refsPuts", fn := fun _ => fun
  | [d] => { results := [.lit (.bool false)], args := [d] }
  | _ => none }
def RefsPutsWrongFalsely : Prop := refsPutsRow.holds Tryd.pinned (OpenSpec.ofChange refsPutsWrong)

/-- 'sleuthlaw12.RefsGets': WHATEVER THE INPUT: true; the input reads as it did. -/
def refsGetsSpec : ChangeSpec := { name := "refsGets", fn := fun _ => fun
  | [d] => { results := [.lit (.bool true)], args := [d] }
  | _ => none }
def refsGetsRow : OpenClaim := { program := "ytoakbdmfoepdgaadoor", sum := "4f020e814362ac52fa73a626a479578e9cc0617604ec3f00d06b39505b1215c9", func := "sleuth/sleuthlaw12.RefsGets", spec := "refsGets", inPlace := ["internal/bytealg.CountString", "internal/bytealg.IndexByteString", "internal/bytealg.IndexString", "internal/bytealg.abigen_runtime_cmpstring"], unfollowed := true, recurses := true, named := ["unicode/utf8.first", "unicode/utf8.acceptRanges", "internal/bytealg.MaxLen"], apart := false, laid := [("unicode/utf8.acceptRanges", laid_unicode_utf8_acceptRanges), ("unicode/utf8.first", laid_unicode_utf8_first)] }
def RefsGetsSaid : Prop := refsGetsRow.holds Tryd.pinned (OpenSpec.ofChange refsGetsSpec)

/-- ITS FALSE NEIGHBOUR: 'it returns false'. Refute it at one input. -/
def refsGetsWrong : ChangeSpec := { name := "refsGets", fn := fun _ => fun
  | [d] => { results := [.lit (.bool false)], args := [d] }
  | _ => none }
def RefsGetsWrongFalsely : Prop := refsGetsRow.holds Tryd.pinned (OpenSpec.ofChange refsGetsWrong)

/-- 'sleuthlaw12.RefsSets': WHATEVER THE INPUT: true; the input reads as it did. -/
def refsSetsSpec : ChangeSpec := { name := "refsSets", fn := fun _ => fun
  | [d1, d2, d3] => { results := [.lit (.bool true)], args := [d1, d2, d3] }
  | _ => none }
def refsSetsRow : OpenClaim := { program := "ytoakbdmfoepdgaadoor", sum := "4f020e814362ac52fa73a626a479578e9cc0617604ec3f00d06b39505b1215c9", func := "sleuth/sleuthlaw12.RefsSets", spec := "refsSets", inPlace := ["internal/bytealg.CountString", "internal/bytealg.IndexByteString", "internal/bytealg.IndexString", "internal/bytealg.abigen_runtime_cmpstring", "slices.overlaps[sleuth/api.Ref]"], unfollowed := true, recurses := true, named := ["unicode/utf8.first", "unicode/utf8.acceptRanges", "internal/bytealg.MaxLen"], apart := false, laid := [("unicode/utf8.acceptRanges", laid_unicode_utf8_acceptRanges), ("unicode/utf8.first", laid_unicode_utf8_first)] }
def RefsSetsSaid : Prop := refsSetsRow.holds Tryd.pinned (OpenSpec.ofChange refsSetsSpec)

/-- ITS FALSE NEIGHBOUR: 'it returns false'. Refute it at one input. -/
def refsSetsWrong : ChangeSpec := { name := "refsSets", fn := fun _ => fun
  | [d1, d2, d3] => { results := [.lit (.bool false)], args := [d1, d2, d3] }
  | _ => none }
def RefsSetsWrongFalsely : Prop := refsSetsRow.holds Tryd.pinned (OpenSpec.ofChange refsSetsWrong)

/-- 'sleuthlaw12.RefsFinds': WHATEVER THE INPUT: true; the input reads as it did. -/
def refsFindsSpec : ChangeSpec := { name := "refsFinds", fn := fun _ => fun
  | [d1, d2, d3] => { results := [.lit (.bool true)], args := [d1, d2, d3] }
  | _ => none }
def refsFindsRow : OpenClaim := { program := "ytoakbdmfoepdgaadoor", sum := "4f020e814362ac52fa73a626a479578e9cc0617604ec3f00d06b39505b1215c9", func := "sleuth/sleuthlaw12.RefsFinds", spec := "refsFinds", inPlace := ["internal/bytealg.CountString", "internal/bytealg.IndexByteString", "internal/bytealg.IndexString", "internal/bytealg.abigen_runtime_cmpstring"], unfollowed := true, recurses := true, named := ["unicode/utf8.first", "unicode/utf8.acceptRanges", "internal/bytealg.MaxLen"], apart := false, laid := [("unicode/utf8.acceptRanges", laid_unicode_utf8_acceptRanges), ("unicode/utf8.first", laid_unicode_utf8_first)] }
def RefsFindsSaid : Prop := refsFindsRow.holds Tryd.pinned (OpenSpec.ofChange refsFindsSpec)

/-- ITS FALSE NEIGHBOUR: 'it returns false'. Refute it at one input. -/
def refsFindsWrong : ChangeSpec := { name := "refsFinds", fn := fun _ => fun
  | [d1, d2, d3] => { results := [.lit (.bool false)], args := [d1, d2, d3] }
  | _ => none }
def RefsFindsWrongFalsely : Prop := refsFindsRow.holds Tryd.pinned (OpenSpec.ofChange refsFindsWrong)

/-- 'sleuthlaw12.RefsKeeps': WHATEVER THE INPUT: true; the input reads as it did. -/
def refsKeepsSpec : ChangeSpec := { name := "refsKeeps", fn := fun _ => fun
  | [d1, d2, d3] => { results := [.lit (.bool true)], args := [d1, d2, d3] }
  | _ => none }
def refsKeepsRow : OpenClaim := { program := "ytoakbdmfoepdgaadoor", sum := "4f020e814362ac52fa73a626a479578e9cc0617604ec3f00d06b39505b1215c9", func := "sleuth/sleuthlaw12.RefsKeeps", spec := "refsKeeps", inPlace := ["internal/bytealg.CountString", "internal/bytealg.IndexByteString", "internal/bytealg.IndexString", "internal/bytealg.abigen_runtime_cmpstring", "slices.overlaps[sleuth/api.Ref]"], unfollowed := true, recurses := true, named := ["unicode/utf8.first", "unicode/utf8.acceptRanges", "internal/bytealg.MaxLen"], apart := false, laid := [("unicode/utf8.acceptRanges", laid_unicode_utf8_acceptRanges), ("unicode/utf8.first", laid_unicode_utf8_first)] }
def RefsKeepsSaid : Prop := refsKeepsRow.holds Tryd.pinned (OpenSpec.ofChange refsKeepsSpec)

/-- ITS FALSE NEIGHBOUR: 'it returns false'. Refute it at one input. -/
def refsKeepsWrong : ChangeSpec := { name := "refsKeeps", fn := fun _ => fun
  | [d1, d2, d3] => { results := [.lit (.bool false)], args := [d1, d2, d3] }
  | _ => none }
def RefsKeepsWrongFalsely : Prop := refsKeepsRow.holds Tryd.pinned (OpenSpec.ofChange refsKeepsWrong)

/- THE SECOND FORM. 'bulk': how many values and letters a reading holds, each counted each time it is reached (what is shared counts as often as it is met; a slice's spare places count too). A statement '..UptoSaid' is the law's where the arguments, and the package variables that the reading takes, are together of bulk at most 1048576: NARROWER than '..Said'. Prove '..Said' where nothing that the law and all that it calls make is longer than what came in: it says more and counts as full. Else prove '..UptoSaid'. A law counts once. -/
mutual
def uptoBulk {H : Type} : DataW H → Nat
  | .lit (.string bytes) => bytes.length + 1
  | .lit _ => 1
  | .nil => 1
  | .ptr d => uptoBulk d + 1
  | .slice elems spare => uptoBulkAll elems + uptoBulkAll spare + 1
  | .agg parts => uptoBulkAll parts + 1
  | .iface _ d => uptoBulk d + 1
  | .map entries => uptoBulkEntries entries + 1
  | .held _ => 1
def uptoBulkAll {H : Type} : List (DataW H) → Nat
  | [] => 0
  | d :: r => uptoBulk d + uptoBulkAll r
def uptoBulkEntries {H : Type} : List (Lit × DataW H) → Nat
  | [] => 0
  | x :: r => uptoBulkEntry x + uptoBulkEntries r
def uptoBulkEntry {H : Type} : Lit × DataW H → Nat
  | (.string bytes, d) => bytes.length + uptoBulk d + 1
  | (_, d) => uptoBulk d + 1
 end
def uptoSmall : (H : Type) → List (DataW H) → Bool := fun _ ds => decide (uptoBulkAll ds ≤ 1048576)
def OpenSpec.upto (s : _root_.Go.ChangeSpec) : _root_.Go.OpenSpec := { _root_.Go.OpenSpec.ofChange s with cond := some uptoSmall }

/-- 'sleuthlaw12.RefsPuts', WHERE WHAT IT READS IS OF BULK AT MOST 1048576: true; the input reads as it did. -/
def refsPutsUptoRow : OpenClaim := { program := "ytoakbdmfoepdgaadoor", sum := "4f020e814362ac52fa73a626a479578e9cc0617604ec3f00d06b39505b1215c9", func := "sleuth/sleuthlaw12.RefsPuts", spec := "refsPuts", inPlace := ["internal/bytealg.CountString", "internal/bytealg.IndexByteString", "internal/bytealg.IndexString", "internal/bytealg.abigen_runtime_cmpstring"], unfollowed := true, recurses := true, named := ["unicode/utf8.first", "unicode/utf8.acceptRanges", "internal/bytealg.MaxLen"], apart := false, laid := [("unicode/utf8.acceptRanges", laid_unicode_utf8_acceptRanges), ("unicode/utf8.first", laid_unicode_utf8_first)], narrowed := true }
def RefsPutsUptoSaid : Prop := refsPutsUptoRow.holds Tryd.pinned (OpenSpec.upto refsPutsSpec)

/-- 'sleuthlaw12.RefsGets', WHERE WHAT IT READS IS OF BULK AT MOST 1048576: true; the input reads as it did. -/
def refsGetsUptoRow : OpenClaim := { program := "ytoakbdmfoepdgaadoor", sum := "4f020e814362ac52fa73a626a479578e9cc0617604ec3f00d06b39505b1215c9", func := "sleuth/sleuthlaw12.RefsGets", spec := "refsGets", inPlace := ["internal/bytealg.CountString", "internal/bytealg.IndexByteString", "internal/bytealg.IndexString", "internal/bytealg.abigen_runtime_cmpstring"], unfollowed := true, recurses := true, named := ["unicode/utf8.first", "unicode/utf8.acceptRanges", "internal/bytealg.MaxLen"], apart := false, laid := [("unicode/utf8.acceptRanges", laid_unicode_utf8_acceptRanges), ("unicode/utf8.first", laid_unicode_utf8_first)], narrowed := true }
def RefsGetsUptoSaid : Prop := refsGetsUptoRow.holds Tryd.pinned (OpenSpec.upto refsGetsSpec)

/-- 'sleuthlaw12.RefsSets', WHERE WHAT IT READS IS OF BULK AT MOST 1048576: true; the input reads as it did. -/
def refsSetsUptoRow : OpenClaim := { program := "ytoakbdmfoepdgaadoor", sum := "4f020e814362ac52fa73a626a479578e9cc0617604ec3f00d06b39505b1215c9", func := "sleuth/sleuthlaw12.RefsSets", spec := "refsSets", inPlace := ["internal/bytealg.CountString", "internal/bytealg.IndexByteString", "internal/bytealg.IndexString", "internal/bytealg.abigen_runtime_cmpstring", "slices.overlaps[sleuth/api.Ref]"], unfollowed := true, recurses := true, named := ["unicode/utf8.first", "unicode/utf8.acceptRanges", "internal/bytealg.MaxLen"], apart := false, laid := [("unicode/utf8.acceptRanges", laid_unicode_utf8_acceptRanges), ("unicode/utf8.first", laid_unicode_utf8_first)], narrowed := true }
def RefsSetsUptoSaid : Prop := refsSetsUptoRow.holds Tryd.pinned (OpenSpec.upto refsSetsSpec)

/-- 'sleuthlaw12.RefsFinds', WHERE WHAT IT READS IS OF BULK AT MOST 1048576: true; the input reads as it did. -/
def refsFindsUptoRow : OpenClaim := { program := "ytoakbdmfoepdgaadoor", sum := "4f020e814362ac52fa73a626a479578e9cc0617604ec3f00d06b39505b1215c9", func := "sleuth/sleuthlaw12.RefsFinds", spec := "refsFinds", inPlace := ["internal/bytealg.CountString", "internal/bytealg.IndexByteString", "internal/bytealg.IndexString", "internal/bytealg.abigen_runtime_cmpstring"], unfollowed := true, recurses := true, named := ["unicode/utf8.first", "unicode/utf8.acceptRanges", "internal/bytealg.MaxLen"], apart := false, laid := [("unicode/utf8.acceptRanges", laid_unicode_utf8_acceptRanges), ("unicode/utf8.first", laid_unicode_utf8_first)], narrowed := true }
def RefsFindsUptoSaid : Prop := refsFindsUptoRow.holds Tryd.pinned (OpenSpec.upto refsFindsSpec)

/-- 'sleuthlaw12.RefsKeeps', WHERE WHAT IT READS IS OF BULK AT MOST 1048576: true; the input reads as it did. -/
def refsKeepsUptoRow : OpenClaim := { program := "ytoakbdmfoepdgaadoor", sum := "4f020e814362ac52fa73a626a479578e9cc0617604ec3f00d06b39505b1215c9", func := "sleuth/sleuthlaw12.RefsKeeps", spec := "refsKeeps", inPlace := ["internal/bytealg.CountString", "internal/bytealg.IndexByteString", "internal/bytealg.IndexString", "internal/bytealg.abigen_runtime_cmpstring", "slices.overlaps[sleuth/api.Ref]"], unfollowed := true, recurses := true, named := ["unicode/utf8.first", "unicode/utf8.acceptRanges", "internal/bytealg.MaxLen"], apart := false, laid := [("unicode/utf8.acceptRanges", laid_unicode_utf8_acceptRanges), ("unicode/utf8.first", laid_unicode_utf8_first)], narrowed := true }
def RefsKeepsUptoSaid : Prop := refsKeepsUptoRow.holds Tryd.pinned (OpenSpec.upto refsKeepsSpec)

end Rows
end Go.Proofs.YtoakbdmfoepdgaaDoor

/- What is proved: what bytes tell as entries, plain; entries out of bytes, by the program. Conditions: the bytes' cells are there. -/
import Derived.Test.YtcbgpbcfpeanjaaTsc
namespace Go.Proofs.Ytcbgpbcfpeanjaa
open Go.RowKit Go.Sort Go.Shelf
set_option linter.unusedVariables false

theorem restT_lt {l : List UInt8} (h0 : l ≠ []) (h : errT l = 0) : (restT l).length < l.length := by
  have h1 : 0 < l.length := List.length_pos_iff.2 h0
  rw [restT, if_pos h, bh, List.length_drop, List.length_drop, List.length_drop]
  omega
/-- The entries that bytes tell, behind others; or the error. -/
def getW (l : List UInt8) (es : List Ent) : List Ent × Int :=
  if h0 : l = [] then (if chk es = 0 then es else [], chk es) else if h : errT l = 0 then getW (restT l) (es ++ [entT l]) else ([], errT l)
termination_by l.length
decreasing_by exact restT_lt h0 h
theorem getW_nil (es : List Ent) : getW [] es = (if chk es = 0 then es else [], chk es) := by rw [getW, dif_pos rfl]
theorem getW_bad {l : List UInt8} (es : List Ent) (h0 : l ≠ []) (h : errT l ≠ 0) : getW l es = ([], errT l) := by rw [getW, dif_neg h0, dif_neg h]
theorem getW_step {l : List UInt8} (es : List Ent) (h0 : l ≠ []) (h : errT l = 0) : getW l es = getW (restT l) (es ++ [entT l]) := by rw [getW, dif_neg h0, dif_pos h]
end Go.Proofs.Ytcbgpbcfpeanjaa

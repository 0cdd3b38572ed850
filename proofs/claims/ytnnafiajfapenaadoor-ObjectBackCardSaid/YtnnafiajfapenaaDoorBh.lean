/- What is proved: what the walks of this seat need of layers below, merged out of the texts Rxg Rxh (of each just what is needed). Conditions: each theorem names its own. -/
import Derived.Test.YtnnafiajfapenaaDoorBe
import Derived.Test.YtnnafiajfapenaaDoorBf
import Derived.Test.YtnnafiajfapenaaDoorBg
/- What is proved: bytes as a tag, by the document. Conditions: the bytes' cells are there, not too many. -/
namespace Go.Proofs.YtnnafiajfapenaaDoor
open Go.RowKit Go.Sort Go.Shelf
open Ids (idC dgt big idC_size idC_get idC_one cellD zero32 size32 dgt_lt hexB)
set_option linter.unusedVariables false
/-- What stands while a tag is read. -/
structure Qm (w wr : World) (T : Nat) (k : Int) (a : List UInt8) (n : Int) (t : List UInt8) : Prop where
  fr : Fr (fun _ => False) w wr
  zero : Whole wr w.heap.size 56 zeroM
  mark : MarkAt wr (w.heap.size + 1) T k a n t
section
variable {w wr w' : World} {T : Nat} {k : Int} {a : List UInt8} {n : Int} {t : List UInt8}
theorem Qm.later (h : Qm w wr T k a n t) (f : Fr (fun _ => False) wr w') : Qm w w' T k a n t :=
  ⟨h.fr.trans f (fun _ _ e => e), h.zero.fr f (fun e => e), h.mark.fr f⟩
theorem Qm.put (h : Qm w wr T k a n t) {p : Addr} (hp : p.block = w.heap.size + 1) (u : Value) {k' : Int} {a' : List UInt8} {n' : Int} {t' : List UInt8} (hr : MarkAt (wr.setCell p u) (w.heap.size + 1) T k' a' n' t') : Qm w (wr.setCell p u) T k' a' n' t' := by
  have f : Fr (fun k => k = w.heap.size + 1) wr (wr.setCell p u) := Fr.setCell (S := fun k => k = w.heap.size + 1) (Fr.refl _ wr) (fun _ => hp) u
  exact ⟨h.fr.trans f (fun i hi e => by omega), h.zero.fr f (fun e => by omega), hr⟩
end
end Go.Proofs.YtnnafiajfapenaaDoor

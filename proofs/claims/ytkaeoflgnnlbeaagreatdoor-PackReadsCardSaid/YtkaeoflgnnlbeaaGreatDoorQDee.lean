/- What is proved: texts that stand one behind the other: Dee. Conditions: each theorem names its own. -/
import Derived.Test.YtkaeoflgnnlbeaaGreatDoorQDba
import Derived.Test.YtkaeoflgnnlbeaaGreatDoorQDe
import Derived.Test.YtkaeoflgnnlbeaaGreatDoorQDeb
/- What is proved: what the walks of this seat need of layers below, merged out of the texts Dee (of each just what is needed). Conditions: each theorem names its own. -/
/- What is proved: a script, as the document's, and in memory of its own. Conditions: the ops' cells are there; at most 400 ops. -/
namespace Go.Proofs.YtkaeoflgnnlbeaaGreatDoor
open Go.RowKit
set_option linter.unusedVariables false
def zeroO : Array Value := #[.bool false, .int .i64 0, .int .i64 0, .slice none 0 0]
theorem infoQO : (Tryz.prog.info? 142).map (fun i => (i.zero, i.size, i.bytes)) = some (some (.agg zeroO), 4, 48) := by kernel_rfl
theorem infoDO : (Tryz.prog.info? 170).map (fun i => (i.zero, i.size, i.bytes)) = some (some (.agg zeroO), 4, 48) := by kernel_rfl
theorem src_op (w : World) (t e : TypeId) (ht : Tryz.prog.underlying t = some (.slice e)) (p : POp) : Src Tryz.prog 4 t (.slice (some ⟨w.heap.size, 0, none⟩) 1 1) 1 p.cells (w.alloc (.cells #[.bool p.o.copy, .int .i64 p.o.frm, .int .i64 p.o.n, .slice p.B p.o.b.length p.c] e)) :=
  Src.ofSlice _ ht ⟨w.heap.size, 0, none⟩ 1 1 p.cells rfl (fun j u hu => by
    rw [add_off, Nat.zero_add, (Whole.new w e _).cell, ← Array.getElem?_toList]; exact hu) p.one
/-- A row of ops of the call's own. -/
def OwnP (t : TypeId) (w0 w : World) (v : Value) (ps : List POp) : Prop := w.ownsRow w0.heap.size t 4 v ps.length (flatP ps)
theorem OwnP.scr {t : TypeId} {w0 w : World} {v : Value} {ps : List POp} (h : OwnP t w0 w v ps) (hok : ∀ p ∈ ps, p.Ok w) : ∃ A c, v = .slice A ps.length c ∧ Scr w A c ps ∧ ∀ ad, A = some ad → w0.heap.size ≤ ad.block := by
  obtain ⟨A, c, hv, h1, h2⟩ := own_slice h
  subst hv
  refine ⟨A, c, rfl, ⟨?_, hok, h1, h2⟩, ?_⟩
  · rcases own_shape h with ⟨hv, h0, hx⟩ | ⟨g, cap, hv, _, _, hg⟩
    · exact .inl hx
    · injection hv with e1 e2 e3
      subst e1; subst e3
      refine .inr ⟨g, 0, rfl, fun j u hu => ?_⟩
      have hj : j < ps.length * 4 := by
        have := (List.getElem?_eq_some_iff.1 hu).1
        rwa [flatP_len] at this
      rw [Nat.zero_add, World.ownsRow.cellAt h j hj]
      exact hu
  · intro ad hA
    subst hA
    rcases own_shape h with ⟨hv, h0, hx⟩ | ⟨g, cap, hv, _, _, hg⟩
    · cases hv
    · injection hv with e1 e2 e3
      injection e1 with e1
      subst e1
      exact hg
end Go.Proofs.YtkaeoflgnnlbeaaGreatDoor

/- What is proved: texts that stand one behind the other: Dpc. Conditions: each theorem names its own. -/
import Derived.OrdersHeld
import Derived.Test.YtkaeoflgnnlbeaaGreatDoorQDf
import Derived.Test.YtkaeoflgnnlbeaaGreatDoorQDem
import Derived.Test.YtkaeoflgnnlbeaaGreatDoorQDef
/- What is proved: what the walks of this seat need of layers below, merged out of the texts Dpc (of each just what is needed). Conditions: each theorem names its own. -/
/- What is proved: a script in memory of its own, as the law makes it. Conditions: the ops' cells are there; at most 400 ops; no row of bytes is longer than any machine's. -/
namespace Go.Proofs.YtkaeoflgnnlbeaaGreatDoor
open Go.RowKit
set_option linter.unusedVariables false
/-- Ops in a row of the call's own; their bytes too. -/
structure Ml (w0 w : World) (v : Value) (ps : List POp) : Prop where
  own : w.ownsRow w0.heap.size 170 4 v ps.length (flatP ps)
  ok : ∀ p ∈ ps, p.Ok w
  old : ∀ p ∈ ps, ∀ ad, p.B = some ad → ad.block < w.heap.size ∧ v.ownBlock ≠ some ad.block ∧ w0.heap.size ≤ ad.block
theorem Ml.nil (w : World) : Ml w w (.slice none 0 0) [] := ⟨World.ownsRow_nil _ _ _ _, by simp, by simp⟩
theorem Ml.frS {S : Nat → Prop} {w0 w w' : World} {v : Value} {ps : List POp} (h : Ml w0 w v ps) (f : Fr S w w') (hS : ∀ j, S j → j < w0.heap.size) : Ml w0 w' v ps := by
  refine ⟨own_fr h.own f (fun k hk hs => ?_), fun p hp => ?_, fun p hp ad hA => ⟨Nat.lt_of_lt_of_le (h.old p hp ad hA).1 f.size, (h.old p hp ad hA).2⟩⟩
  · have h1 := (World.ownsRow.lt h.own k hk).1
    have h2 := hS k hs
    omega
  · have h0 := h.ok p hp
    exact ⟨h0.f, h0.n, h0.le, h0.cap, h0.lies.fr f (fun ad hA hs => by
      have h1 := (h.old p hp ad hA).2.2
      have h2 := hS _ hs
      omega)⟩
theorem Ml.fr {w0 w w' : World} {v : Value} {ps : List POp} (h : Ml w0 w v ps) (f : Fr (fun _ => False) w w') : Ml w0 w' v ps := h.frS f (fun _ e => e.elim)
theorem Ml.push {w0 w w6 : World} {v v6 : Value} {ps : List POp} {p : POp} (h : Ml w0 w v ps) (hp : p.Ok w) (hpo : ∀ ad, p.B = some ad → ad.block < w.heap.size ∧ v.ownBlock ≠ some ad.block ∧ w0.heap.size ≤ ad.block)
    (o6 : w6.ownsRow w0.heap.size 170 4 v6 (ps.length + 1) (flatP ps ++ p.cells)) (f6 : Fr (fun j => v.ownBlock = some j) w w6)
    (hat : v6.ownBlock = v.ownBlock ∨ ∃ j, v6.ownBlock = some j ∧ w.heap.size ≤ j) : Ml w0 w6 v6 (ps ++ [p]) := by
  have hall : ∀ q ∈ ps ++ [p], q.Ok w ∧ ∀ ad, q.B = some ad → ad.block < w.heap.size ∧ v.ownBlock ≠ some ad.block ∧ w0.heap.size ≤ ad.block := fun q hq => by
    rcases List.mem_append.1 hq with h1 | h1
    · exact ⟨h.ok q h1, h.old q h1⟩
    · rw [List.mem_singleton.1 h1]; exact ⟨hp, hpo⟩
  refine ⟨by rw [List.length_append, flatP_append, flatP_one]; exact o6, fun q hq => ?_, fun q hq ad hA => ?_⟩
  · obtain ⟨h0, h1⟩ := hall q hq
    exact ⟨h0.f, h0.n, h0.le, h0.cap, h0.lies.fr f6 (fun ad hA => (h1 ad hA).2.1)⟩
  · obtain ⟨h2, h3, h33⟩ := (hall q hq).2 ad hA
    refine ⟨Nat.lt_of_lt_of_le h2 f6.size, ?_, h33⟩
    rcases hat with h4 | ⟨j, h4, h5⟩
    · rw [h4]; exact h3
    · rw [h4]; intro e; injection e with e; omega
theorem Ml.slice {w0 w : World} {v : Value} {ps : List POp} (h : Ml w0 w v ps) : ∃ A c, v = .slice A ps.length c ∧ Scr w A c ps ∧ ∀ ad, A = some ad → w0.heap.size ≤ ad.block := OwnP.scr h.own h.ok
end Go.Proofs.YtkaeoflgnnlbeaaGreatDoor

/- What is proved: what the walks of this seat need of layers below, merged out of the texts Lat (of each just what is needed). Conditions: each theorem names its own. -/
import Derived.Deep.QuietTactic
import Derived.Test.YtgmohgofcjemkaaDoorBa
/- What is proved: a region that draws its order, whose operations only read and whose callees only lay blocks of their own, is walked once, in the order of its text. Conditions: none; no program is named. -/
namespace Go.Proofs.YtgmohgofcjemkaaDoor
open Go.RowKit
set_option linter.unusedVariables false
/-- A world in which all that lay in w lies as it lay. -/
structure Later (w : World) where
  w' : World
  fr : Fr (fun _ => False) w w'
instance (w : World) : Inhabited (Later w) := ⟨⟨w, Fr.refl _ w⟩⟩
theorem wp_region_later {P : Program} {id : Nat} {Q : Exit → Act → World → Prop} {a : Act} {w w0 : World} {l : List Oper} (hf : Fr (fun _ => False) w0 w) (hm : P.follows .mixedOrders = true) (hB : Region.lexB .any l.toArray = true)
    (h : wpQuiet P l.toArray (fun w' => ∃ q : Later w0, w' = q.w') (fun a' => ∀ w', (∃ q : Later w0, w' = q.w') → Q .normal a' w') l a) : (Code.region id l.toArray true).wp P Q a w :=
  wp_region_quiet (C := fun w' => ∃ q : Later w0, w' = q.w') hm hB ⟨⟨_, hf.drew⟩, rfl⟩ (by simpa using h)
/-- A callee's contract, met in a later world. -/
theorem Calls.later_of {P : Program} {f : FuncId} {args : Array Value} {w : World} {q : Later w} {v : Value}
    (h : Calls P f args q.w' fun e w' => e = .returned v ∧ Below q.w'.heap.size q.w' w') : Calls P f args q.w' fun e w'' => e = .returned v ∧ ∃ p : Later w, w'' = p.w' :=
  h.mono fun _ _ ⟨he, b⟩ => ⟨he, ⟨_, q.fr.then_below b⟩, rfl⟩
theorem Calls.later_of_same {P : Program} {f : FuncId} {args : Array Value} {w : World} {q : Later w} {v : Value}
    (h : Calls P f args q.w' fun e w' => e = .returned v ∧ q.w' = w') : Calls P f args q.w' fun e w'' => e = .returned v ∧ ∃ p : Later w, w'' = p.w' :=
  h.mono fun _ _ ⟨he, b⟩ => ⟨he, q, b.symm⟩
end Go.Proofs.YtgmohgofcjemkaaDoor

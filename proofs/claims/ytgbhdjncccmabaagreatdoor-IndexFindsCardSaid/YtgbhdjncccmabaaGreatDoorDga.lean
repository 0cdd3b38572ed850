/- What is proved: what the walks of this seat need of layers below, merged out of the texts Pts (of each just what is needed). Conditions: each theorem names its own. -/
import Derived.Deep.Slices
import Derived.Test.YtgbhdjncccmabaaGreatDoorDg
/- What is proved: what it is that a list of slices of bytes lies in memory, and how an argument that is such a list is opened. Conditions: none; no program is named. -/
namespace Go.Proofs.YtgbhdjncccmabaaGreatDoor
open Go.ChangeShapes Go.WideShapes Go.ChangeAt Go.RowKit Go.Deep
set_option linter.unusedVariables false
/-- Parts: where their bytes lie. -/
def Parts (w : World) (A : Option Addr) (ps : List (List UInt8)) : Prop :=
  ps = [] ∨ ∃ b o, A = some ⟨b, o, none⟩ ∧ ∀ i p, ps[i]? = some p → ∃ Ai ci, w.cell? ⟨b, o + i, none⟩ = some (.slice Ai p.length ci) ∧ p.length ≤ ci ∧ Lies w Ai (bytesV p)
theorem Parts.fr {w w' : World} {A : Option Addr} {ps : List (List UInt8)} (h : Parts w A ps) (f : Fr (fun _ => False) w w') : Parts w' A ps := by
  rcases h with h | ⟨b, o, rfl, hc⟩
  · exact .inl h
  · refine .inr ⟨b, o, rfl, fun i p hi => ?_⟩
    obtain ⟨Ai, ci, h1, h2, h3⟩ := hc i p hi
    exact ⟨Ai, ci, f.cell h1 (fun e => e), h2, h3.fr f (fun _ _ e => e)⟩
theorem flatten_take_succ (ps : List (List UInt8)) (k : Nat) (p : List UInt8) (h : ps[k]? = some p) : (ps.take (k + 1)).flatten = (ps.take k).flatten ++ p := by
  rw [List.take_add_one, h, Option.toList_some, List.flatten_append]
  simp
theorem flatten_take_le (ps : List (List UInt8)) (k : Nat) : (ps.take k).flatten.length ≤ ps.flatten.length := by
  conv => rhs; rw [← List.take_append_drop k ps, List.flatten_append, List.length_append]
  omega
end Go.Proofs.YtgbhdjncccmabaaGreatDoor

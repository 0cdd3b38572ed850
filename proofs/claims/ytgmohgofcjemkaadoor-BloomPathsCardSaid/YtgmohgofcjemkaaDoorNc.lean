/- What is proved: what the walks of this seat need of layers below, merged out of the texts Nc (of each just what is needed). Conditions: each theorem names its own. -/
import Derived.Test.YtgmohgofcjemkaaDoorNb
/- What is proved: a filter's bits, whether a filter has a key, by the document. Conditions: the cells are there. -/
namespace Go.Proofs.YtgmohgofcjemkaaDoor
open Go.RowKit Go.Shelf
set_option linter.unusedVariables false
/-- Is the n-th bit of a filter 1? -/
def bitB (f : List UInt8) (n : Nat) : Bool := decide ((f.getD (n / 8) 0).toNat / 2 ^ (n % 8) % 2 = 1)
/-- Has a filter a key? -/
def hasB (f : List UInt8) (key : List UInt8) : Bool := f == [] || (plL key (8 * f.length)).all (bitB f)
theorem Whole.frozenN {w : World} {g : Nat} {t : TypeId} {cs : Array Value} (h : Whole w g t cs) (i : Nat) : w.frozen? ⟨g, i, none⟩ = false := by
  unfold Whole at h
  simp [World.frozen?, h]
theorem lies_u8 {w w' : World} {A : Option Addr} {l : List UInt8} (h : Lies w A (bytesV l)) (f : Fr (fun _ => False) w w') (k : Nat) (hk : k < l.length) : ∃ b o, A = some ⟨b, o, none⟩ ∧ w'.cell? ⟨b, o + k, none⟩ = some (.int .u8 ((l.getD k 0).toNat : Nat)) := by
  have e : (bytesV l)[k]? = some (.int .u8 ((l.getD k 0).toNat : Nat)) := by
    unfold bytesV
    rw [List.getElem?_map, List.getElem?_eq_getElem hk, List.getD_eq_getElem?_getD, List.getElem?_eq_getElem hk]; rfl
  rcases h with h | ⟨b, o, rfl, hc⟩
  · rw [h] at e; simp at e
  · exact ⟨b, o, rfl, f.cell (hc k _ e) (fun e => e)⟩
theorem all_get {p : Nat → Bool} {l : List Nat} (h : ∀ k, k < l.length → p (l.getD k 0) = true) : l.all p = true := by
  rw [List.all_eq_true]
  intro x hx
  obtain ⟨k, hk, rfl⟩ := List.getElem_of_mem hx
  have := h k hk
  rwa [List.getD_eq_getElem?_getD, List.getElem?_eq_getElem hk] at this
theorem all_not {p : Nat → Bool} {l : List Nat} {k : Nat} (hk : k < l.length) (h : p (l.getD k 0) = false) : l.all p = false := by
  rw [List.all_eq_false]
  refine ⟨l[k], List.getElem_mem hk, ?_⟩
  rw [List.getD_eq_getElem?_getD, List.getElem?_eq_getElem hk, Option.getD_some] at h
  simp [h]
end Go.Proofs.YtgmohgofcjemkaaDoor

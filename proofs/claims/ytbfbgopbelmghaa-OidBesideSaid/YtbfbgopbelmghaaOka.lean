/- What is proved: the cells of a question on ids (a list, a beginning, an id, a number); a stretch of a row, as a load reads it. Conditions: none. -/
import Derived.Test.YtbfbgopbelmghaaOru
import Derived.Test.YtbfbgopbelmghaaOje
import Derived.OrdersHeld
namespace Go.Proofs.Ytbfbgopbelmghaa
open Go.RowKit
set_option linter.unusedVariables false

def askC (A : Option Addr) (cap : Nat) (l : List Nat) (a : Nat) (N : Int) (i : Nat) (L : Int) : Array Value := #[Value.slice A l.length cap] ++ pfC (dgt a) N ++ idC (dgt i) ++ #[.int .i64 L]
section
variable (A : Option Addr) (cap : Nat) (l : List Nat) (a : Nat) (N : Int) (i : Nat) (L : Int)
theorem askC_size : (askC A cap l a N i L).size = 67 := by simp [askC, pfC_size, idC_size]
theorem askC_list : askC A cap l a N i L = #[Value.slice A l.length cap] ++ pfC (dgt a) N ++ idC (dgt i) ++ #[.int .i64 L] := rfl
theorem askC_first : (askC A cap l a N i L)[0]? = some (.slice A l.length cap) := by
  rw [askC, Array.append_assoc, Array.append_assoc, Array.getElem?_append_left (by simp)]; rfl
theorem askC_pfx (j : Nat) (v : Value) (h : (pfC (dgt a) N).toList[j]? = some v) : (askC A cap l a N i L)[1 + j]? = some v := by
  have hj : j < 33 := by
    have := (List.getElem?_eq_some_iff.1 h).1
    rwa [Array.length_toList, pfC_size] at this
  rw [askC, Array.append_assoc, Array.append_assoc, Array.getElem?_append_right (by simp), Array.getElem?_append_left (by simp [pfC_size]; omega)]
  rw [Array.getElem?_toList] at h
  simpa using h
theorem askC_id (j : Nat) (v : Value) (h : (idC (dgt i)).toList[j]? = some v) : (askC A cap l a N i L)[34 + j]? = some v := by
  have hj : j < 32 := by
    have := (List.getElem?_eq_some_iff.1 h).1
    rwa [Array.length_toList, idC_size] at this
  rw [askC, Array.append_assoc, Array.getElem?_append_right (by simp [pfC_size]), Array.getElem?_append_left (by simp [pfC_size, idC_size]; omega)]
  rw [Array.getElem?_toList] at h
  simpa [pfC_size] using h
theorem askC_last : (askC A cap l a N i L)[66]? = some (.int .i64 L) := by
  rw [askC, Array.getElem?_append_right (by simp [pfC_size, idC_size])]
  simp [pfC_size, idC_size]
end

/-- A list of the call's own, as a slice. -/
theorem OwnI.shape {w0 w : World} {v : Value} {ns : List Nat} {n : Nat} (h : OwnI w0 w v ns) (hn : ns.length = n) : ∃ A c, v = .slice A n c ∧ Lies w A (flatI ns) ∧ Fr (fun _ => False) w0 w := by
  obtain ⟨A, c, hv, _, _, _, hl⟩ := h.slice
  exact ⟨A, c, by rw [hv, hn], hl, h.2⟩
/-- A stretch of a row, as a load reads it. -/
theorem load_mid {w w' : World} {g o n : Nat} {t : TypeId} {Z cs : Array Value} (h : Whole w g t Z) (f : Fr (fun _ => False) w w') (hn : n = cs.size) (hz : ∀ j v, cs.toList[j]? = some v → Z[o + j]? = some v) : (loadCellsFrom ⟨g, o, none⟩ 0 n #[]).run Try.prog w' = .ok cs w' := by
  subst hn
  have k := h.fr f (fun e => e)
  have h2 := run_loadCells_list (P := Try.prog) w' ⟨g, o, none⟩ cs.toList (fun j v hv => by
    rw [add_off, k.cell]
    exact hz j v hv)
  rw [Array.length_toList, Array.toArray_toList] at h2
  simpa [loadCells] using h2
end Go.Proofs.Ytbfbgopbelmghaa

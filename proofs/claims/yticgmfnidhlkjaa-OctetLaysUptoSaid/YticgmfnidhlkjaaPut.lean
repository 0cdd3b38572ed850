/- What is proved: a list of a Writer's calls as a law takes it: where its cells lie, and how many bytes it lays in all. Conditions: none. -/
import Derived.Test.YticgmfnidhlkjaaFwd
namespace Go.Proofs.Yticgmfnidhlkjaa
open Go.RowKit
set_option linter.unusedVariables false

/-- A call of a Writer. -/
structure PutD where
  d : Int
  n : Int
  s : ByteArray
def PutD.ok (p : PutD) : Prop := -9223372036854775808 ≤ p.d ∧ p.d ≤ 9223372036854775807 ∧ 0 ≤ p.n ∧ p.n < 18446744073709551616 ∧ p.s.size ≤ maxLen
def PutD.laid (p : PutD) : List UInt8 := laidB p.d p.n p.s.data.toList
def laidAll (l : List PutD) : List UInt8 := l.flatMap PutD.laid
def totB (l : List PutD) : Nat := (l.map fun p => p.s.size + 10).sum

/-- The cells of the calls lie at A. -/
def PLies (w : World) (A : Option Addr) (l : List PutD) : Prop :=
  l = [] ∨ ∃ b o, A = some ⟨b, o, none⟩ ∧ ∀ k p, l[k]? = some p → w.cell? ⟨b, o + k * 3, none⟩ = some (.int .i64 p.d) ∧ w.cell? ⟨b, o + k * 3 + 1, none⟩ = some (.int .u64 p.n) ∧ w.cell? ⟨b, o + k * 3 + 2, none⟩ = some (.string p.s)

theorem PLies.below {w w' : World} {A : Option Addr} {l : List PutD} (h : PLies w A l) (f : Below w.heap.size w w') : PLies w' A l := by
  rcases h with h | ⟨b, o, rfl, hc⟩
  · exact .inl h
  · refine .inr ⟨b, o, rfl, fun k p hp => ?_⟩
    obtain ⟨h1, h2, h3⟩ := hc k p hp
    exact ⟨(f.cell (p := ⟨b, o + k * 3, none⟩) (World.block_lt_of_cell? w _ h1)).trans h1, (f.cell (p := ⟨b, o + k * 3 + 1, none⟩) (World.block_lt_of_cell? w _ h2)).trans h2, (f.cell (p := ⟨b, o + k * 3 + 2, none⟩) (World.block_lt_of_cell? w _ h3)).trans h3⟩
theorem PLies.addr {w : World} {A : Option Addr} {l : List PutD} (h : PLies w A l) {k : Nat} (hk : k < l.length) : ∃ b o, A = some ⟨b, o, none⟩ := by
  rcases h with h | ⟨b, o, h, _⟩
  · subst h; simp at hk
  · exact ⟨b, o, h⟩
theorem PLies.cells {w : World} {b o : Nat} {l : List PutD} (h : PLies w (some ⟨b, o, none⟩) l) {k : Nat} {p : PutD} (hp : l[k]? = some p) :
    w.cell? ⟨b, o + k * 3, none⟩ = some (.int .i64 p.d) ∧ w.cell? ⟨b, o + k * 3 + 1, none⟩ = some (.int .u64 p.n) ∧ w.cell? ⟨b, o + k * 3 + 2, none⟩ = some (.string p.s) := by
  rcases h with h | ⟨b', o', h, hc⟩
  · subst h; simp at hp
  · injection h with h
    injection h with h1 h2
    subst h1; subst h2
    exact hc k p hp

theorem laidAll_length (l : List PutD) : (laidAll l).length ≤ totB l := by
  induction l with
  | nil => simp [laidAll, totB]
  | cons p l ih =>
    have h := laidB_length p.d p.n p.s.data.toList
    have hs : p.s.data.toList.length = p.s.size := by rw [Array.length_toList]; rfl
    unfold laidAll totB at ih ⊢
    rw [List.flatMap_cons, List.length_append, List.map_cons, List.sum_cons]
    unfold PutD.laid
    unfold PutD.laid at ih
    omega
theorem laidAll_snoc {l : List PutD} {k : Nat} {p : PutD} (hp : l[k]? = some p) : laidAll (l.take (k + 1)) = laidAll (l.take k) ++ p.laid := by
  obtain ⟨hk, rfl⟩ := List.getElem?_eq_some_iff.1 hp
  unfold laidAll
  rw [List.take_succ_eq_append_getElem hk, List.flatMap_append, List.flatMap_cons, List.flatMap_nil, List.append_nil]
theorem totB_le {l : List PutD} {k : Nat} {p : PutD} (hp : l[k]? = some p) : (laidAll (l.take k)).length + p.s.size + 10 ≤ totB l := by
  obtain ⟨hk, rfl⟩ := List.getElem?_eq_some_iff.1 hp
  have h1 := laidAll_length (l.take k)
  have h2 : totB l = totB (l.take k) + totB (l.drop k) := by
    unfold totB
    rw [← List.sum_append, ← List.map_append, List.take_append_drop]
  have h3 : totB (l.drop k) = (l[k].s.size + 10) + totB (l.drop (k + 1)) := by
    rw [List.drop_eq_getElem_cons hk]
    rfl
  omega
theorem laidAll_drop {l : List PutD} {k : Nat} {p : PutD} (hp : l[k]? = some p) : ∃ rest, (laidAll l).drop (laidAll (l.take k)).length = p.laid ++ rest ∧ (laidAll (l.take k)).length ≤ (laidAll l).length := by
  obtain ⟨hk, rfl⟩ := List.getElem?_eq_some_iff.1 hp
  have e : laidAll l = laidAll (l.take k) ++ (l[k].laid ++ laidAll (l.drop (k + 1))) := by
    unfold laidAll
    conv => lhs; rw [← List.take_append_drop k l, List.drop_eq_getElem_cons hk]
    rw [List.flatMap_append, List.flatMap_cons]
  refine ⟨laidAll (l.drop (k + 1)), ?_, ?_⟩
  · conv => lhs; rw [e]
    rw [List.drop_left]
  · rw [e, List.length_append]; omega
end Go.Proofs.Yticgmfnidhlkjaa

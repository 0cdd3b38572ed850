/- What is proved: what the walks of this seat need of layers below, merged out of the texts Trg Trh Tro (of each just what is needed). Conditions: each theorem names its own. -/
import Derived.Sort.LotA
import Derived.Laws.OwnMore
import Derived.Sort.Walk0
import Derived.Lib.Bytealg
import Derived.Laws.StructEq
import Derived.Deep.RegionLaw
import Derived.Shelf.SlSortCmp.KitK
import Derived.Deep.RegionWith
import Derived.Test.YtgmohgofcjemkaaDoorBb
set_option maxRecDepth 100000
/- What is proved: plain facts on entries: texts in order, keys, an entry's cells, entries in a row, two entries held against one another whole. Conditions: none. -/
namespace Go.Proofs.YtgmohgofcjemkaaDoor
open Go.RowKit Go.Sort
set_option linter.unusedVariables false
/-! Texts in order. -/
def ltB (x y : List UInt8) : Bool := Op.bytesLess x y
theorem ltB_eq (x y : List UInt8) : ltB x y = decide (x < y) := bytesLess_eq x y
theorem ltB_nil (x : List UInt8) : ltB x [] = false := by rw [ltB_eq]; simp
theorem ltB_cons (a b : UInt8) (x y : List UInt8) : ltB (a :: x) (b :: y) = (decide (a < b) || (a == b && ltB x y)) := by
  rw [ltB_eq, ltB_eq, Bool.eq_iff_iff]
  simp [List.cons_lt_cons_iff]
theorem ltB_irrefl (x : List UInt8) : ltB x x = false := by
  induction x with
  | nil => exact ltB_nil _
  | cons a x ih => rw [ltB_cons, ih]; simp
theorem ltB_trans : ∀ (x y z : List UInt8), ltB x y = true → ltB y z = true → ltB x z = true
  | _, _, [], _, h2 => by rw [ltB_nil] at h2; cases h2
  | _, [], _ :: _, h1, _ => by rw [ltB_nil] at h1; cases h1
  | [], _ :: _, _ :: _, _, _ => by rw [ltB_eq]; simp
  | a :: x, b :: y, c :: z, h1, h2 => by
    rw [ltB_cons] at *
    simp only [Bool.or_eq_true, decide_eq_true_eq, Bool.and_eq_true, beq_iff_eq] at *
    rcases h1 with h1 | ⟨rfl, h1⟩
    · rcases h2 with h2 | ⟨rfl, h2⟩
      · exact .inl (UInt8.lt_trans h1 h2)
      · exact .inl h1
    · rcases h2 with h2 | ⟨rfl, h2⟩
      · exact .inl h2
      · exact .inr ⟨rfl, ltB_trans x y z h1 h2⟩
theorem ltB_total : ∀ (x y : List UInt8), ltB x y = false → ltB y x = false → x = y
  | [], [], _, _ => rfl
  | [], b :: y, h1, _ => by rw [ltB_eq] at h1; simp at h1
  | a :: x, [], _, h2 => by rw [ltB_eq] at h2; simp at h2
  | a :: x, b :: y, h1, h2 => by
    rw [ltB_cons] at *
    simp only [Bool.or_eq_false_iff, decide_eq_false_iff_not, Bool.and_eq_false_iff, beq_eq_false_iff_ne, ne_eq] at h1 h2
    have e : a = b := UInt8.le_antisymm (UInt8.not_lt.1 h2.1) (UInt8.not_lt.1 h1.1)
    subst e
    rw [ltB_total x y (by rcases h1.2 with h | h; exact absurd rfl h; exact h) (by rcases h2.2 with h | h; exact absurd rfl h; exact h)]
theorem ltB_asymm (x y : List UInt8) (h : ltB x y = true) : ltB y x = false := by
  cases e : ltB y x with
  | false => rfl
  | true => have := ltB_trans x y x h e; rw [ltB_irrefl] at this; cases this
/-! Entries. -/
structure Ent where
  name : List UInt8
  mode : Int
  id : List UInt8
  hn : name.length ≤ 140737488355327
  hm : -9223372036854775808 ≤ mode ∧ mode ≤ 9223372036854775807
  hi : id.length = 32
instance : Inhabited Ent := ⟨⟨[], 0, List.replicate 32 0, by decide, by decide, by decide⟩⟩
end Go.Proofs.YtgmohgofcjemkaaDoor
/- What is proved: an entry's key, and which of two entries stands behind the other, by the program and by the document. Conditions: none. -/
namespace Go.Proofs.YtgmohgofcjemkaaDoor
open Go.RowKit Go.Sort Go.Shelf
set_option linter.unusedVariables false
theorem grow_below (w : World) (n : Nat) (os : Array Obj) : Below w.heap.size w (grow (w.drewN n) os) := by
  have h : Fr (fun _ => False) w (grow (w.drewN n) os) := ⟨rfl, rfl, rfl, by rw [size_grow]; exact Nat.le_add_right _ _, fun k hk _ => Array.getElem?_append_left hk⟩
  exact h.below (fun _ _ e => e)
end Go.Proofs.YtgmohgofcjemkaaDoor
/- What is proved: whether entries may be a tree, by the document. Conditions: the list's cells are there. -/
namespace Go.Proofs.YtgmohgofcjemkaaDoor
open Go.RowKit Go.Sort Go.Shelf
set_option linter.unusedVariables false
theorem lt_str (x y : List UInt8) : Op.bytesLess (strB x).toList (strB y).toList = ltB x y := by rw [strB_list, strB_list]; rfl
end Go.Proofs.YtgmohgofcjemkaaDoor

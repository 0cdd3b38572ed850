/- What is proved: all lines of a commit are taken, by the program, or it gives up. Conditions: the text is not too long. -/
import Derived.Test.YtppddpbacpeadaaDoorRvm
namespace Go.Proofs.YtppddpbacpeadaaDoor
open Go.RowKit Go.Sort Go.Shelf
open Ids (idC dgt big idC_size idC_get idC_one cellD zero32 size32 dgt_lt hexB)
set_option linter.unusedVariables false

/-! What lines tell. -/
def parA : Nat → List Nat → List UInt8 → Option (List Nat × List UInt8)
  | k, acc, s => if begW wParent s = true then (match idL wParent s with
      | none => none
      | some (n, r) => match k with
        | 0 => none
        | k + 1 => parA k (acc ++ [n]) r)
    else some (acc, s)
structure RevP where
  T : Nat
  ps : List Nat
  a : List UInt8
  n : Nat
  t : List UInt8
def revL4 (T : Nat) (ps : List Nat) (a : List UInt8) (n : Nat) (r3 : List UInt8) : Option RevP := match textL r3 with
  | none => none
  | some t => some ⟨T, ps, a, n, t⟩
def revL3 (T : Nat) (ps : List Nat) (a r2 : List UInt8) : Option RevP := match numL wTime r2 with
  | none => none
  | some (n, r3) => revL4 T ps a n r3
def revL2 (T : Nat) (ps : List Nat) (r1 : List UInt8) : Option RevP := match takeL wAuthor r1 with
  | none => none
  | some (a, r2) => revL3 T ps a r2
def revL1 (T : Nat) (P : Option (List Nat × List UInt8)) : Option RevP := match P with
  | none => none
  | some (ps, r1) => revL2 T ps r1
def revL (s : List UInt8) : Option RevP := match idL wTree s with
  | none => none
  | some (T, r0) => revL1 T (parA r0.length [] r0)
theorem alloc_size (w : World) (o : Obj) : (w.alloc o).heap.size = w.heap.size + 1 := by simp
theorem idL_len {word s r : List UInt8} {n : Nat} (h : idL word s = some (n, r)) : r.length < s.length ∧ n < big := by
  unfold idL at h
  split at h
  · cases h
  · rename_i t r' ht
    split at h
    · cases h
    · rename_i m hm
      injection h with h
      injection h with h1 h2
      subst h1; subst h2
      refine ⟨(takeL_len ht).2, ?_⟩
      rcases readI_cases t with ⟨q, e1, e2, _, _⟩ | ⟨e1, _⟩
      · rw [hm] at e1; injection e1 with e1; subst e1; exact e2
      · rw [hm] at e1; cases e1
theorem numL_len {word s r : List UInt8} {n : Nat} (h : numL word s = some (n, r)) : r.length < s.length ∧ n < 1000000000000000 := by
  unfold numL at h
  split at h
  · cases h
  · rename_i t r' ht
    split at h
    · cases h
    · rename_i m hm
      injection h with h
      injection h with h1 h2
      subst h1; subst h2
      refine ⟨(takeL_len ht).2, ?_⟩
      rcases numW_cases t with ⟨e1, _, e2⟩ | ⟨e1, _⟩
      · rw [hm] at e1; injection e1 with e1; subst e1; exact e2
      · rw [hm] at e1; cases e1
theorem parA_end {k : Nat} {acc : List Nat} {s : List UInt8} (h : begW wParent s = false) : parA k acc s = some (acc, s) := by
  cases k <;> (unfold parA; rw [h]; rfl)
theorem parA_bad {k : Nat} {acc : List Nat} {s : List UInt8} (h : begW wParent s = true) (h2 : idL wParent s = none) : parA k acc s = none := by
  cases k <;> (unfold parA; rw [h, h2]; rfl)
theorem parA_go {k : Nat} {acc : List Nat} {s r : List UInt8} {n : Nat} (h : begW wParent s = true) (h2 : idL wParent s = some (n, r)) : parA (k + 1) acc s = parA k (acc ++ [n]) r := by
  conv => lhs; unfold parA
  rw [h, h2]; rfl
theorem parA_len : ∀ (k : Nat) (acc : List Nat) (s : List UInt8) (ps : List Nat) (r : List UInt8), parA k acc s = some (ps, r) → r.length ≤ s.length ∧ ps.length + r.length ≤ acc.length + s.length ∧ ((∀ n ∈ acc, n < big) → ∀ n ∈ ps, n < big) := by
  intro k
  induction k with
  | zero =>
    intro acc s ps r h
    cases hb : begW wParent s with
    | false =>
      rw [parA_end hb] at h
      injection h with h; injection h with h1 h2; subst h1; subst h2
      exact ⟨Nat.le_refl _, Nat.le_refl _, fun h => h⟩
    | true =>
      cases hi : idL wParent s with
      | none => rw [parA_bad hb hi] at h; cases h
      | some x =>
        unfold parA at h
        rw [hb, hi] at h
        simp at h
  | succ k ih =>
    intro acc s ps r h
    cases hb : begW wParent s with
    | false =>
      rw [parA_end hb] at h
      injection h with h; injection h with h1 h2; subst h1; subst h2
      exact ⟨Nat.le_refl _, Nat.le_refl _, fun h => h⟩
    | true =>
      cases hi : idL wParent s with
      | none => rw [parA_bad hb hi] at h; cases h
      | some x =>
        obtain ⟨n, r'⟩ := x
        rw [parA_go hb hi] at h
        obtain ⟨h1, h2, h3⟩ := ih _ _ _ _ h
        have hl := idL_len hi
        refine ⟨by omega, by rw [List.length_append, List.length_singleton] at h2; omega, fun ha => h3 (fun m hm => ?_)⟩
        rcases List.mem_append.1 hm with hm | hm
        · exact ha m hm
        · rw [List.mem_singleton] at hm; subst hm; exact hl.2

/-! A commit's cells, one after another. -/
def zeroR : Array Value := (List.replicate 32 (Value.int .u8 0) ++ [Value.slice none 0 0, Value.string ⟨#[]⟩, Value.int .i64 0, Value.string ⟨#[]⟩]).toArray
theorem zeroR_eq : zeroR = revC 0 (.slice none 0 0) [] 0 [] := by kernel_rfl
section
variable (T : Nat) (v : Value) (a : List UInt8) (n : Int) (t : List UInt8)
theorem revC_list : revC T v a n t = ((idC (dgt T)).toList ++ [v, .string (strB a), .int .i64 n, .string (strB t)]).toArray := by
  apply Array.toList_inj.1; simp [revC]
theorem revC_set (j : Nat) (u : Value) (hj : j < 4) : (revC T v a n t).setIfInBounds (32 + j) u = ((idC (dgt T)).toList ++ ([v, .string (strB a), .int .i64 n, .string (strB t)].set j u)).toArray := by
  apply Array.toList_inj.1
  rw [Array.toList_setIfInBounds, revC_list]
  have hl : (idC (dgt T)).toList.length = 32 := by rw [Array.length_toList, idC_size]
  simp only []
  rw [List.set_append_right _ _ (by rw [hl]; omega), hl, show 32 + j - 32 = j by omega]
theorem revC_set_v (u : Value) : (revC T v a n t).setIfInBounds 32 u = revC T u a n t := by rw [show 32 = 32 + 0 from rfl, revC_set _ _ _ _ _ 0 _ (by decide), revC_list]; rfl
theorem revC_set_a (b : List UInt8) : (revC T v a n t).setIfInBounds 33 (.string (strB b)) = revC T v b n t := by rw [show 33 = 32 + 1 from rfl, revC_set _ _ _ _ _ 1 _ (by decide), revC_list]; rfl
theorem revC_set_n (m : Int) : (revC T v a n t).setIfInBounds 34 (.int .i64 m) = revC T v a m t := by rw [show 34 = 32 + 2 from rfl, revC_set _ _ _ _ _ 2 _ (by decide), revC_list]; rfl
theorem revC_set_t (b : List UInt8) : (revC T v a n t).setIfInBounds 35 (.string (strB b)) = revC T v a n b := by rw [show 35 = 32 + 3 from rfl, revC_set _ _ _ _ _ 3 _ (by decide), revC_list]; rfl
theorem revC_laid (T' : Nat) : laidAt (revC T v a n t) 0 (idC (dgt T')) = revC T' v a n t := by
  apply Array.toList_inj.1
  rw [laidAt, revC_list, revC_list]
  have hl : (idC (dgt T)).toList.length = 32 := by rw [Array.length_toList, idC_size]
  simp [idC_size, hl]
end
section
variable {w : World} {g : Nat} {T : Nat} {v : Value} {a : List UInt8} {n : Int} {t : List UInt8}
theorem RevAt.frozen (h : RevAt w g T v a n t) (j : Nat) : w.frozen? ⟨g, j, none⟩ = false := Whole.frozen h j
theorem RevAt.setV (h : RevAt w g T v a n t) (u : Value) : RevAt (w.setCell ⟨g, 32, none⟩ u) g T u a n t := by have := Whole.set h 32 u; rwa [revC_set_v] at this
theorem RevAt.setA (h : RevAt w g T v a n t) (b : List UInt8) : RevAt (w.setCell ⟨g, 33, none⟩ (.string (strB b))) g T v b n t := by have := Whole.set h 33 (.string (strB b)); rwa [revC_set_a] at this
theorem RevAt.setN (h : RevAt w g T v a n t) (m : Int) : RevAt (w.setCell ⟨g, 34, none⟩ (.int .i64 m)) g T v a m t := by have := Whole.set h 34 (.int .i64 m); rwa [revC_set_n] at this
theorem RevAt.setT (h : RevAt w g T v a n t) (b : List UInt8) : RevAt (w.setCell ⟨g, 35, none⟩ (.string (strB b))) g T v a n b := by have := Whole.set h 35 (.string (strB b)); rwa [revC_set_t] at this
end
end Go.Proofs.YtppddpbacpeadaaDoor

/- What is proved: plain facts on lists of ids in memory and as numbers: where each lies, whether they rise, where an id stands. Conditions: none. -/
import Derived.Test.YtbfbgopbelmghaaOixB
namespace Go.Proofs.Ytbfbgopbelmghaa
open Go.RowKit
set_option linter.unusedVariables false

/-- A list's cells. -/
def flatI (ns : List Nat) : List Value := ns.flatMap fun n => (idC (dgt n)).toList
theorem flatI_cons (n : Nat) (ns : List Nat) : flatI (n :: ns) = (idC (dgt n)).toList ++ flatI ns := rfl
theorem flatI_append (a b : List Nat) : flatI (a ++ b) = flatI a ++ flatI b := List.flatMap_append
theorem flatI_len (ns : List Nat) : (flatI ns).length = ns.length * 32 := by
  induction ns with
  | nil => rfl
  | cons n ns ih => rw [flatI_cons, List.length_append, ih, Array.length_toList, idC_size, List.length_cons]; omega
theorem flatI_get (ns : List Nat) (i n j : Nat) (h : ns[i]? = some n) (hj : j < 32) : (flatI ns)[i * 32 + j]? = some (cellD (dgt n) j) := by
  induction ns generalizing i with
  | nil => simp at h
  | cons m ns ih =>
    rw [flatI_cons]
    have hl : (idC (dgt m)).toList.length = 32 := by rw [Array.length_toList, idC_size]
    cases i with
    | zero =>
      simp at h
      subst h
      rw [List.getElem?_append_left (by omega), Nat.zero_mul, Nat.zero_add, Array.getElem?_toList, idC_get _ j hj]
    | succ i =>
      rw [List.getElem?_append_right (by omega), hl, show (i + 1) * 32 + j - 32 = i * 32 + j by omega]
      exact ih i (by simpa using h)
theorem flatI_one (ns : List Nat) : ∀ u ∈ flatI ns, u.oneCell' = true := fun u hu => by
  obtain ⟨n, _, hn⟩ := List.mem_flatMap.1 hu
  exact (Array.all_eq_true_iff_forall_mem.1 (idC_one (dgt n))) u (by simpa using hn)
/-- One id of a list is read. -/
theorem load_at {w w' : World} {b o : Nat} {ns : List Nat} {i n : Nat} (h : Lies w (some ⟨b, o, none⟩) (flatI ns)) (hi : ns[i]? = some n) (f : Fr (fun _ => False) w w') : (loadCellsFrom ⟨b, o + i * 32, none⟩ 0 32 #[]).run Try.prog w' = .ok (idC (dgt n)) w' := by
  have hc : ∀ j v, (idC (dgt n)).toList[j]? = some v → w.cell? ⟨b, o + i * 32 + j, none⟩ = some v := fun j v hv => by
    have hj : j < 32 := by
      have := (List.getElem?_eq_some_iff.1 hv).1
      rwa [Array.length_toList, idC_size] at this
    rw [Array.getElem?_toList, idC_get _ j hj] at hv
    rcases h with h | ⟨b', o', hA, hc⟩
    · have := flatI_get ns i n j hi hj
      rw [h] at this
      simp at this
    · cases hA
      rw [Nat.add_assoc, ← hv]
      exact hc _ _ (flatI_get ns i n j hi hj)
  have h2 := run_loadCells_list (P := Try.prog) w' ⟨b, o + i * 32, none⟩ (idC (dgt n)).toList (fun j v hv => by
    rw [add_off]
    exact f.cell (hc j v hv) (fun e => e))
  rw [Array.length_toList, idC_size, Array.toArray_toList] at h2
  simpa [loadCells] using h2
theorem range_at {w w' : World} {b o : Nat} {ns : List Nat} {i n : Nat} (h : Lies w (some ⟨b, o, none⟩) (flatI ns)) (hi : ns[i]? = some n) (f : Fr (fun _ => False) w w') : w'.rangeAt b (o + i * 32) (idC (dgt n)).toList := fun j v hv => by
  have hj : j < 32 := by
    have := (List.getElem?_eq_some_iff.1 hv).1
    rwa [Array.length_toList, idC_size] at this
  rw [Array.getElem?_toList, idC_get _ j hj] at hv
  rcases h with h | ⟨b', o', hA, hc⟩
  · have := flatI_get ns i n j hi hj
    rw [h] at this
    simp at this
  · cases hA
    rw [← hv]
    refine f.cell ?_ (fun e => e)
    have := hc _ _ (flatI_get ns i n j hi hj)
    rw [← Nat.add_assoc] at this
    exact this
theorem Lies.some_of {w : World} {A : Option Addr} {ns : List Nat} (h : Lies w A (flatI ns)) (hn : 0 < ns.length) : ∃ b o, A = some ⟨b, o, none⟩ := by
  rcases h with h | ⟨b, o, rfl, _⟩
  · have := flatI_len ns
    rw [h] at this
    simp at this
    omega
  · exact ⟨b, o, rfl⟩

/-! Rising lists. -/
abbrev gt (ns : List Nat) (i : Nat) : Nat := ns.getD i 0
theorem gt_some (ns : List Nat) (i : Nat) (h : i < ns.length) : ns[i]? = some (gt ns i) := by
  rw [gt, List.getD_eq_getElem?_getD, List.getElem?_eq_getElem h]; rfl
theorem gt_mem (ns : List Nat) (i : Nat) (h : i < ns.length) : gt ns i ∈ ns := by
  rw [gt, List.getD_eq_getElem?_getD, List.getElem?_eq_getElem h]
  exact List.getElem_mem h
def ris (ns : List Nat) : Prop := ∀ i j, i < j → j < ns.length → gt ns i < gt ns j
def risB (ns : List Nat) : Bool := (List.range ns.length).all fun k => decide (k + 1 < ns.length → gt ns k < gt ns (k + 1))
theorem ris_adj (ns : List Nat) (h : ∀ k, k + 1 < ns.length → gt ns k < gt ns (k + 1)) : ris ns := by
  intro i j hij hj
  induction j with
  | zero => omega
  | succ j ih =>
    rcases Nat.lt_or_ge i j with h1 | h1
    · exact Nat.lt_trans (ih h1 (by omega)) (h j hj)
    · obtain rfl : i = j := by omega
      exact h i hj
theorem risB_iff (ns : List Nat) : risB ns = true ↔ ris ns := by
  constructor
  · intro h
    refine ris_adj ns (fun k hk => ?_)
    have := List.all_eq_true.1 h k (List.mem_range.2 (by omega))
    exact (of_decide_eq_true this) hk
  · intro h
    refine List.all_eq_true.2 (fun k _ => decide_eq_true (fun hk => h k (k + 1) (by omega) hk))
theorem risB_no (ns : List Nat) (k : Nat) (hk : k + 1 < ns.length) (h : ¬ gt ns k < gt ns (k + 1)) : risB ns = false := by
  cases hr : risB ns
  · rfl
  · exact absurd ((risB_iff ns).1 hr k (k + 1) (by omega) hk) h

/-- The place of the first one that is not below x. -/
def posN (ns : List Nat) (x : Nat) : Nat := ns.findIdx fun y => decide (x ≤ y)
theorem pos_unique (ns : List Nat) (x m : Nat) (hm : m ≤ ns.length) (h1 : ∀ i, i < m → gt ns i < x) (h2 : m < ns.length → x ≤ gt ns m) : posN ns x = m := by
  unfold posN
  rcases Nat.lt_or_ge m ns.length with h | h
  · rw [List.findIdx_eq h]
    refine ⟨decide_eq_true ?_, fun j hj => ?_⟩
    · have := h2 h
      rwa [gt, List.getD_eq_getElem?_getD, List.getElem?_eq_getElem h] at this
    · have := h1 j hj
      rw [gt, List.getD_eq_getElem?_getD, List.getElem?_eq_getElem (by omega)] at this
      simp only [Option.getD_some] at this
      exact decide_eq_false (by omega)
  · obtain rfl : m = ns.length := by omega
    rw [List.findIdx_eq_length]
    intro y hy
    obtain ⟨i, hi, rfl⟩ := List.getElem_of_mem hy
    have := h1 i hi
    rw [gt, List.getD_eq_getElem?_getD, List.getElem?_eq_getElem hi] at this
    simp only [Option.getD_some] at this
    exact decide_eq_false (by omega)
theorem pos_le (ns : List Nat) (x : Nat) : posN ns x ≤ ns.length := List.findIdx_le_length
theorem pos_below (ns : List Nat) (x i : Nat) (h : i < posN ns x) : gt ns i < x := by
  have hl := pos_le ns x
  have := List.not_of_lt_findIdx (p := fun y => decide (x ≤ y)) (xs := ns) (i := i) h
  rw [gt, List.getD_eq_getElem?_getD, List.getElem?_eq_getElem (by omega)]
  simp only [Option.getD_some]
  have := of_decide_eq_false (by simpa using this : decide (x ≤ ns[i]) = false)
  omega
theorem pos_above (ns : List Nat) (x : Nat) (h : posN ns x < ns.length) : x ≤ gt ns (posN ns x) := by
  have := List.findIdx_getElem (p := fun y => decide (x ≤ y)) (xs := ns) (w := h)
  rw [gt, List.getD_eq_getElem?_getD, List.getElem?_eq_getElem h]
  exact of_decide_eq_true this
theorem pos_above' (ns : List Nat) (hr : ris ns) (x i : Nat) (h : posN ns x ≤ i) (hi : i < ns.length) : x ≤ gt ns i := by
  have h1 := pos_above ns x (by omega)
  rcases Nat.lt_or_ge (posN ns x) i with h2 | h2
  · have := hr _ i h2 hi
    omega
  · obtain rfl : i = posN ns x := by omega
    exact h1
def hasN (ns : List Nat) (x : Nat) : Bool := decide (posN ns x < ns.length ∧ gt ns (posN ns x) = x)
/-- What Find answers. -/
def fAt (ns : List Nat) (x : Nat) : Nat := if risB ns = true then posN ns x else 0
def fHas (ns : List Nat) (x : Nat) : Bool := risB ns && hasN ns x
end Go.Proofs.Ytbfbgopbelmghaa

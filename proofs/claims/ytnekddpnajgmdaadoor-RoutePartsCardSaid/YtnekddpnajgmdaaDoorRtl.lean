/- What is proved: plain facts on rows of truths: for how many first parts a pattern stands; how such a row is made, cleared, stored into. Conditions: the rows are there. -/
import Derived.Test.YtnekddpnajgmdaaDoorRti
import Derived.Test.YtnekddpnajgmdaaDoorRow
namespace Go.Proofs.YtnekddpnajgmdaaDoor
open Go.RowKit
set_option linter.unusedVariables false

/-- A row of truths. -/
def tab (f : Nat → Bool) (m : Nat) : List Bool := (List.range m).map f
def tabC (f : Nat → Bool) (m : Nat) : Array Value := (truV (tab f m)).toArray
theorem tab_len (f : Nat → Bool) (m : Nat) : (tab f m).length = m := by simp [tab]
theorem tabC_size (f : Nat → Bool) (m : Nat) : (tabC f m).size = m := by simp [tabC, truV_len, tab_len]
theorem tab_get (f : Nat → Bool) (m k : Nat) (h : k < m) : (tab f m).getD k false = f k := by simp [tab, List.getD_eq_getElem?_getD, h]
theorem tabC_get (f : Nat → Bool) (m k : Nat) (h : k < m) : (tabC f m)[k]? = some (.bool (f k)) := by
  rw [tabC, List.getElem?_toArray, truV_get _ _ (by rw [tab_len]; exact h), tab_get f m k h]
theorem tabC_congr {f g : Nat → Bool} {m : Nat} (h : ∀ k, k < m → f k = g k) : tabC f m = tabC g m := by
  unfold tabC tab
  congr 2
  apply List.map_congr_left
  intro k hk
  exact h k (List.mem_range.1 hk)
theorem tabC_set (f : Nat → Bool) (m k : Nat) (b : Bool) (h : k < m) : (tabC f m).setIfInBounds k (.bool b) = tabC (fun j => if j = k then b else f j) m := by
  apply Array.ext_getElem?
  intro i
  rw [Array.getElem?_setIfInBounds]
  by_cases hi : i < m
  · rw [tabC_get (fun j => if j = k then b else f j) m i hi]
    by_cases e : k = i
    · subst e
      rw [if_pos rfl, if_pos (by rw [tabC_size]; exact hi)]
      simp
    · rw [if_neg e, tabC_get f m i hi]
      simp [Ne.symm e]
  · rw [Array.getElem?_eq_none (by rw [tabC_size]; omega), if_neg (by omega), Array.getElem?_eq_none (by rw [tabC_size]; omega)]
theorem tabC_one (f : Nat → Bool) (m : Nat) : ∀ v ∈ (tabC f m).toList, v.oneCell' = true := by
  intro v hv
  simp only [tabC, truV] at hv
  obtain ⟨b, _, rfl⟩ := List.mem_map.1 hv
  rfl
theorem Whole.tset {w : World} {g : Nat} {f : Nat → Bool} {m : Nat} (h : Whole w g 4 (tabC f m)) (k : Nat) (b : Bool) (hk : k < m) (f' : Nat → Bool) (hf : ∀ j, j < m → (if j = k then b else f j) = f' j) :
    Whole (w.setCell ⟨g, k, none⟩ (.bool b)) g 4 (tabC f' m) := by
  have := h.set k (.bool b)
  rwa [tabC_set f m k b hk, tabC_congr hf] at this
theorem Whole.tcell {w : World} {g : Nat} {f : Nat → Bool} {m : Nat} (h : Whole w g 4 (tabC f m)) (k : Nat) (hk : k < m) : w.cell? ⟨g, k, none⟩ = some (.bool (f k)) := by
  rw [h.cell, tabC_get f m k hk]

theorem info_bool : (Tryd.prog.info? 4).map (fun i => (i.zero, i.size, i.bytes)) = some (some (.bool false), 1, 1) := by kernel_rfl
theorem make_bools (n : Nat) (hn : n ≤ 1000000) (w : World) : (Instr.makeSlice 38 (.int .i64 n) (.int .i64 n)).run Tryd.prog w =
    .ok (.slice (some ⟨w.heap.size, 0, none⟩) n n) (w.alloc (.cells (tabC (fun _ => false) n) 4)) := by
  obtain ⟨i0, hi, hz0, hz1, hz2⟩ := info_parts info_bool
  have h := run_make (P := Tryd.prog) w 38 4 i0 (.bool false) Tryd.underlying38 hi hz0 .i64 .i64 n n (by omega) (by omega) (by rw [hz2]; omega) (by omega)
  rw [Int.toNat_natCast, hz1, Nat.mul_one] at h
  have e2 : madeCells (Value.bool false).cells n = tabC (fun _ => false) n := by
    apply Array.toList_inj.1
    show (madeCells #[Value.bool false] n).toList = _
    rw [toList_madeCells_one]
    apply List.ext_getElem
    · simp [tabC, truV, tab]
    · intro i h1 h2
      simp [tabC, truV, tab]
  rw [e2] at h
  exact h
/-- A clear of a whole row. -/
theorem run_clear_bools {w : World} {g m c : Nat} {f : Nat → Bool} (hg : Whole w g 4 (tabC f m)) (hm : 0 < m) (ty : TypeId) : ∃ w', (Builtin.clear_ #[38] ty #[.slice (some ⟨g, 0, none⟩) m c]).run Tryd.prog w = .ok (.tuple #[]) w' ∧ Whole w' g 4 (tabC (fun _ => false) m) ∧ Fr (fun k => k = g) w w' := by
  have hzv : (zeroValue 4).run Tryd.prog w = .ok (.bool false) w := by kernel_rfl
  have hZ : (Builtin.zeroCells #[Value.bool false] m).toList = (tabC (fun _ => false) m).toList := by
    simp [Builtin.zeroCells, tabC, truV, tab, Nat.mod_one]
  have hst := run_storeCells_at Tryd.prog g 0 4 (tabC (fun _ => false) m).toList 0 (tabC f m) w hg (by rw [Array.length_toList, tabC_size, tabC_size]; omega) (tabC_one _ _)
  rw [Nat.add_zero, Array.length_toList, tabC_size] at hst
  have hr : ((tabC f m).toList.take 0 ++ (tabC (fun _ => false) m).toList ++ (tabC f m).toList.drop (0 + m)).toArray = tabC (fun _ => false) m := by
    have : (tabC f m).toList.drop m = [] := List.drop_of_length_le (by rw [Array.length_toList, tabC_size]; exact Nat.le_refl _)
    rw [Nat.zero_add, this]
    simp
  rw [hr] at hst
  refine ⟨_, ?_, hg.laid _, Fr.laid w g _⟩
  obtain ⟨m', rfl⟩ : ∃ m', m = m' + 1 := ⟨m - 1, by omega⟩
  simp [Builtin.clear_, run_underlying Tryd.underlying38, hzv, Value.cells, hZ, hst, Result.andThen]
theorem wpList_clear_bools {ops : Array Oper} {rest : List Oper} {op : Oper} {a : Act} {w : World} {Q : Exit → Act → World → Prop} (hgd : op.guard = none) (x : Operand)
    (ho : op.op = .call { callee := .builtin .clear, args := #[x], argTypes := #[38] }) (g m c : Nat) (f : Nat → Bool) (hx : a.eval x = .slice (some ⟨g, 0, none⟩) m c) (hg : Whole w g 4 (tabC f m)) (hm : 0 < m)
    (h : ∀ w', Whole w' g 4 (tabC (fun _ => false) m) → Fr (fun k => k = g) w w' → wpList Tryd.prog ops Q rest (a.put op.dst (.tuple #[])) w') : wpList Tryd.prog ops Q (op :: rest) a w :=
  wpList_plain hgd fun K hK => by
    obtain ⟨w', hrun, h2, h3⟩ := run_clear_bools hg hm op.type (c := c)
    unfold Oper.wp execOp
    simp only [ho, resolve, invoke, builtin, Sem.run_bind, Sem.run_pure, Result.andThen_ok, List.map_toArray, List.map_cons, List.map_nil, hx, hrun]
    exact hK _ _ (h w' h2 h3)

/-! For how many first parts a pattern stands. -/
def rowB (P L : List (List UInt8)) (k : Nat) : Bool := standB P (L.take k)
theorem row_zero (L : List (List UInt8)) (k : Nat) (hk : k ≤ L.length) : rowB [] L k = decide (k = 0) := by
  rw [rowB, standB, mat_nil, Bool.eq_iff_iff, List.isEmpty_iff, decide_eq_true_eq]
  constructor
  · intro h
    have := congrArg List.length h
    rw [List.length_take, List.length_nil] at this
    omega
  · rintro rfl; simp
theorem row_star (P L : List (List UInt8)) (k : Nat) (hk : k ≤ L.length) : rowB (P ++ [[42, 42]]) L k = true ↔ ∃ j, j ≤ k ∧ rowB P L j = true := by
  rw [rowB, standB, mat_snoc_star (st := fun p : List UInt8 => p == [42, 42]) (by decide)]
  constructor
  · rintro ⟨j, hj, h⟩
    rw [List.length_take] at hj
    rw [List.take_take, Nat.min_eq_left (by omega)] at h
    exact ⟨j, by omega, h⟩
  · rintro ⟨j, hj, h⟩
    refine ⟨j, by rw [List.length_take]; omega, ?_⟩
    rw [List.take_take, Nat.min_eq_left (by omega)]
    exact h
theorem row_star_step (P L : List (List UInt8)) (k : Nat) (hk : k ≤ L.length) : rowB (P ++ [[42, 42]]) L k = (rowB P L k || (decide (0 < k) && rowB (P ++ [[42, 42]]) L (k - 1))) := by
  rw [Bool.eq_iff_iff, Bool.or_eq_true, Bool.and_eq_true, decide_eq_true_eq, row_star P L k hk, row_star P L (k - 1) (by omega)]
  constructor
  · rintro ⟨j, hj, h⟩
    rcases (by omega : j = k ∨ j < k) with rfl | hlt
    · exact .inl h
    · exact .inr ⟨by omega, j, by omega, h⟩
  · rintro (h | ⟨_, j, hj, h⟩)
    · exact ⟨k, Nat.le_refl _, h⟩
    · exact ⟨j, by omega, h⟩
theorem row_one (P L : List (List UInt8)) (p : List UInt8) (hp : p ≠ [42, 42]) (k : Nat) (hk : k < L.length) : rowB (P ++ [p]) L (k + 1) = (rowB P L k && wordB p (L.getD k [])) := by
  rw [rowB, List.take_add_one, List.getElem?_eq_getElem hk, Option.toList_some, standB, mat_snoc_one (st := fun p : List UInt8 => p == [42, 42]) (by simpa using hp), List.getD_eq_getElem?_getD, List.getElem?_eq_getElem hk]
  rfl
theorem row_one_zero (P L : List (List UInt8)) (p : List UInt8) (hp : p ≠ [42, 42]) : rowB (P ++ [p]) L 0 = false := by
  rw [rowB, List.take_zero, standB, mat_snoc_one_nil (st := fun p : List UInt8 => p == [42, 42]) (by simpa using hp)]
theorem part_take (P : List (List UInt8)) (i : Nat) (h : i < P.length) : P.take (i + 1) = P.take i ++ [P.getD i []] := by
  rw [List.take_add_one, List.getElem?_eq_getElem h, List.getD_eq_getElem?_getD, List.getElem?_eq_getElem h]
  rfl
end Go.Proofs.YtnekddpnajgmdaaDoor

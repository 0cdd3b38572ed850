/- What is proved: what the walks of this seat need of layers below, merged out of the texts Trg Trh Trj Trn Tro Trp Trs (of each just what is needed). Conditions: each theorem names its own. -/
import Derived.Sort.LotA
import Derived.Laws.OwnMore
import Derived.Sort.Walk0
import Derived.Lib.Bytealg
import Derived.Laws.StructEq
import Derived.Deep.RegionLaw
import Derived.Shelf.SlSortCmp.KitK
import Derived.Deep.RegionWith
import Derived.BigQuiet
import Derived.Deep.CutBlock
import Derived.Test.YtoakbdmfoepdgaaDoorBb
set_option maxRecDepth 100000
/- What is proved: plain facts on entries: texts in order, keys, an entry's cells, entries in a row, two entries held against one another whole. Conditions: none. -/
namespace Go.Proofs.YtoakbdmfoepdgaaDoor
open Go.RowKit Go.Sort
set_option linter.unusedVariables false
/-! Texts in order. -/
def ltB (x y : List UInt8) : Bool := Op.bytesLess x y
theorem ltB_eq (x y : List UInt8) : ltB x y = decide (x < y) := bytesLess_eq x y
theorem ltB_nil (x : List UInt8) : ltB x [] = false := by rw [ltB_eq]; simp
theorem ltB_cons (a b : UInt8) (x y : List UInt8) : ltB (a :: x) (b :: y) = (decide (a < b) || (a == b && ltB x y)) := by
  rw [ltB_eq, ltB_eq, Bool.eq_iff_iff]
  simp [List.cons_lt_cons_iff]
theorem ltB_irrefl (x : List UInt8) : ltB x x = false := by
  induction x with
  | nil => exact ltB_nil _
  | cons a x ih => rw [ltB_cons, ih]; simp
theorem cmp_lt : ∀ (x y : List UInt8), decide (Lib.compareBytes x y < 0) = ltB x y
  | [], [] => by rw [ltB_nil]; rfl
  | [], b :: y => by rw [ltB_eq]; simp [Lib.compareBytes]
  | a :: x, [] => by rw [ltB_nil]; rfl
  | a :: x, b :: y => by
    rw [Lib.compareBytes, ltB_cons, ← cmp_lt x y]
    by_cases h1 : a < b
    · simp [h1]
    · rw [if_neg h1]
      by_cases h2 : b < a
      · have h3 : ¬ a = b := fun e => by subst e; exact h1 h2
        simp [h1, h2, h3]
      · have h3 : a = b := UInt8.le_antisymm (UInt8.not_lt.1 h2) (UInt8.not_lt.1 h1)
        simp [h3]
theorem ltB_trans : ∀ (x y z : List UInt8), ltB x y = true → ltB y z = true → ltB x z = true
  | _, _, [], _, h2 => by rw [ltB_nil] at h2; cases h2
  | _, [], _ :: _, h1, _ => by rw [ltB_nil] at h1; cases h1
  | [], _ :: _, _ :: _, _, _ => by rw [ltB_eq]; simp
  | a :: x, b :: y, c :: z, h1, h2 => by
    rw [ltB_cons] at *
    simp only [Bool.or_eq_true, decide_eq_true_eq, Bool.and_eq_true, beq_iff_eq] at *
    rcases h1 with h1 | ⟨rfl, h1⟩
    · rcases h2 with h2 | ⟨rfl, h2⟩
      · exact .inl (UInt8.lt_trans h1 h2)
      · exact .inl h1
    · rcases h2 with h2 | ⟨rfl, h2⟩
      · exact .inl h2
      · exact .inr ⟨rfl, ltB_trans x y z h1 h2⟩
theorem ltB_total : ∀ (x y : List UInt8), ltB x y = false → ltB y x = false → x = y
  | [], [], _, _ => rfl
  | [], b :: y, h1, _ => by rw [ltB_eq] at h1; simp at h1
  | a :: x, [], _, h2 => by rw [ltB_eq] at h2; simp at h2
  | a :: x, b :: y, h1, h2 => by
    rw [ltB_cons] at *
    simp only [Bool.or_eq_false_iff, decide_eq_false_iff_not, Bool.and_eq_false_iff, beq_eq_false_iff_ne, ne_eq] at h1 h2
    have e : a = b := UInt8.le_antisymm (UInt8.not_lt.1 h2.1) (UInt8.not_lt.1 h1.1)
    subst e
    rw [ltB_total x y (by rcases h1.2 with h | h; exact absurd rfl h; exact h) (by rcases h2.2 with h | h; exact absurd rfl h; exact h)]
theorem ltB_asymm (x y : List UInt8) (h : ltB x y = true) : ltB y x = false := by
  cases e : ltB y x with
  | false => rfl
  | true => have := ltB_trans x y x h e; rw [ltB_irrefl] at this; cases this
/-! Two entries held against one another whole. -/
theorem run_equal_ints {P : Program} (w : World) (d : Nat) (t e : TypeId) (n : Nat) (k : IntKind) (ht : P.underlying t = some (.array n e)) (he : P.underlying e = some (.int k)) (hsz : ∀ w, (sizeOf e).run P w = .ok 1 w)
    (zs ys : List Int) (hz : zs.length = n) (hy : ys.length = n) : (Op.equalIn (d + 2) t (.agg (zs.map (Value.int k)).toArray) (.agg (ys.map (Value.int k)).toArray)).run P w = .ok (decide (zs = ys)) w := by
  rw [Op.equalIn]
  simp only [Sem.run_bind, run_underlying ht, Result.andThen_ok, hsz, Std.Legacy.Range.forIn_eq_forIn_range', Std.Legacy.Range.size, Nat.sub_zero, Nat.add_sub_cancel, Nat.div_one]
  have px : ∀ (xs : List Int) (i : Nat), i < xs.length → (part e (xs.map (Value.int k)).toArray (i * 1)).run P w = .ok (.int k (xs.getD i 0)) w := fun xs i hi => by
    simp [part, isAgg, run_underlying he, List.getD, List.getElem?_eq_getElem hi]
  have pe : ∀ i, (Op.equalIn (d + 1) e (.int k (zs.getD i 0)) (.int k (ys.getD i 0))).run P w = .ok (zs.getD i 0 == ys.getD i 0) w := fun i => run_equalIn_int w d e k k _ _ he
  have hall : ∀ m o, o + m = n → (∀ i, i < o → zs.getD i 0 = ys.getD i 0) → (decide (zs = ys)) = (List.range' o m 1).all (fun i => zs.getD i 0 == ys.getD i 0) := by
    intro m o ho hp
    rw [Bool.eq_iff_iff]
    simp only [decide_eq_true_eq, List.all_eq_true, beq_iff_eq]
    constructor
    · rintro rfl i _; rfl
    · intro h
      apply List.ext_getElem (by omega)
      intro i h1 h2
      have : zs.getD i 0 = ys.getD i 0 := by
        rcases Nat.lt_or_ge i o with h3 | h3
        · exact hp i h3
        · exact h i (by rw [List.mem_range'_1]; omega)
      simpa [List.getD, List.getElem?_eq_getElem h1, List.getElem?_eq_getElem h2] using this
  rw [hall n 0 (by omega) (fun i hi => by omega)]
  have hl : ∀ i ∈ List.range' 0 n 1, i < n := fun i hi => by simpa using (List.mem_range'_1.1 hi).2
  generalize List.range' 0 n 1 = l at hl ⊢
  clear hall
  induction l with
  | nil => simp
  | cons i l ih =>
    have hi : i < n := hl i (by simp)
    simp only [List.forIn_cons, Sem.run_bind, px zs i (by omega), px ys i (by omega), pe i, Result.andThen_ok, List.all_cons]
    cases hc : (zs.getD i 0 == ys.getD i 0)
    · simp only [Bool.not_false, if_true, Sem.run_pure, Result.andThen_ok, Bool.false_and]
    · simp only [Bool.not_true, Bool.false_eq_true, if_false, Sem.run_pure, Result.andThen_ok, Bool.true_and]
      exact ih fun j hj => hl j (by simp [hj])
end Go.Proofs.YtoakbdmfoepdgaaDoor
/- What is proved: an entry's key, and which of two entries stands behind the other, by the program and by the document. Conditions: none. -/
namespace Go.Proofs.YtoakbdmfoepdgaaDoor
open Go.RowKit Go.Sort Go.Shelf
set_option linter.unusedVariables false
theorem grow_below (w : World) (n : Nat) (os : Array Obj) : Below w.heap.size w (grow (w.drewN n) os) := by
  have h : Fr (fun _ => False) w (grow (w.drewN n) os) := ⟨rfl, rfl, rfl, by rw [size_grow]; exact Nat.le_add_right _ _, fun k hk _ => Array.getElem?_append_left hk⟩
  exact h.below (fun _ _ e => e)
set_option maxHeartbeats 1000000 in
set_option maxRecDepth 100000 in
theorem GbCompareString_any (a b : List UInt8) (w : World) : Calls Tryd.prog 68 #[.string (strB a), .string (strB b)] w fun e w' => e = .returned (.int .i64 (Lib.compareBytes a b)) ∧ w' = w := by
  have hr := Lib.hid (Lib.run_compareString (P := Tryd.prog) (strB a) (strB b) w)
  rw [strB_data, strB_data] at hr
  obtain ⟨S, hS⟩ : ∃ S, strB a = S := ⟨_, rfl⟩
  obtain ⟨S2, hS2⟩ : ∃ S, strB b = S := ⟨_, rfl⟩
  rw [hS, hS2] at hr ⊢
  clear hS hS2
  go_enter Tryd.func68, Tryd.ntmps68
  go_wp2
  rw [run_callFunc_extern Tryd.func78 (by kernel_rfl) (by kernel_rfl) (by kernel_rfl) (e := Extern.BytealgCompare.compare) (by kernel_rfl), hr.out]
  simp only [Result.andThen]
  rw [Oper.upon_value]
  go_wp2
  go_ret
  exact ⟨rfl, rfl⟩
set_option maxHeartbeats 1000000 in
theorem GsCompare_any (a b : List UInt8) (w : World) : Calls Tryd.prog 54 #[.string (strB a), .string (strB b)] w fun e w' => e = .returned (.int .i64 (Lib.compareBytes a b)) ∧ w' = w := by
  have hc := Lib.hid (GbCompareString_any a b w)
  go_enter Tryd.func54, Tryd.ntmps54
  go_wp2_with (go_at_call 68; refine hc.out.mono ?_; rintro e w' ⟨rfl, rfl⟩)
  go_ret
  exact ⟨rfl, rfl⟩
end Go.Proofs.YtoakbdmfoepdgaaDoor
/- What is proved: entries as a source of an append; a list put in order by the program, by keys or by names; whether a number is a mode. Conditions: the list's cells are there. -/
namespace Go.Proofs.YtoakbdmfoepdgaaDoor
open Go.RowKit Go.Sort Go.Shelf
set_option linter.unusedVariables false
theorem wrap_nat (k : Nat) (h : k ≤ 100000) : IntKind.i64.wrap (k : Int) = k := by rw [IntKind.wrap_i64]; omega
theorem wrap_nat1 (k : Nat) (h : k ≤ 100000) : IntKind.i64.wrap ((k : Int) + 1) = (k : Int) + 1 := by rw [IntKind.wrap_i64]; omega
theorem toNat_nat1 (k : Nat) : ((k : Int) + 1).toNat = k + 1 := by omega
theorem nonneg_nat1 (k : Nat) : (0 : Int) ≤ (k : Int) + 1 := by omega
end Go.Proofs.YtoakbdmfoepdgaaDoor
/- What is proved: whether entries may be a tree, by the document. Conditions: the list's cells are there. -/
namespace Go.Proofs.YtoakbdmfoepdgaaDoor
open Go.RowKit Go.Sort Go.Shelf
set_option linter.unusedVariables false
theorem lt_str (x y : List UInt8) : Op.bytesLess (strB x).toList (strB y).toList = ltB x y := by rw [strB_list, strB_list]; rfl
end Go.Proofs.YtoakbdmfoepdgaaDoor
/- What is proved: pieces of lists of entries; a list put in order by the document: one after another into its place. Conditions: the list's cells are there. -/
namespace Go.Proofs.YtoakbdmfoepdgaaDoor
open Go.RowKit Go.Sort Go.Shelf
set_option linter.unusedVariables false
theorem Lies.take {w : World} {A : Option Addr} {xs : List Value} (h : Lies w A xs) (m : Nat) : Lies w A (xs.take m) := by
  rcases h with rfl | ⟨b, o, rfl, hc⟩
  · exact .inl (by simp)
  · refine .inr ⟨b, o, rfl, fun j u hu => hc j u ?_⟩
    rw [List.getElem?_take] at hu
    split at hu
    · exact hu
    · simp at hu
end Go.Proofs.YtoakbdmfoepdgaaDoor
/- What is proved: works, the example of the laws, is true; the law TreeChecks is true of all lists. Conditions: the list's cells are there. -/
namespace Go.Proofs.YtoakbdmfoepdgaaDoor
open Go.RowKit Go.Sort Go.Shelf
set_option linter.unusedVariables false
theorem wpList_build_to {P : Program} {ops : Array Oper} {rest : List Oper} {o : Oper} {a : Act} {w : World} {Q : Exit → Act → World → Prop} (hgd : o.guard = none) (t : TypeId) (parts : Array (Nat × Operand)) (ho : o.op = .build t parts)
    (vals : Array (Nat × Value)) (hvals : (parts.map fun (i, x) => (i, a.eval x)) = vals) (v : Value) (hv : (Instr.build t vals).run P w = .ok v w) (h : wpList P ops Q rest (a.put o.dst v) w) : wpList P ops Q (o :: rest) a w :=
  wpList_plain hgd fun K hK => by
    unfold Oper.wp execOp
    simp only [ho, hvals, Sem.run_bind, hv, Result.andThen_ok, Sem.run_pure]
    exact hK _ _ h
theorem wpList_buildSlice_to {P : Program} {ops : Array Oper} {rest : List Oper} {o : Oper} {a : Act} {w : World} {Q : Exit → Act → World → Prop} (hgd : o.guard = none) (t : TypeId) (n : Nat) (parts : Array (Nat × Operand)) (ho : o.op = .buildSlice t n parts)
    (vals : Array (Nat × Value)) (hvals : (parts.map fun (i, x) => (i, a.eval x)) = vals) (v : Value) (w' : World) (hv : (Instr.buildSlice t n vals).run P w = .ok v w') (h : wpList P ops Q rest (a.put o.dst v) w') : wpList P ops Q (o :: rest) a w :=
  wpList_plain hgd fun K hK => by
    unfold Oper.wp execOp
    simp only [ho, hvals, Sem.run_bind, hv, Result.andThen_ok, Sem.run_pure]
    exact hK _ _ h
end Go.Proofs.YtoakbdmfoepdgaaDoor

/- What is proved: plain facts on memory for ids: one id, or one beginning, held against another one whole; a load, a box, a store of one. Conditions: none. -/
import Derived.Test.YtppddpbacpeadaaDoorIda
import Derived.Test.YtppddpbacpeadaaDoorRow
import Derived.Laws.StructEq
import Derived.Deep.RegionLaw
namespace Go.Proofs.YtppddpbacpeadaaDoor.Ids
open Go.RowKit
set_option linter.unusedVariables false

theorem run_equal_ints {P : Program} (w : World) (d : Nat) (t e : TypeId) (n : Nat) (k : IntKind) (ht : P.underlying t = some (.array n e)) (he : P.underlying e = some (.int k)) (hsz : ∀ w, (sizeOf e).run P w = .ok 1 w)
    (zs ys : List Int) (hz : zs.length = n) (hy : ys.length = n) : (Op.equalIn (d + 2) t (.agg (zs.map (Value.int k)).toArray) (.agg (ys.map (Value.int k)).toArray)).run P w = .ok (decide (zs = ys)) w := by
  rw [Op.equalIn]
  simp only [Sem.run_bind, run_underlying ht, Result.andThen_ok, hsz, Std.Legacy.Range.forIn_eq_forIn_range', Std.Legacy.Range.size, Nat.sub_zero, Nat.add_sub_cancel, Nat.div_one]
  have px : ∀ (xs : List Int) (i : Nat), i < xs.length → (part e (xs.map (Value.int k)).toArray (i * 1)).run P w = .ok (.int k (xs.getD i 0)) w := fun xs i hi => by
    simp [part, isAgg, run_underlying he, List.getD, List.getElem?_eq_getElem hi]
  have pe : ∀ i, (Op.equalIn (d + 1) e (.int k (zs.getD i 0)) (.int k (ys.getD i 0))).run P w = .ok (zs.getD i 0 == ys.getD i 0) w := fun i => run_equalIn_int w d e k k _ _ he
  have hall : ∀ m o, o + m = n → (∀ i, i < o → zs.getD i 0 = ys.getD i 0) → (decide (zs = ys)) = (List.range' o m 1).all (fun i => zs.getD i 0 == ys.getD i 0) := by
    intro m o ho hp
    rw [Bool.eq_iff_iff]
    simp only [decide_eq_true_eq, List.all_eq_true, beq_iff_eq]
    constructor
    · rintro rfl i _; rfl
    · intro h
      apply List.ext_getElem (by omega)
      intro i h1 h2
      have : zs.getD i 0 = ys.getD i 0 := by
        rcases Nat.lt_or_ge i o with h3 | h3
        · exact hp i h3
        · exact h i (by rw [List.mem_range'_1]; omega)
      simpa [List.getD, List.getElem?_eq_getElem h1, List.getElem?_eq_getElem h2] using this
  rw [hall n 0 (by omega) (fun i hi => by omega)]
  have hl : ∀ i ∈ List.range' 0 n 1, i < n := fun i hi => by simpa using (List.mem_range'_1.1 hi).2
  generalize List.range' 0 n 1 = l at hl ⊢
  clear hall
  induction l with
  | nil => simp
  | cons i l ih =>
    have hi : i < n := hl i (by simp)
    simp only [List.forIn_cons, Sem.run_bind, px zs i (by omega), px ys i (by omega), pe i, Result.andThen_ok, List.all_cons]
    cases hc : (zs.getD i 0 == ys.getD i 0)
    · simp only [Bool.not_false, if_true, Sem.run_pure, Result.andThen_ok, Bool.false_and]
    · simp only [Bool.not_true, Bool.false_eq_true, if_false, Sem.run_pure, Result.andThen_ok, Bool.true_and]
      exact ih fun j hj => hl j (by simp [hj])

/-- Two ids are one. -/
def sameD (D E : Nat → Nat) : Bool := nu D == nu E
theorem sameD_iff (D E : Nat → Nat) (hD : ∀ k, D k < 16) (hE : ∀ k, E k < 16) : sameD D E = true ↔ ∀ k, k < 64 → D k = E k := by
  rw [sameD, beq_iff_eq]
  exact ⟨nuN_inj D E hD hE 64, nuN_congr D E 64⟩
theorem sameD_dgt (a b : Nat) (ha : a < big) (hb : b < big) : sameD (dgt a) (dgt b) = (a == b) := by rw [sameD, nu_dgt a ha, nu_dgt b hb]
theorem eq_ids (D E : Nat → Nat) (hD : ∀ k, D k < 16) (hE : ∀ k, E k < 16) (m : Nat) (hm : 2 ≤ m) (w : World) : (Op.equalIn m 23 (.agg (idC D)) (.agg (idC E))).run Tryd.prog w = .ok (sameD D E) w := by
  obtain ⟨d, rfl⟩ : ∃ d, m = d + 2 := ⟨m - 2, by omega⟩
  have e : ∀ D : Nat → Nat, idC D = (((List.range 32).map fun i => ((byt D i : Nat) : Int)).map (Value.int .u8)).toArray := idC_list
  have h := run_equal_ints (P := Tryd.prog) w d 23 5 32 .u8 Tryd.underlying23 Tryd.underlying5 (fun _ => by kernel_rfl) ((List.range 32).map fun i => ((byt D i : Nat) : Int)) ((List.range 32).map fun i => ((byt E i : Nat) : Int)) (by simp) (by simp)
  rw [← e, ← e] at h
  refine h.trans (congrArg (fun b => Result.ok b w) ?_)
  rw [Bool.eq_iff_iff, decide_eq_true_eq, sameD_iff D E hD hE]
  constructor
  · intro h
    refine byt_inj D E hD hE (fun i hi => ?_)
    have := congrArg (fun l : List Int => l[i]?) h
    simp [hi] at this
    omega
  · intro h
    exact List.map_congr_left (fun i hi => by
      have hi : i < 32 := by simpa using hi
      rw [byt_congr D E i (h _ (by omega)) (h _ (by omega))])
/-- Two ids, by number, held against one another whole. -/
theorem eq_nums (a b : Nat) (ha : a < big) (hb : b < big) (w : World) : (Op.equalIn 10000 23 (.agg (idC (dgt a))) (.agg (idC (dgt b)))).run Tryd.prog w = .ok (a == b) w := by
  rw [eq_ids (dgt a) (dgt b) (dgt_lt a) (dgt_lt b) 10000 (by decide) w]
  rw [sameD_dgt a b ha hb]
theorem pfC_ext (D : Nat → Nat) (N : Int) : (pfC D N).extract 0 32 = idC D := by
  apply Array.toList_inj.1
  rw [Array.toList_extract, List.extract, List.drop_zero, pfC_ids]
theorem fieldsP : (Tryd.prog.fieldsOf 106).toList.map (fun f => (f.name, f.type, f.offset)) = [("ID", 23, 0), ("N", 3, 32)] := by kernel_rfl
theorem underP : Tryd.prog.underlying 106 = some (.struct (Tryd.prog.fieldsOf 106)) := by kernel_rfl
theorem stoodP : Tryd.prog.stoodInHeld 106 = false := by kernel_rfl
theorem aggID (w : World) : (isAgg 23).run Tryd.prog w = .ok true w := by kernel_rfl
theorem sizID (w : World) : (sizeOf 23).run Tryd.prog w = .ok 32 w := by kernel_rfl
theorem aggInt (w : World) : (isAgg 3).run Tryd.prog w = .ok false w := by kernel_rfl
theorem partID (D : Nat → Nat) (N : Int) (w : World) : (part 23 (pfC D N) 0).run Tryd.prog w = .ok (.agg (idC D)) w := by
  simp only [part, Sem.run_bind, aggID, sizID, Result.andThen_ok, if_true, Sem.run_pure]
  rw [Nat.zero_add, pfC_ext]
theorem partN (D : Nat → Nat) (N : Int) (w : World) : (part 3 (pfC D N) 32).run Tryd.prog w = .ok (.int .i64 N) w := by
  simp only [part, Sem.run_bind, aggInt, Result.andThen_ok, Bool.false_eq_true, if_false, pfC_N, Sem.run_pure]
theorem eq_pfxs (D E : Nat → Nat) (hD : ∀ k, D k < 16) (hE : ∀ k, E k < 16) (M N : Int) (m : Nat) (hm : 3 ≤ m) (w : World) : (Op.equalIn m 106 (.agg (pfC D M)) (.agg (pfC E N))).run Tryd.prog w = .ok (sameD D E && (M == N)) w := by
  obtain ⟨d, rfl⟩ : ∃ d, m = d + 2 + 1 := ⟨m - 3, by omega⟩
  rw [run_equalIn_struct w (d + 2) 106 _ _ underP stoodP]
  have hf := fieldsP
  generalize (Tryd.prog.fieldsOf 106).toList = fs at hf
  rcases fs with _ | ⟨f, _ | ⟨g, _ | ⟨f', fs'⟩⟩⟩
  · simp at hf
  · simp at hf
  · simp only [List.map_cons, List.map_nil, List.cons.injEq, Prod.mk.injEq, and_true] at hf
    obtain ⟨⟨f1, f2, f3⟩, g1, g2, g3⟩ := hf
    have en : (Op.equalIn (d + 2) 3 (.int .i64 M) (.int .i64 N)).run Tryd.prog w = .ok (M == N) w := run_equalIn_int w (d + 1) 3 .i64 .i64 M N Tryd.underlying3
    have ei := eq_ids D E hD hE (d + 2) (by omega) w
    simp only [Op.eqFields, f1, f2, f3, g1, g2, g3, Sem.run_bind, partID, ei, Result.andThen_ok, ne_eq, show ¬ ("ID" = "_") by decide, show ¬ ("N" = "_") by decide, not_false_eq_true, if_true]
    cases sameD D E
    · simp
    · simp only [Bool.not_true, Bool.false_eq_true, if_false, Sem.run_bind, partN, en, Result.andThen_ok, Bool.true_and]
      cases (M == N) <;> simp
  · simp at hf
end Go.Proofs.YtppddpbacpeadaaDoor.Ids

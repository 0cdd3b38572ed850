/- What is proved: a row of two lists, built and held against another one whole. Conditions: none. -/
import Derived.Test.YtinjednmamkjgaaMgh
namespace Go.Proofs.Ytinjednmamkjgaa
open Go.RowKit Go.Sort Go.Shelf
set_option linter.unusedVariables false

theorem foldl_laid (cs vs : Array Value) (o : Nat) (h : o + vs.size ≤ cs.size) : vs.zipIdx.foldl (fun cs (x : Value × Nat) => cs.setIfInBounds (o + x.2) x.1) cs = laidAt cs o vs := by
  have e : vs.zipIdx.foldl (fun cs (x : Value × Nat) => cs.setIfInBounds (o + x.2) x.1) cs = (vs.toList.zipIdx 0).foldl (fun cs (x : Value × Nat) => cs.setIfInBounds (o + x.2) x.1) cs := by
    rw [← Array.foldl_toList, Array.toList_zipIdx]
  rw [e]
  obtain ⟨h1, h2⟩ := Great.foldl_set o vs.toList 0 cs
  apply Array.ext_getElem?
  intro k
  rw [h2 k]
  simp only [laidAt, Nat.add_zero, Array.length_toList, List.getElem?_toArray]
  have hl : (cs.toList.take o).length = o := by rw [List.length_take, Array.length_toList]; omega
  by_cases h3 : o ≤ k ∧ k < o + vs.size ∧ k < cs.size
  · rw [if_pos h3, List.append_assoc, List.getElem?_append_right (by omega), hl, List.getElem?_append_left (by rw [Array.length_toList]; omega)]
  · rw [if_neg h3]
    by_cases h4 : k < o
    · rw [List.append_assoc, List.getElem?_append_left (by omega), List.getElem?_take, if_pos h4, Array.getElem?_toList]
    · rw [List.getElem?_append_right (by rw [List.length_append, hl, Array.length_toList]; omega), List.length_append, hl, Array.length_toList, List.getElem?_drop, Array.getElem?_toList]
      congr 1
      omega
theorem fieldsB : (Try.prog.fieldsOf 35).toList.map (fun f => (f.name, f.type, f.offset)) = [("Name", 9, 0), ("A", 27, 1), ("B", 27, 35), ("HasA", 4, 69), ("HasB", 4, 70)] := by kernel_rfl
theorem structB : Try.prog.underlying 35 = some (.struct (Try.prog.fieldsOf 35)) := by kernel_rfl
theorem stoodB : Try.prog.stoodInHeld 35 = false := by kernel_rfl
theorem guardB : Try.prog.eqGuardType Try.prog.depth 35 = false := by kernel_rfl
theorem aggEnt (w : World) : (isAgg 27).run Try.prog w = .ok true w := by kernel_rfl
theorem sizEnt (w : World) : (sizeOf 27).run Try.prog w = .ok 34 w := by kernel_rfl
theorem entEq_selfM (e : Ent) : entEq e e = true := (entEq_iff e e).2 rfl
section
variable (S : ByteArray) (ca cb : Array Value) (ha hb : Bool) (h1 : ca.size = 34) (h2 : cb.size = 34) (w : World)
include h1 h2
omit h1 h2 in
theorem partBn : (part 9 (rowV S ca cb ha hb) 0).run Try.prog w = .ok (.string S) w := by simp [part, rowV, rowL]
omit h2 in
theorem partBa : (part 27 (rowV S ca cb ha hb) 1).run Try.prog w = .ok (.agg ca) w := by
  have e1 : ca.toList.length = 34 := by simpa using h1
  simp only [part, Sem.run_bind, aggEnt, sizEnt, Result.andThen_ok, if_true, Sem.run_pure]
  congr 2
  apply Array.toList_inj.1
  rw [Array.toList_extract, List.extract]
  simp only [rowV, rowL, List.drop_succ_cons, List.drop_zero]
  rw [show 1 + 34 - 1 = 34 from rfl, List.take_append_of_le_length (by omega), List.take_of_length_le (by omega)]
theorem partBb : (part 27 (rowV S ca cb ha hb) 35).run Try.prog w = .ok (.agg cb) w := by
  have e1 : ca.toList.length = 34 := by simpa using h1
  have e2 : cb.toList.length = 34 := by simpa using h2
  simp only [part, Sem.run_bind, aggEnt, sizEnt, Result.andThen_ok, if_true, Sem.run_pure]
  congr 2
  apply Array.toList_inj.1
  rw [Array.toList_extract, List.extract]
  simp only [rowV, rowL]
  rw [show (35 : Nat) = 34 + 1 from rfl, List.drop_succ_cons, List.drop_append, e1, Nat.sub_self, List.drop_zero, List.drop_of_length_le (by omega), List.nil_append, show 34 + 1 + 34 - (34 + 1) = 34 from rfl, List.take_append_of_le_length (by omega), List.take_of_length_le (by omega)]
theorem partBha : (part 4 (rowV S ca cb ha hb) 69).run Try.prog w = .ok (.bool ha) w := by
  have := rowV_at69 S ca cb ha hb h1 h2
  simp [part, this]
theorem partBhb : (part 4 (rowV S ca cb ha hb) 70).run Try.prog w = .ok (.bool hb) w := by
  have := rowV_at70 S ca cb ha hb h1 h2
  simp [part, this]
end
theorem eq_row (r : Rw) (m : Nat) (hm : 4 ≤ m) (w : World) : (Op.equalIn m 35 (.agg (rwC r)) (.agg (rwC r))).run Try.prog w = .ok true w := by
  obtain ⟨d, rfl⟩ : ∃ d, m = d + 3 + 1 := ⟨m - 4, by omega⟩
  rw [run_equalIn_struct w (d + 3) 35 _ _ structB stoodB]
  have hf := fieldsB
  generalize (Try.prog.fieldsOf 35).toList = fs at hf
  rcases fs with _ | ⟨f, _ | ⟨g, _ | ⟨k, _ | ⟨i, _ | ⟨j, _ | ⟨f', fs'⟩⟩⟩⟩⟩⟩
  · simp at hf
  · simp at hf
  · simp at hf
  · simp at hf
  · simp at hf
  · simp only [List.map_cons, List.map_nil, List.cons.injEq, Prod.mk.injEq, and_true] at hf
    obtain ⟨⟨f1, f2, f3⟩, ⟨g1, g2, g3⟩, ⟨k1, k2, k3⟩, ⟨i1, i2, i3⟩, j1, j2, j3⟩ := hf
    have es : (Op.equalIn (d + 3) 9 (.string (strB r.n)) (.string (strB r.n))).run Try.prog w = .ok true w := by
      have := run_equalIn_string (P := Try.prog) w (d + 2) 9 (strB r.n) (strB r.n) Try.underlying9
      rw [this]; simp
    have ea : (Op.equalIn (d + 3) 27 (.agg (fndC r.a)) (.agg (fndC r.a))).run Try.prog w = .ok true w := by rw [fndC, eq_ents _ _ _ (by omega) w, entEq_selfM]
    have eb : (Op.equalIn (d + 3) 27 (.agg (fndC r.b)) (.agg (fndC r.b))).run Try.prog w = .ok true w := by rw [fndC, eq_ents _ _ _ (by omega) w, entEq_selfM]
    have eq : ∀ b : Bool, (Op.equalIn (d + 3) 4 (.bool b) (.bool b)).run Try.prog w = .ok true w := fun b => by cases b <;> kernel_rfl
    simp only [Op.eqFields, f1, f2, f3, g1, g2, g3, k1, k2, k3, i1, i2, i3, j1, j2, j3, rwC, Sem.run_bind, partBn, partBa _ _ _ _ _ (fndC_size _), partBb _ _ _ _ _ (fndC_size _) (fndC_size _), partBha _ _ _ _ _ (fndC_size _) (fndC_size _), partBhb _ _ _ _ _ (fndC_size _) (fndC_size _),
      es, ea, eb, eq, Result.andThen_ok, ne_eq, show ¬ ("Name" = "_") by decide, show ¬ ("A" = "_") by decide, show ¬ ("B" = "_") by decide, show ¬ ("HasA" = "_") by decide, show ¬ ("HasB" = "_") by decide, not_false_eq_true, if_true, Bool.not_true, Bool.false_eq_true, if_false]
    simp
  · simp at hf
theorem placesB (w : World) : ((Try.prog.fieldsOf 35).mapM fun f => (do pure (f.offset, ← sizeOf f.type) : Sem (Nat × Nat))).run Try.prog w = .ok #[(0, 1), (1, 34), (35, 34), (69, 1), (70, 1)] w := by kernel_rfl
theorem fill_step {place : Nat → Option (Nat × Nat)} {cells cells' : Array Value} {i off size : Nat} {v : Value} {rest : List (Nat × Value)} (hp : place i = some (off, size)) (hv : v.cells.size = size) (hfit : off + size ≤ cells.size) (hl : laidAt cells off v.cells = cells') :
    Instr.fill place cells ((i, v) :: rest) = Instr.fill place cells' rest := by
  rw [Instr.fill, hp]
  simp only
  rw [if_neg (by simp [hv]; omega), ← hl, ← foldl_laid cells v.cells off (by omega)]
theorem laid_one (cells : Array Value) (off : Nat) (c : Value) (h : off < cells.size) : laidAt cells off #[c] = cells.setIfInBounds off c := by
  rw [← foldl_laid cells #[c] off (by simp; omega)]
  simp
theorem build_both (S : ByteArray) (ca cb : Array Value) (ha hb : Bool) (h1 : ca.size = 34) (h2 : cb.size = 34) (w : World) :
    (Instr.build 35 #[(0, .string S), (1, .agg ca), (2, .agg cb), (3, .bool ha), (4, .bool hb)]).run Try.prog w = .ok (.agg (rowV S ca cb ha hb)) w := by
  have f0 : Instr.fill (#[(0, 1), (1, 34), (35, 34), (69, 1), (70, 1)][·]?) zeroB [(0, .string S), (1, .agg ca), (2, .agg cb), (3, .bool ha), (4, .bool hb)] = some (rowV S ca cb ha hb) := by
    have z : zeroB = rowV { data := #[] } zeroE zeroE false false := rfl
    rw [z]
    have zs := zeroE_size
    generalize zeroE = zE at zs
    refine (fill_step (off := 0) (size := 1) (cells' := rowV S zE zE false false) rfl rfl (by rw [rowV_size _ _ _ _ _ zs zs]; decide) ?_).trans ?_
    · rw [show (Value.string S).cells = #[.string S] from rfl, laid_one _ _ _ (by rw [rowV_size _ _ _ _ _ zs zs]; decide), rowV_name]
    refine (fill_step (off := 1) (size := 34) (v := .agg ca) (cells' := rowV S ca zE false false) rfl h1 (by rw [rowV_size _ _ _ _ _ zs zs]; decide) (rowV_a _ _ _ _ _ _ zs h1)).trans ?_
    refine (fill_step (off := 35) (size := 34) (v := .agg cb) (cells' := rowV S ca cb false false) rfl h2 (by rw [rowV_size _ _ _ _ _ h1 zs]; decide) (rowV_b _ _ _ _ _ _ h1 zs h2)).trans ?_
    refine (fill_step (off := 69) (size := 1) (cells' := rowV S ca cb ha false) rfl rfl (by rw [rowV_size _ _ _ _ _ h1 h2]; decide) ?_).trans ?_
    · rw [show (Value.bool ha).cells = #[.bool ha] from rfl, laid_one _ _ _ (by rw [rowV_size _ _ _ _ _ h1 h2]; decide), rowV_ha _ _ _ _ _ h1 h2]
    refine (fill_step (off := 70) (size := 1) (cells' := rowV S ca cb ha hb) rfl rfl (by rw [rowV_size _ _ _ _ _ h1 h2]; decide) ?_).trans ?_
    · rw [show (Value.bool hb).cells = #[.bool hb] from rfl, laid_one _ _ _ (by rw [rowV_size _ _ _ _ _ h1 h2]; decide), rowV_hb _ _ _ _ _ h1 h2]
    rfl
  unfold Instr.build
  simp only [Sem.run_bind, zero_both, Result.andThen_ok, Value.cells, run_underlying structB, placesB, f0, Sem.run_pure]
end Go.Proofs.Ytinjednmamkjgaa

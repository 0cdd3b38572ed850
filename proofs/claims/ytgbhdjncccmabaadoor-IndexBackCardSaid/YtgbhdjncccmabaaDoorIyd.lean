/- What is proved: two places held against one another whole. Conditions: their ids are ids. -/
import Derived.Test.YtgbhdjncccmabaaDoorIyc
import Derived.Laws.StructEq
namespace Go.Proofs.YtgbhdjncccmabaaDoor
open Go.RowKit
set_option linter.unusedVariables false

theorem plC_ext (p : Pl) : p.cells.extract 0 32 = idC (dgt p.id) := by
  apply Array.toList_inj.1
  rw [Array.toList_extract, List.extract, List.drop_zero, plC_ids]
theorem fieldsPl : (Tryd.prog.fieldsOf 49).toList.map (fun f => (f.name, f.type, f.offset)) = [("ID", 24, 0), ("At", 3, 32), ("Sum", 47, 33)] := by kernel_rfl
theorem underPl : Tryd.prog.underlying 49 = some (.struct (Tryd.prog.fieldsOf 49)) := by kernel_rfl
theorem stoodPl : Tryd.prog.stoodInHeld 49 = false := by kernel_rfl
theorem aggU32 (w : World) : (isAgg 47).run Tryd.prog w = .ok false w := by kernel_rfl
theorem partPlI (p : Pl) (w : World) : (part 24 p.cells 0).run Tryd.prog w = .ok (.agg (idC (dgt p.id))) w := by
  simp only [part, Sem.run_bind, aggID, sizID, Result.andThen_ok, if_true, Sem.run_pure]
  rw [Nat.zero_add, plC_ext]
theorem partPlA (p : Pl) (w : World) : (part 3 p.cells 32).run Tryd.prog w = .ok (.int .i64 p.pos) w := by
  simp only [part, Sem.run_bind, aggInt, Result.andThen_ok, Bool.false_eq_true, if_false, plC_pos, Sem.run_pure]
theorem partPlS (p : Pl) (w : World) : (part 47 p.cells 33).run Tryd.prog w = .ok (.int .u32 p.sm) w := by
  simp only [part, Sem.run_bind, aggU32, Result.andThen_ok, Bool.false_eq_true, if_false, plC_sm, Sem.run_pure]
def samP (p q : Pl) : Bool := (p.id == q.id) && ((p.pos == q.pos) && (p.sm == q.sm))
theorem samP_self (p : Pl) : samP p p = true := by simp [samP]
theorem eq_plsm (p q : Pl) (hp : p.id < big) (hq : q.id < big) (m : Nat) (hm : 3 ≤ m) (w : World) : (Op.equalIn m 49 (.agg p.cells) (.agg q.cells)).run Tryd.prog w = .ok (samP p q) w := by
  obtain ⟨d, rfl⟩ : ∃ d, m = d + 2 + 1 := ⟨m - 3, by omega⟩
  rw [run_equalIn_struct w (d + 2) 49 _ _ underPl stoodPl]
  have hf := fieldsPl
  generalize (Tryd.prog.fieldsOf 49).toList = fs at hf
  rcases fs with _ | ⟨f, _ | ⟨g, _ | ⟨k, _ | ⟨f', fs'⟩⟩⟩⟩
  · simp at hf
  · simp at hf
  · simp at hf
  · simp only [List.map_cons, List.map_nil, List.cons.injEq, Prod.mk.injEq, and_true] at hf
    obtain ⟨⟨f1, f2, f3⟩, ⟨g1, g2, g3⟩, k1, k2, k3⟩ := hf
    have en : (Op.equalIn (d + 2) 3 (.int .i64 p.pos) (.int .i64 q.pos)).run Tryd.prog w = .ok (p.pos == q.pos) w := run_equalIn_int w (d + 1) 3 .i64 .i64 _ _ Tryd.underlying3
    have es : (Op.equalIn (d + 2) 47 (.int .u32 p.sm) (.int .u32 q.sm)).run Tryd.prog w = .ok (p.sm == q.sm) w := run_equalIn_int w (d + 1) 47 .u32 .u32 _ _ Tryd.underlying47
    have ei := eq_ids (dgt p.id) (dgt q.id) (dgt_lt _) (dgt_lt _) (d + 2) (by omega) w
    rw [sameD_dgt _ _ hp hq] at ei
    simp only [samP, Op.eqFields, f1, f2, f3, g1, g2, g3, k1, k2, k3, Sem.run_bind, partPlI, ei, Result.andThen_ok, ne_eq, show ¬ ("ID" = "_") by decide, show ¬ ("At" = "_") by decide, show ¬ ("Sum" = "_") by decide, not_false_eq_true, if_true]
    cases (p.id == q.id)
    · simp
    · simp only [Bool.not_true, Bool.false_eq_true, if_false, Sem.run_bind, partPlA, en, Result.andThen_ok, Bool.true_and]
      cases (p.pos == q.pos)
      · simp
      · simp only [Bool.not_true, Bool.false_eq_true, if_false, Sem.run_bind, partPlS, es, Result.andThen_ok, Bool.true_and]
        cases (p.sm == q.sm) <;> simp
  · simp at hf
theorem eq_pls (p q : Pl) (hp : p.id < big) (hq : q.id < big) (w : World) : (Op.equalIn 10000 49 (.agg p.cells) (.agg q.cells)).run Tryd.prog w = .ok (samP p q) w := eq_plsm p q hp hq 10000 (by omega) w
end Go.Proofs.YtgbhdjncccmabaaDoor

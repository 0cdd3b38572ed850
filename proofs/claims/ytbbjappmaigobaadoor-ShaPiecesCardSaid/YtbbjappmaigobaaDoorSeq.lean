/- What is proved: an array of numbers is equal to itself. Conditions: none beyond each lemma's own premises. -/
import Derived.Test.YtbbjappmaigobaaDoorShz
import Derived.Laws.StructEq
namespace Go.Proofs.YtbbjappmaigobaaDoor
open Go.RowKit
set_option linter.unusedVariables false

theorem run_equal_same {P : Program} (w : World) (d : Nat) (t e : TypeId) (n : Nat) (k : IntKind) (ht : P.underlying t = some (.array n e)) (he : P.underlying e = some (.int k)) (hsz : ∀ w, (sizeOf e).run P w = .ok 1 w)
    (zs : List Int) (hz : zs.length = n) : (Op.equalIn (d + 2) t (.agg (zs.map (Value.int k)).toArray) (.agg (zs.map (Value.int k)).toArray)).run P w = .ok true w := by
  rw [Op.equalIn]
  simp only [Sem.run_bind, run_underlying ht, Result.andThen_ok, hsz, Std.Legacy.Range.forIn_eq_forIn_range', Std.Legacy.Range.size, Nat.sub_zero, Nat.add_sub_cancel, Nat.div_one]
  have hl : ∀ i ∈ List.range' 0 n 1, i < n := fun i hi => by simpa using (List.mem_range'_1.1 hi).2
  generalize List.range' 0 n 1 = l at hl ⊢
  induction l with
  | nil => simp
  | cons i l ih =>
    have hi : i < n := hl i (by simp)
    have px : (part e (zs.map (Value.int k)).toArray (i * 1)).run P w = .ok (.int k (zs.getD i 0)) w := by
      simp [part, isAgg, run_underlying he, List.getD, List.getElem?_eq_getElem (show i < zs.length by omega)]
    have pe : (Op.equalIn (d + 1) e (.int k (zs.getD i 0)) (.int k (zs.getD i 0))).run P w = .ok true w := by
      rw [run_equalIn_int w d e k k _ _ he]
      simp
    simp only [List.forIn_cons, Sem.run_bind, px, pe, Result.andThen_ok]
    simp only [Bool.not_true, Bool.false_eq_true, if_false, Sem.run_pure, Result.andThen_ok]
    exact ih fun j hj => hl j (by simp [hj])

theorem eq8 (s : S8) (w : World) : (Op.equalIn 10000 23 (.agg s.vals) (.agg s.vals)).run Tryd.prog w = .ok true w :=
  run_equal_same (P := Tryd.prog) w 9998 23 22 8 .u32 Tryd.underlying23 Tryd.underlying22 (fun _ => by kernel_rfl) s.nums rfl
theorem sumV_nums (l : List UInt8) : sumV l = (((List.range 32).map (idN (stOf (l ++ padB l.length)))).map (Value.int .u8)).toArray := by
  simp [sumV, idC, List.map_map]
theorem eq32 (zs : List Int) (hz : zs.length = 32) (w : World) : (Op.equalIn 10000 38 (.agg (zs.map (Value.int .u8)).toArray) (.agg (zs.map (Value.int .u8)).toArray)).run Tryd.prog w = .ok true w :=
  run_equal_same (P := Tryd.prog) w 9998 38 5 32 .u8 Tryd.underlying38 Tryd.underlying5 (fun _ => by kernel_rfl) zs hz
theorem eqSum (l : List UInt8) (w : World) : (Op.equalIn 10000 38 (.agg (sumV l)) (.agg (sumV l))).run Tryd.prog w = .ok true w := by
  rw [sumV_nums]
  exact eq32 _ (by simp) w
end Go.Proofs.YtbbjappmaigobaaDoor

/- What is proved: how an argument that is a question on ids is opened: its list, its beginning, its id, its number. Conditions: none. -/
import Derived.Test.YtbfbgopbelmghaaOyL
import Derived.Test.YtbfbgopbelmghaaOka
namespace Go.Proofs.Ytbfbgopbelmghaa
open Go.ChangeShapes Go.WideShapes Go.ChangeAt Go.RowKit Go.Deep
set_option linter.unusedVariables false

theorem cells_ids : Try.prog.cellsOf 44 = 1 := by kernel_rfl
theorem cells_asked : Try.prog.cellsOf 52 = 67 := by kernel_rfl
theorem open_asked {H : Type} {enc : TypeId × Value → H} {w : World} {base : Nat} {held : Bool} {fuel : Nat} {cs : List Value} {x : DataW H × List MemPlace}
    (h : DataW.trod enc Try.prog w base (fun _ => true) held fuel 52 cs = some x) :
    ∃ A cap l a N i L, l.length ≤ cap ∧ l.length ≤ 9223372036854775807 ∧ Lies w A (flatI l) ∧ (∀ n ∈ l, n < big) ∧ a < big ∧ -9223372036854775808 ≤ N ∧ N ≤ 9223372036854775807 ∧ i < big ∧ -9223372036854775808 ≤ L ∧ L ≤ 9223372036854775807 ∧ cs = (askC A cap l a N i L).toList := by
  obtain ⟨xs, m, rfl, _, hl, hxl, hel⟩ := DataW.trod_struct Try.underlying52 h
  rw [cells_asked] at hl
  have hxl2 : xs.length = 4 := hxl
  have h0 : DataW.trod enc Try.prog w base (fun _ => true) held m 44 ((cs.drop 0).take (Try.prog.cellsOf 44)) = xs[0]? := hel 0 _ rfl
  have h1 : DataW.trod enc Try.prog w base (fun _ => true) held m 30 ((cs.drop 1).take (Try.prog.cellsOf 30)) = xs[1]? := hel 1 _ rfl
  have h2 : DataW.trod enc Try.prog w base (fun _ => true) held m 23 ((cs.drop 34).take (Try.prog.cellsOf 23)) = xs[2]? := hel 2 _ rfl
  have h3 : DataW.trod enc Try.prog w base (fun _ => true) held m 3 ((cs.drop 66).take (Try.prog.cellsOf 3)) = xs[3]? := hel 3 _ rfl
  rw [cells_ids, List.getElem?_eq_getElem (by omega)] at h0
  rw [cells_pfx, List.getElem?_eq_getElem (by omega)] at h1
  rw [cells_ID, List.getElem?_eq_getElem (by omega)] at h2
  rw [cells_int, take_one (by omega), List.getElem?_eq_getElem (by omega)] at h3
  obtain ⟨A, cap, l, e0, hle, hcm, hli, hb⟩ := open_ids h0
  obtain ⟨a, N, ha, hN, hM, e1⟩ := open_pfx h1
  obtain ⟨i, hi, e2⟩ := open_id h2
  obtain ⟨L, e3, _, hw⟩ := DataW.trod_int Try.underlying3 h3
  have hr : -9223372036854775808 ≤ L ∧ L ≤ 9223372036854775807 := by simpa [Lit.wf, IntKind.min, IntKind.max, IntKind.signed, IntKind.bits] using hw
  refine ⟨A, cap, l, a, N, i, L, hle, hcm, hli, hb, ha, hN, hM, hi, hr.1, hr.2, ?_⟩
  have s1 : cs = (cs.drop 0).take 1 ++ ((cs.drop 1).take 33 ++ ((cs.drop 34).take 32 ++ [cs[66]])) := by
    rw [show [cs[66]] = cs.drop 66 by rw [List.drop_eq_getElem_cons (by omega), List.drop_of_length_le (by omega)], List.drop_zero]
    rw [show cs.drop 66 = (cs.drop 34).drop 32 by rw [List.drop_drop], List.take_append_drop, show cs.drop 34 = (cs.drop 1).drop 33 by rw [List.drop_drop], List.take_append_drop, List.take_append_drop]
  rw [s1, e0, e1, e2]
  have e4 : cs[66] = .int .i64 L := by simpa using e3
  rw [e4, askC]
  simp
end Go.Proofs.Ytbfbgopbelmghaa

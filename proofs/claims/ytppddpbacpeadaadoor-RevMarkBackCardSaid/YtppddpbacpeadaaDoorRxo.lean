/- What is proved: a tag as a reader reads it. Conditions: none. -/
import Derived.Test.YtppddpbacpeadaaDoorRvo
import Derived.Test.YtppddpbacpeadaaDoorRxa
namespace Go.Proofs.YtppddpbacpeadaaDoor
open Go.ChangeShapes Go.WideShapes Go.ChangeAt Go.RowKit Go.Deep
open Ids (idC dgt big idC_size idC_get idC_one cellD zero32 size32 dgt_lt hexB nu nu_lt idC_nu byt)
set_option linter.unusedVariables false

/-- A tag, as a reader has read it. -/
theorem open_mark {H : Type} {enc : TypeId × Value → H} {w : World} {base : Nat} {held : Bool} {fuel : Nat} {cs : List Value} {x : DataW H × List MemPlace}
    (h : DataW.trod enc Tryd.prog w base (fun _ => true) held fuel 51 cs = some x) (hz : ∀ n ∈ x.1.weights Tryd.prog 51, n ≤ reachBytes) :
    ∃ T k a n t, T < big ∧ -9223372036854775808 ≤ k ∧ k ≤ 9223372036854775807 ∧ a.length ≤ 9223372036854775806 ∧ -9223372036854775808 ≤ n ∧ n ≤ 9223372036854775807 ∧ t.length ≤ 9223372036854775806 ∧ cs = (markC T k a n t).toList := by
  obtain ⟨xs, m, hx, hy, hl, hxl, hel⟩ := DataW.trod_struct Tryd.underlying51 h
  rw [cells_mark] at hl
  have hxl2 : xs.length = 5 := hxl
  have h0 : DataW.trod enc Tryd.prog w base (fun _ => true) held m 23 ((cs.drop 0).take (Tryd.prog.cellsOf 23)) = xs[0]? := hel 0 _ rfl
  have h1 : DataW.trod enc Tryd.prog w base (fun _ => true) held m 3 ((cs.drop 32).take (Tryd.prog.cellsOf 3)) = xs[1]? := hel 1 _ rfl
  have h2 : DataW.trod enc Tryd.prog w base (fun _ => true) held m 9 ((cs.drop 33).take (Tryd.prog.cellsOf 9)) = xs[2]? := hel 2 _ rfl
  have h3 : DataW.trod enc Tryd.prog w base (fun _ => true) held m 3 ((cs.drop 34).take (Tryd.prog.cellsOf 3)) = xs[3]? := hel 3 _ rfl
  have h4 : DataW.trod enc Tryd.prog w base (fun _ => true) held m 9 ((cs.drop 35).take (Tryd.prog.cellsOf 9)) = xs[4]? := hel 4 _ rfl
  rw [cells_ID] at h0
  rw [cells_str, take_one (by omega)] at h2 h4
  rw [cells_int, take_one (by omega)] at h1 h3
  match xs, hxl2 with
  | [y0, y1, y2, y3, y4], _ =>
    obtain ⟨T, hT, e0⟩ := open_id h0
    obtain ⟨K, e1, x1, hwk⟩ := DataW.trod_int Tryd.underlying3 h1
    have hrk : -9223372036854775808 ≤ K ∧ K ≤ 9223372036854775807 := by simpa [Lit.wf, IntKind.min, IntKind.max, IntKind.signed, IntKind.bits] using hwk
    obtain ⟨s, e2, x2, w2⟩ := DataW.trod_string Tryd.underlying9 h2
    obtain ⟨N, e3, x3, hw⟩ := DataW.trod_int Tryd.underlying3 h3
    obtain ⟨t, e4, x4, w4⟩ := DataW.trod_string Tryd.underlying9 h4
    have hr : -9223372036854775808 ≤ N ∧ N ≤ 9223372036854775807 := by simpa [Lit.wf, IntKind.min, IntKind.max, IntKind.signed, IntKind.bits] using hw
    have hsz : s.data.toList.length ≤ reachBytes := by
      refine hz _ ?_
      rw [hy]
      simp only [List.map_cons, List.map_nil, DataW.weights, Tryd.underlying51]
      simp only [DataW.weightsEach, List.mem_append]
      exact .inr (.inr (.inl (by rw [x2]; simp [DataW.weights])))
    have htz : t.data.toList.length ≤ reachBytes := by
      refine hz _ ?_
      rw [hy]
      simp only [List.map_cons, List.map_nil, DataW.weights, Tryd.underlying51]
      simp only [DataW.weightsEach, List.mem_append]
      exact .inr (.inr (.inr (.inr (.inl (by rw [x4]; simp [DataW.weights])))))
    refine ⟨T, K, s.data.toList, N, t.data.toList, hT, hrk.1, hrk.2, by unfold reachBytes at hsz; omega, hr.1, hr.2, by unfold reachBytes at htz; omega, ?_⟩
    have s1 : cs = (cs.drop 0).take 32 ++ ([cs[32]] ++ ([cs[33]] ++ ([cs[34]] ++ [cs[35]]))) := by
      rw [← take_one (by omega : 32 < cs.length), ← take_one (by omega : 33 < cs.length), ← take_one (by omega : 34 < cs.length), ← take_one (by omega : 35 < cs.length)]
      rw [show (cs.drop 35).take 1 = cs.drop 35 from List.take_of_length_le (by rw [List.length_drop]; omega), show cs.drop 35 = (cs.drop 34).drop 1 by rw [List.drop_drop], List.take_append_drop, show cs.drop 34 = (cs.drop 33).drop 1 by rw [List.drop_drop], List.take_append_drop, show cs.drop 33 = (cs.drop 32).drop 1 by rw [List.drop_drop], List.take_append_drop, show cs.drop 32 = (cs.drop 0).drop 32 by rw [List.drop_drop], List.take_append_drop, List.drop_zero]
    rw [s1, e0]
    have a1 : cs[32] = .int .i64 K := by simpa using e1
    have a2 : cs[33] = .string s := by simpa using e2
    have a3 : cs[34] = .int .i64 N := by simpa using e3
    have a4 : cs[35] = .string t := by simpa using e4
    rw [a1, a2, a3, a4, markC, strB_of, strB_of]
    simp

end Go.Proofs.YtppddpbacpeadaaDoor

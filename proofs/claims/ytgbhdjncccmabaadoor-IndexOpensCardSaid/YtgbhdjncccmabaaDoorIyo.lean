/- What is proved: how an argument that is a list of places is opened: its places, where they lie. Conditions: none. -/
import Derived.Test.YtgbhdjncccmabaaDoorIxa
import Derived.Test.YtgbhdjncccmabaaDoorOy
import Derived.Deep.Slices
namespace Go.Proofs.YtgbhdjncccmabaaDoor
open Go.ChangeShapes Go.WideShapes Go.ChangeAt Go.RowKit Go.Deep
set_option linter.unusedVariables false

theorem cells_IDp : Tryd.prog.cellsOf 24 = 32 := by kernel_rfl
theorem cells_intp : Tryd.prog.cellsOf 3 = 1 := by kernel_rfl
theorem cells_u32p : Tryd.prog.cellsOf 47 = 1 := by kernel_rfl
theorem cells_pl : Tryd.prog.cellsOf 49 = 34 := by kernel_rfl
/-- A place, as a reader has read it. -/
theorem open_place {H : Type} {enc : TypeId × Value → H} {w : World} {base : Nat} {sp : Nat → Bool} {held : Bool} {fuel : Nat} {cs : List Value} {x : DataW H × List MemPlace}
    (h : DataW.trod enc Tryd.prog w base sp held fuel 49 cs = some x) : ∃ p : Pl, p.Ok ∧ cs = p.cells.toList := by
  obtain ⟨xs, m, rfl, _, hl, hxl, hel⟩ := DataW.trod_struct Tryd.underlying49 h
  rw [cells_pl] at hl
  have h0 : DataW.trod enc Tryd.prog w base sp held m 24 ((cs.drop 0).take (Tryd.prog.cellsOf 24)) = xs[0]? := hel 0 _ rfl
  have h1 : DataW.trod enc Tryd.prog w base sp held m 3 ((cs.drop 32).take (Tryd.prog.cellsOf 3)) = xs[1]? := hel 1 _ rfl
  have h2 : DataW.trod enc Tryd.prog w base sp held m 47 ((cs.drop 33).take (Tryd.prog.cellsOf 47)) = xs[2]? := hel 2 _ rfl
  have hx3 : xs.length = 3 := hxl
  rw [cells_IDp, List.getElem?_eq_getElem (by omega)] at h0
  rw [cells_intp, take_one (by omega), List.getElem?_eq_getElem (by omega)] at h1
  rw [cells_u32p, take_one (by omega), List.getElem?_eq_getElem (by omega)] at h2
  obtain ⟨a, ha, e0⟩ := open_id h0
  obtain ⟨N, e1, _, hw⟩ := DataW.trod_int Tryd.underlying3 h1
  obtain ⟨S, e2, _, hw2⟩ := DataW.trod_int Tryd.underlying47 h2
  have hr : -9223372036854775808 ≤ N ∧ N ≤ 9223372036854775807 := by simpa [Lit.wf, IntKind.min, IntKind.max, IntKind.signed, IntKind.bits] using hw
  have hr2 : 0 ≤ S ∧ S ≤ 4294967295 := by simpa [Lit.wf, IntKind.min, IntKind.max, IntKind.signed, IntKind.bits] using hw2
  refine ⟨⟨a, N, S⟩, ⟨ha, hr.1, hr.2, hr2.1, by have := hr2.2; show S < 4294967296; omega⟩, ?_⟩
  have d1 : cs.drop 32 = cs[32] :: cs.drop 33 := List.drop_eq_getElem_cons (by omega)
  have d2 : cs.drop 33 = cs[33] :: cs.drop 34 := List.drop_eq_getElem_cons (by omega)
  have d3 : cs.drop 34 = [] := List.drop_of_length_le (by omega)
  have e3 : cs = (cs.drop 0).take 32 ++ cs.drop 32 := by rw [List.drop_zero, List.take_append_drop]
  rw [d1, d2, d3] at e3
  have e4 : cs[32] = .int .i64 N := by simpa using e1
  have e5 : cs[33] = .int .u32 S := by simpa using e2
  rw [e0, e4, e5] at e3
  rw [e3, Pl.cells, Array.toList_append]
theorem open_places {H : Type} {enc : TypeId × Value → H} {w : World} {base : Nat} {held : Bool} {fuel : Nat} {cs : List Value} {x : DataW H × List MemPlace}
    (h : DataW.trod enc Tryd.prog w base (fun _ => true) held fuel 22 cs = some x) :
    ∃ A cap l, cs = [.slice A l.length cap] ∧ l.length ≤ cap ∧ l.length ≤ 9223372036854775807 ∧ Lies w A (flatP l) ∧ ∀ p ∈ l, p.Ok := by
  rcases open_slice Tryd.underlying22 h with ⟨hcs, hx⟩ | ⟨a, len, cap, m, n, D, Pl1, hcs, hb, hl, hm, hmm, hx, hi⟩
  · exact ⟨none, 0, [], hcs, by simp, by simp, .inl rfl, by simp⟩
  · have hmc : m = cap := by simpa using hmm
    have each : ∀ i, i < len → ∃ y : Pl, y.Ok ∧ ∀ j v, y.cells[j]? = some v → w.cell? (a.add (i * 34 + j)) = some v := by
      intro i hil
      obtain ⟨cs', hc, ht'⟩ := hi i (by omega)
      rw [cells_pl] at hc
      obtain ⟨y, hy, e⟩ := open_place ht'
      obtain ⟨_, hcl, hat⟩ := World.cells?_some hc
      refine ⟨y, hy, fun j v hv => ?_⟩
      have hj : j < 34 := by
        have := (Array.getElem?_eq_some_iff.1 hv).1
        rwa [plC_size] at this
      have := hat j (by omega)
      rw [add_add] at this
      rw [this, e, Array.getElem?_toList, hv]
    obtain ⟨f, hfd⟩ := choose_lt each
    have hll : ((List.range len).map f).length = len := by simp
    have hmx : cap ≤ maxLen := hm
    refine ⟨some a, cap, (List.range len).map f, by rw [hll]; exact hcs, by rw [hll]; exact hl, by rw [hll]; unfold maxLen at hmx; omega, ?_, fun y hy => ?_⟩
    · rcases Nat.eq_zero_or_pos len with h0 | h0
      · subst h0
        exact .inl rfl
      · have h00 := (hfd 0 h0).2 0 _ (plC_id _ 0 (by decide))
        obtain ⟨b, o, sp⟩ := a
        have hsp : sp = none := by simpa [Addr.add] using World.cell?_spot h00
        subst hsp
        refine .inr ⟨b, o, rfl, fun t u hu => ?_⟩
        have ht : t < len * 34 := by
          have := (List.getElem?_eq_some_iff.1 hu).1
          rwa [flatP_len, hll] at this
        have hil : t / 34 < len := by omega
        have e := flatP_get ((List.range len).map f) (t / 34) (f (t / 34)) (t % 34) (by rw [List.getElem?_map, List.getElem?_range hil]; rfl) (Nat.mod_lt _ (by decide))
        rw [show t / 34 * 34 + t % 34 = t by omega] at e
        rw [e] at hu
        have h2 := (hfd (t / 34) hil).2 (t % 34) u hu
        rw [add_off, show t / 34 * 34 + t % 34 = t by omega] at h2
        exact h2
    · obtain ⟨i, hi', rfl⟩ := List.mem_map.1 hy
      exact (hfd i (by simpa using hi')).1
end Go.Proofs.YtgbhdjncccmabaaDoor

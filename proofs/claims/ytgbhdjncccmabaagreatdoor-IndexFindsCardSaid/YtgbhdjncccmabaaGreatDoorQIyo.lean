/- What is proved: texts that stand one behind the other: Iyo Ixz. Conditions: each theorem names its own. -/
import Derived.Test.YtgbhdjncccmabaaGreatDoorIxa
import Derived.Test.YtgbhdjncccmabaaGreatDoorOy
import Derived.Deep.Slices
import Derived.Test.YtgbhdjncccmabaaGreatDoorBra
import Derived.Test.YtgbhdjncccmabaaGreatDoorRows
import Derived.LaidMore
import Derived.Lib.LaidTab
import Derived.Stop.Joined
import Derived.SizedLaws
/- What is proved: how an argument that is a list of places is opened: its places, where they lie. Conditions: none. -/
namespace Go.Proofs.YtgbhdjncccmabaaGreatDoor
open Go.ChangeShapes Go.WideShapes Go.ChangeAt Go.RowKit Go.Deep
set_option linter.unusedVariables false

theorem cells_IDp : Tryz.prog.cellsOf 24 = 32 := by kernel_rfl
theorem cells_intp : Tryz.prog.cellsOf 3 = 1 := by kernel_rfl
theorem cells_u32p : Tryz.prog.cellsOf 41 = 1 := by kernel_rfl
theorem cells_pl : Tryz.prog.cellsOf 43 = 34 := by kernel_rfl
/-- A place, as a reader has read it. -/
theorem open_place {H : Type} {enc : TypeId × Value → H} {w : World} {base : Nat} {sp : Nat → Bool} {held : Bool} {fuel : Nat} {cs : List Value} {x : DataW H × List MemPlace}
    (h : DataW.trod enc Tryz.prog w base sp held fuel 43 cs = some x) : ∃ p : Pl, p.Ok ∧ cs = p.cells.toList := by
  obtain ⟨xs, m, rfl, _, hl, hxl, hel⟩ := DataW.trod_struct Tryz.underlying43 h
  rw [cells_pl] at hl
  have h0 : DataW.trod enc Tryz.prog w base sp held m 24 ((cs.drop 0).take (Tryz.prog.cellsOf 24)) = xs[0]? := hel 0 _ rfl
  have h1 : DataW.trod enc Tryz.prog w base sp held m 3 ((cs.drop 32).take (Tryz.prog.cellsOf 3)) = xs[1]? := hel 1 _ rfl
  have h2 : DataW.trod enc Tryz.prog w base sp held m 41 ((cs.drop 33).take (Tryz.prog.cellsOf 41)) = xs[2]? := hel 2 _ rfl
  have hx3 : xs.length = 3 := hxl
  rw [cells_IDp, List.getElem?_eq_getElem (by omega)] at h0
  rw [cells_intp, take_one (by omega), List.getElem?_eq_getElem (by omega)] at h1
  rw [cells_u32p, take_one (by omega), List.getElem?_eq_getElem (by omega)] at h2
  obtain ⟨a, ha, e0⟩ := open_id h0
  obtain ⟨N, e1, _, hw⟩ := DataW.trod_int Tryz.underlying3 h1
  obtain ⟨S, e2, _, hw2⟩ := DataW.trod_int Tryz.underlying41 h2
  have hr : -9223372036854775808 ≤ N ∧ N ≤ 9223372036854775807 := by simpa [Lit.wf, IntKind.min, IntKind.max, IntKind.signed, IntKind.bits] using hw
  have hr2 : 0 ≤ S ∧ S ≤ 4294967295 := by simpa [Lit.wf, IntKind.min, IntKind.max, IntKind.signed, IntKind.bits] using hw2
  refine ⟨⟨a, N, S⟩, ⟨ha, hr.1, hr.2, hr2.1, by have := hr2.2; show S < 4294967296; omega⟩, ?_⟩
  have d1 : cs.drop 32 = cs[32] :: cs.drop 33 := List.drop_eq_getElem_cons (by omega)
  have d2 : cs.drop 33 = cs[33] :: cs.drop 34 := List.drop_eq_getElem_cons (by omega)
  have d3 : cs.drop 34 = [] := List.drop_of_length_le (by omega)
  have e3 : cs = (cs.drop 0).take 32 ++ cs.drop 32 := by rw [List.drop_zero, List.take_append_drop]
  rw [d1, d2, d3] at e3
  have e4 : cs[32] = .int .i64 N := by simpa using e1
  have e5 : cs[33] = .int .u32 S := by simpa using e2
  rw [e0, e4, e5] at e3
  rw [e3, Pl.cells, Array.toList_append]
theorem open_places {H : Type} {enc : TypeId × Value → H} {w : World} {base : Nat} {held : Bool} {fuel : Nat} {cs : List Value} {x : DataW H × List MemPlace}
    (h : DataW.trod enc Tryz.prog w base (fun _ => true) held fuel 22 cs = some x) :
    ∃ A cap l, cs = [.slice A l.length cap] ∧ l.length ≤ cap ∧ l.length ≤ 9223372036854775807 ∧ Lies w A (flatP l) ∧ ∀ p ∈ l, p.Ok := by
  rcases open_slice Tryz.underlying22 h with ⟨hcs, hx⟩ | ⟨a, len, cap, m, n, D, Pl1, hcs, hb, hl, hm, hmm, hx, hi⟩
  · exact ⟨none, 0, [], hcs, by simp, by simp, .inl rfl, by simp⟩
  · have hmc : m = cap := by simpa using hmm
    have each : ∀ i, i < len → ∃ y : Pl, y.Ok ∧ ∀ j v, y.cells[j]? = some v → w.cell? (a.add (i * 34 + j)) = some v := by
      intro i hil
      obtain ⟨cs', hc, ht'⟩ := hi i (by omega)
      rw [cells_pl] at hc
      obtain ⟨y, hy, e⟩ := open_place ht'
      obtain ⟨_, hcl, hat⟩ := World.cells?_some hc
      refine ⟨y, hy, fun j v hv => ?_⟩
      have hj : j < 34 := by
        have := (Array.getElem?_eq_some_iff.1 hv).1
        rwa [plC_size] at this
      have := hat j (by omega)
      rw [add_add] at this
      rw [this, e, Array.getElem?_toList, hv]
    obtain ⟨f, hfd⟩ := choose_lt each
    have hll : ((List.range len).map f).length = len := by simp
    have hmx : cap ≤ maxLen := hm
    refine ⟨some a, cap, (List.range len).map f, by rw [hll]; exact hcs, by rw [hll]; exact hl, by rw [hll]; unfold maxLen at hmx; omega, ?_, fun y hy => ?_⟩
    · rcases Nat.eq_zero_or_pos len with h0 | h0
      · subst h0
        exact .inl rfl
      · have h00 := (hfd 0 h0).2 0 _ (plC_id _ 0 (by decide))
        obtain ⟨b, o, sp⟩ := a
        have hsp : sp = none := by simpa [Addr.add] using World.cell?_spot h00
        subst hsp
        refine .inr ⟨b, o, rfl, fun t u hu => ?_⟩
        have ht : t < len * 34 := by
          have := (List.getElem?_eq_some_iff.1 hu).1
          rwa [flatP_len, hll] at this
        have hil : t / 34 < len := by omega
        have e := flatP_get ((List.range len).map f) (t / 34) (f (t / 34)) (t % 34) (by rw [List.getElem?_map, List.getElem?_range hil]; rfl) (Nat.mod_lt _ (by decide))
        rw [show t / 34 * 34 + t % 34 = t by omega] at e
        rw [e] at hu
        have h2 := (hfd (t / 34) hil).2 (t % 34) u hu
        rw [add_off, show t / 34 * 34 + t % 34 = t by omega] at h2
        exact h2
    · obtain ⟨i, hi', rfl⟩ := List.mem_map.1 hy
      exact (hfd i (by simpa using hi')).1
end Go.Proofs.YtgbhdjncccmabaaGreatDoor
/- What is proved: what the condition on the table of the sums' constants gives; that the program's own start meets it. Conditions: none. -/
namespace Go.Proofs.YtgbhdjncccmabaaGreatDoor
open Go.ChangeShapes Go.WideShapes Go.ChangeAt Go.RowKit
set_option linter.unusedVariables false

theorem gK : Tryz.prog.globalNamed "sleuth/sha.k" = some 1 := by kernel_rfl
theorem tK : (Tryz.prog.globals[1]?).map (·.type) = some 160 := by kernel_rfl
theorem cells64 : Tryz.prog.cellsOf 160 = 64 := by kernel_rfl
theorem cells1 : Tryz.prog.cellsOf 41 = 1 := by kernel_rfl
theorem laid_eq : (Rows.laid_sleuth_sha_k : DataW Unit) = Lib.tabData .u32 kt := rfl
/-- What the condition gives: the table. -/
theorem tab_of_laid {W : World} (h : laidMetH Tryz.prog [("sleuth/sha.k", Rows.laid_sleuth_sha_k)] W) : Tab W := by
  rw [MakeChecks.laidMetH_plain _ _ _ (by kernel_rfl), laid_eq] at h
  have ht := Lib.tabIs_of_head gK tK Tryz.underlying160 Tryz.underlying41 cells1 cells64 h
  intro i hi
  exact ht.cell gK i hi
set_option maxRecDepth 100000 in
/-- The door's own heap meets the condition. -/
theorem door_met (os : Os) (args : Array Value) : laidMetH Tryz.prog [("sleuth/sha.k", Rows.laid_sleuth_sha_k)] ((World.doorLaid Tryz.prog 400 os).forCall (fun _ _ => 0) ⟨#[], args, []⟩).memory :=
  laidMetH_of_parts3 (fuel := 8) (laidMet_of_run' 8 (by kernel_rfl) (by kernel_rfl)) (by kernel_rfl) (by kernel_rfl)
end Go.Proofs.YtgbhdjncccmabaaGreatDoor

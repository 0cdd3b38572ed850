/- What is proved: how an argument that is a graph, or a list of numbers, is opened. Conditions: none. -/
import Derived.Test.YtpaigmmpihcdaaaRows
import Derived.Test.YtpaigmmpihcdaaaJl
import Derived.ProofKit
import Derived.OpenShut
import Derived.ShutString
import Derived.ChangeOld
import Derived.SizedLaws
import Derived.Deep.Slices
import Derived.Deep.Fields
import Derived.ChangeMaps5
namespace Go.Proofs.Ytpaigmmpihcdaaa
open Go.ChangeShapes Go.WideShapes Go.ChangeAt Go.RowKit Go.Deep
set_option linter.unusedVariables false

theorem own_knob : ownKnob Try.prog.godebug = none := by kernel_rfl
theorem laidOut : laidOutB Try.prog = true := by kernel_rfl
theorem cells_int : Try.prog.cellsOf 3 = 1 := by kernel_rfl
theorem cells_ints : Try.prog.cellsOf 23 = 1 := by kernel_rfl
theorem cells_node : Try.prog.cellsOf 38 = 2 := by kernel_rfl
theorem take_one {cs : List Value} {i : Nat} (h : i < cs.length) : (cs.drop i).take 1 = [cs[i]] := by
  rw [List.drop_eq_getElem_cons h]
  rfl
theorem one_inj {a b : Value} (h : [a] = [b]) : a = b := by injection h
theorem list2 {cs : List Value} (hl : cs.length = 2) {a b : Value} (h0 : cs[0]'(by omega) = a) (h1 : cs[1]'(by omega) = b) : cs = [a, b] := by
  match cs, hl with
  | [a0, a1], _ =>
    simp at h0 h1
    rw [h0, h1]
theorem open_zs {H : Type} {enc : TypeId × Value → H} {P : Program} {w : World} {base : Nat} {held : Bool} {t e : TypeId} {fuel : Nat} {cs : List Value} {x : DataW H × List MemPlace}
    (ht : P.underlying t = some (.slice e)) (he : P.underlying e = some (.int .i64)) (hc : P.cellsOf e = 1) (h : DataW.trod enc P w base (fun _ => true) held fuel t cs = some x) :
    ∃ A cap l, cs = [.slice A l.length cap] ∧ l.length ≤ cap ∧ Lies w A (zC l) := by
  rcases open_ints ht he hc h with ⟨hcs, hx⟩ | ⟨a, len, cap, zs, hcs, _, hl, hm, hz, hx, hcell, hwf⟩
  · exact ⟨none, 0, [], hcs, by simp, .inl rfl⟩
  · have hz' : zs.length = cap := by simpa using hz
    have hbl : (zs.take len).length = len := by rw [List.length_take]; omega
    refine ⟨some a, cap, zs.take len, by rw [hcs, hbl], by omega, ?_⟩
    rcases Nat.eq_zero_or_pos len with h0 | h0
    · subst h0
      exact .inl rfl
    · have h00 := hcell 0 (by omega)
      obtain ⟨b, o, sp⟩ := a
      have hsp : sp = none := by simpa [Addr.add] using World.cell?_spot h00
      subst hsp
      refine .inr ⟨b, o, rfl, fun j u hu => ?_⟩
      have hj : j < len := by
        have := (List.getElem?_eq_some_iff.1 hu).1
        rwa [zC_len, hbl] at this
      have hcj := hcell j (by omega)
      rw [add_off] at hcj
      rw [hcj]
      unfold zC at hu
      rw [List.getElem?_map, List.getElem?_take, if_pos hj, List.getElem?_eq_getElem (by omega)] at hu
      simp only [Option.map_some, Option.some.injEq] at hu
      rw [← hu, List.getD_eq_getElem?_getD, List.getElem?_eq_getElem (by omega)]
      rfl
theorem open_node {H : Type} {enc : TypeId × Value → H} {w : World} {base : Nat} {held : Bool} {fuel : Nat} {cs : List Value} {x : DataW H × List MemPlace}
    (h : DataW.trod enc Try.prog w base (fun _ => true) held fuel 38 cs = some x) : ∃ d : Nd, cs = nodeV d ∧ d.ps.length ≤ d.c ∧ Lies w d.A (zC d.ps) := by
  obtain ⟨xs, m, rfl, _, hl, hxl, hel⟩ := DataW.trod_struct Try.underlying38 h
  rw [cells_node] at hl
  have hxl2 : xs.length = 2 := hxl
  have h0 : DataW.trod enc Try.prog w base (fun _ => true) held m 23 ((cs.drop 0).take (Try.prog.cellsOf 23)) = xs[0]? := hel 0 _ rfl
  have h1 : DataW.trod enc Try.prog w base (fun _ => true) held m 3 ((cs.drop 1).take (Try.prog.cellsOf 3)) = xs[1]? := hel 1 _ rfl
  rw [cells_ints, take_one (by omega), List.getElem?_eq_getElem (by omega)] at h0
  rw [cells_int, take_one (by omega), List.getElem?_eq_getElem (by omega)] at h1
  obtain ⟨A, c, l, e0, k1, k2⟩ := open_zs Try.underlying23 Try.underlying3 cells_int h0
  obtain ⟨t, e1, _, _⟩ := DataW.trod_int Try.underlying3 h1
  exact ⟨⟨A, c, l, t⟩, list2 hl (one_inj e0) (one_inj e1), k1, k2⟩
theorem flatG_at : ∀ (G : List Nd) (k j : Nat) (d : Nd), G[k]? = some d → j < 2 → (flatG G)[k * 2 + j]? = (nodeV d)[j]?
  | [], k, j, d, h, _ => by simp at h
  | e :: G, 0, j, d, h, hj => by
    simp at h
    subst h
    rw [flatG, List.flatMap_cons, Nat.zero_mul, Nat.zero_add, List.getElem?_append_left (by simpa [nodeV] using hj)]
  | e :: G, k + 1, j, d, h, hj => by
    have := flatG_at G k j d (by simpa using h) hj
    rw [flatG, List.flatMap_cons, ← flatG, List.getElem?_append_right (by simp [nodeV]; omega), ← this]
    congr 1
    simp [nodeV]
    omega
theorem open_nodes {H : Type} {enc : TypeId × Value → H} {w : World} {base : Nat} {held : Bool} {fuel : Nat} {cs : List Value} {x : DataW H × List MemPlace}
    (h : DataW.trod enc Try.prog w base (fun _ => true) held fuel 22 cs = some x) : ∃ A c G, cs = [.slice A (List.length G) c] ∧ GAt w A G := by
  rcases open_slice Try.underlying22 h with ⟨hcs, hx⟩ | ⟨a, len, cap, mm, n, D, Pl, hcs, hb, hl', hm, hmm, hx, hi⟩
  · exact ⟨none, 0, [], hcs, .inl rfl, by simp⟩
  · have each : ∀ i, i < len → ∃ p : Nd, (p.ps.length ≤ p.c ∧ Lies w p.A (zC p.ps)) ∧ ∀ j, j < 2 → w.cell? (a.add (i * 2 + j)) = (nodeV p)[j]? := by
      intro i hil
      obtain ⟨cs', hc, ht'⟩ := hi i (by have : mm = cap := by simpa using hmm
                                        omega)
      rw [cells_node] at hc
      obtain ⟨p, hp, hok⟩ := open_node ht'
      obtain ⟨_, hcl, hat⟩ := World.cells?_some hc
      refine ⟨p, hok, fun j hj => ?_⟩
      have := hat j (by omega)
      rw [add_add] at this
      rw [← hp]
      exact this
    obtain ⟨f, hfd⟩ := choose_lt each
    have hll : ((List.range len).map f).length = len := by simp
    refine ⟨some a, cap, (List.range len).map f, by rw [hll]; exact hcs, ?_, fun p hp => ?_⟩
    · rcases Nat.eq_zero_or_pos len with h0 | h0
      · subst h0
        exact .inl rfl
      · have hc0 := (hfd 0 h0).2 0 (by omega)
        obtain ⟨b', o, sp⟩ := a
        have hsp : sp = none := by
          have e : (nodeV (f 0))[0]? = some (.slice (f 0).A (f 0).ps.length (f 0).c) := rfl
          rw [e] at hc0
          simpa [Addr.add] using World.cell?_spot hc0
        subst hsp
        refine .inr ⟨b', o, rfl, fun j u hu => ?_⟩
        have hj : j < len * 2 := by
          have := (List.getElem?_eq_some_iff.1 hu).1
          rwa [flat_lenJ, hll] at this
        have hjm : j = j / 2 * 2 + j % 2 := by omega
        have hjd : j / 2 < len := by omega
        have hg := flatG_at ((List.range len).map f) (j / 2) (j % 2) (f (j / 2)) (by rw [List.getElem?_map, List.getElem?_range hjd]; rfl) (by omega)
        rw [← hjm] at hg
        rw [hg] at hu
        have := (hfd (j / 2) hjd).2 (j % 2) (by omega)
        rw [add_off, ← hjm, hu] at this
        exact this
    · obtain ⟨i, hi', rfl⟩ := List.mem_map.1 hp
      exact (hfd i (by simpa using hi')).1
end Go.Proofs.Ytpaigmmpihcdaaa

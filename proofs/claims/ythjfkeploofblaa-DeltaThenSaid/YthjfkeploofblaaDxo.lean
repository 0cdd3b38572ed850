/- What is proved: how an argument that is a script, or bytes, is opened. Conditions: none. -/
import Derived.Test.YthjfkeploofblaaDea
import Derived.Test.YthjfkeploofblaaDeb
import Derived.Test.YthjfkeploofblaaDg
import Derived.ProofKit
import Derived.OpenShut
import Derived.ShutString
import Derived.ChangeOld
import Derived.SizedLaws
import Derived.Deep.Slices
import Derived.Deep.Fields
import Derived.ChangeMaps5
namespace Go.Proofs.Ythjfkeploofblaa
open Go.ChangeShapes Go.WideShapes Go.ChangeAt Go.RowKit Go.Deep
set_option linter.unusedVariables false

theorem own_knob : ownKnob Try.prog.godebug = none := by kernel_rfl
theorem laidOut : laidOutB Try.prog = true := by kernel_rfl
theorem cells_u8 : Try.prog.cellsOf 5 = 1 := by kernel_rfl
theorem cells_int : Try.prog.cellsOf 3 = 1 := by kernel_rfl
theorem cells_bool : Try.prog.cellsOf 4 = 1 := by kernel_rfl
theorem cells_bytes : Try.prog.cellsOf 26 = 1 := by kernel_rfl
theorem cells_ops : Try.prog.cellsOf 22 = 1 := by kernel_rfl
theorem cells_op : Try.prog.cellsOf 57 = 4 := by kernel_rfl
theorem cells_scr : Try.prog.cellsOf 24 = 3 := by kernel_rfl
theorem take_one {cs : List Value} {i : Nat} (h : i < cs.length) : (cs.drop i).take 1 = [cs[i]] := by
  rw [List.drop_eq_getElem_cons h]
  rfl
theorem okWide_agg {P : Program} {w : World} {r : Reach} {base : Nat} {t : TypeId} {v : Value} (ht : (∃ n e, P.underlying t = some (.array n e)) ∨ ∃ fs, P.underlying t = some (.struct fs)) (h : Value.okWide P w r base t v) : ∃ cs, v = .agg cs ∧ cs.size = P.cellsOf t := by
  rcases ht with ⟨n, e, ht⟩ | ⟨fs, ht⟩
  · simp only [Value.okWide, ht] at h
    obtain ⟨cs, h1, h2, _⟩ := h
    exact ⟨cs, h1, h2⟩
  · simp only [Value.okWide, ht] at h
    obtain ⟨cs, h1, h2, _⟩ := h
    exact ⟨cs, h1, h2⟩
/-- As open_bytes; how many there may be is a length. -/
theorem open_bytesC {H : Type} {enc : TypeId × Value → H} {P : Program} {w : World} {base : Nat} {held : Bool} {t e : TypeId} {fuel : Nat} {cs : List Value} {x : DataW H × List MemPlace}
    (ht : P.underlying t = some (.slice e)) (he : P.underlying e = some (.int .u8)) (hc : P.cellsOf e = 1) (h : DataW.trod enc P w base (fun _ => true) held fuel t cs = some x) :
    ∃ A cap bs, cs = [.slice A bs.length cap] ∧ bs.length ≤ cap ∧ cap ≤ 9223372036854775807 ∧ Lies w A (bytesV bs) := by
  obtain ⟨A, cap, bs, h1, h2, h3, _⟩ := open_bytes ht he hc h
  refine ⟨A, cap, bs, h1, h2, ?_, h3⟩
  rcases open_ints ht he hc h with ⟨hcs, hx⟩ | ⟨a, len, cap', zs, hcs, _, hl, hm, hz, hx, hcell, hwf⟩
  · rw [hcs] at h1
    simp at h1
    omega
  · rw [hcs] at h1
    simp only [List.cons.injEq, Value.slice.injEq, and_true] at h1
    rw [← h1.2.2]
    exact hm

theorem list4 {cs : List Value} (hl : cs.length = 4) {a b c d : Value} (h0 : cs[0]'(by omega) = a) (h1 : cs[1]'(by omega) = b) (h2 : cs[2]'(by omega) = c) (h3 : cs[3]'(by omega) = d) : cs = [a, b, c, d] := by
  match cs, hl with
  | [a0, a1, a2, a3], _ =>
    simp at h0 h1 h2 h3
    rw [h0, h1, h2, h3]
theorem list3 {cs : List Value} (hl : cs.length = 3) {a b c : Value} (h0 : cs[0]'(by omega) = a) (h1 : cs[1]'(by omega) = b) (h2 : cs[2]'(by omega) = c) : cs = [a, b, c] := by
  match cs, hl with
  | [a0, a1, a2], _ =>
    simp at h0 h1 h2
    rw [h0, h1, h2]
instance : Inhabited POp := ⟨⟨default, none, 0⟩⟩
theorem one_inj {a b : Value} (h : [a] = [b]) : a = b := by injection h
theorem open_op {H : Type} {enc : TypeId × Value → H} {w : World} {base : Nat} {held : Bool} {fuel : Nat} {cs : List Value} {x : DataW H × List MemPlace}
    (h : DataW.trod enc Try.prog w base (fun _ => true) held fuel 57 cs = some x) : ∃ p : POp, cs = p.cells ∧ p.Ok w := by
  obtain ⟨xs, m, rfl, _, hl, hxl, hel⟩ := DataW.trod_struct Try.underlying57 h
  rw [cells_op] at hl
  have hxl2 : xs.length = 4 := hxl
  have h0 : DataW.trod enc Try.prog w base (fun _ => true) held m 4 ((cs.drop 0).take (Try.prog.cellsOf 4)) = xs[0]? := hel 0 _ rfl
  have h1 : DataW.trod enc Try.prog w base (fun _ => true) held m 3 ((cs.drop 1).take (Try.prog.cellsOf 3)) = xs[1]? := hel 1 _ rfl
  have h2 : DataW.trod enc Try.prog w base (fun _ => true) held m 3 ((cs.drop 2).take (Try.prog.cellsOf 3)) = xs[2]? := hel 2 _ rfl
  have h3 : DataW.trod enc Try.prog w base (fun _ => true) held m 26 ((cs.drop 3).take (Try.prog.cellsOf 26)) = xs[3]? := hel 3 _ rfl
  rw [cells_bool, take_one (by omega), List.getElem?_eq_getElem (by omega)] at h0
  rw [cells_int, take_one (by omega), List.getElem?_eq_getElem (by omega)] at h1 h2
  rw [cells_bytes, take_one (by omega), List.getElem?_eq_getElem (by omega)] at h3
  obtain ⟨cp, e0, _⟩ := DataW.trod_bool Try.underlying4 h0
  obtain ⟨f, e1, _, w1⟩ := DataW.trod_int Try.underlying3 h1
  obtain ⟨n, e2, _, w2⟩ := DataW.trod_int Try.underlying3 h2
  obtain ⟨B, c, bs, e3, k1, k2, k3⟩ := open_bytesC Try.underlying26 Try.underlying5 cells_u8 h3
  have r1 : -9223372036854775808 ≤ f ∧ f ≤ 9223372036854775807 := by simpa [Lit.wf, IntKind.min, IntKind.max, IntKind.signed, IntKind.bits] using w1
  have r2 : -9223372036854775808 ≤ n ∧ n ≤ 9223372036854775807 := by simpa [Lit.wf, IntKind.min, IntKind.max, IntKind.signed, IntKind.bits] using w2
  refine ⟨⟨⟨cp, f, n, bs⟩, B, c⟩, ?_, ⟨r1, r2, k1, k2, k3⟩⟩
  exact list4 hl (one_inj e0) (one_inj e1) (one_inj e2) (one_inj e3)

theorem open_script {H : Type} {enc : TypeId × Value → H} {w : World} {base : Nat} {held : Bool} {fuel : Nat} {cs : List Value} {x : DataW H × List MemPlace}
    (h : DataW.trod enc Try.prog w base (fun _ => true) held fuel 24 cs = some x) : ∃ b t A c ps, cs = [.int .i64 b, .int .i64 t, .slice A ps.length c] ∧ I64 b ∧ I64 t ∧ Scr w A c ps := by
  obtain ⟨xs, m, rfl, _, hl, hxl, hel⟩ := DataW.trod_struct Try.underlying24 h
  rw [cells_scr] at hl
  have hxl2 : xs.length = 3 := hxl
  have h0 : DataW.trod enc Try.prog w base (fun _ => true) held m 3 ((cs.drop 0).take (Try.prog.cellsOf 3)) = xs[0]? := hel 0 _ rfl
  have h1 : DataW.trod enc Try.prog w base (fun _ => true) held m 3 ((cs.drop 1).take (Try.prog.cellsOf 3)) = xs[1]? := hel 1 _ rfl
  have h2 : DataW.trod enc Try.prog w base (fun _ => true) held m 22 ((cs.drop 2).take (Try.prog.cellsOf 22)) = xs[2]? := hel 2 _ rfl
  rw [cells_int, take_one (by omega), List.getElem?_eq_getElem (by omega)] at h0 h1
  rw [cells_ops, take_one (by omega), List.getElem?_eq_getElem (by omega)] at h2
  obtain ⟨b, e0, _, w0⟩ := DataW.trod_int Try.underlying3 h0
  obtain ⟨t, e1, _, w1⟩ := DataW.trod_int Try.underlying3 h1
  have r0 : -9223372036854775808 ≤ b ∧ b ≤ 9223372036854775807 := by simpa [Lit.wf, IntKind.min, IntKind.max, IntKind.signed, IntKind.bits] using w0
  have r1 : -9223372036854775808 ≤ t ∧ t ≤ 9223372036854775807 := by simpa [Lit.wf, IntKind.min, IntKind.max, IntKind.signed, IntKind.bits] using w1
  have fin : ∀ {A : Option Addr} {n c : Nat} {ps : List POp}, [cs[2]'(by omega)] = [.slice A n c] → ps.length = n → Scr w A c ps → ∃ b t A c ps, cs = [.int .i64 b, .int .i64 t, .slice A ps.length c] ∧ I64 b ∧ I64 t ∧ Scr w A c ps := by
    intro A n c ps e2 hn hs
    refine ⟨b, t, A, c, ps, ?_, r0, r1, hs⟩
    rw [hn]
    exact list3 hl (one_inj e0) (one_inj e1) (one_inj e2)
  rcases open_slice Try.underlying22 h2 with ⟨hcs, hx⟩ | ⟨a, len, cap, mm, n, D, Pl, hcs, hb, hl', hm, hmm, hx, hi⟩
  · exact fin (ps := []) hcs rfl ⟨.inl rfl, by simp, Nat.zero_le _, Nat.zero_le _⟩
  · have hmc : mm = cap := by simpa using hmm
    have each : ∀ i, i < len → ∃ p : POp, p.Ok w ∧ ∀ j, j < 4 → w.cell? (a.add (i * 4 + j)) = p.cells[j]? := by
      intro i hil
      obtain ⟨cs', hc, ht'⟩ := hi i (by omega)
      rw [cells_op] at hc
      obtain ⟨p, hp, hok⟩ := open_op ht'
      obtain ⟨_, hcl, hat⟩ := World.cells?_some hc
      refine ⟨p, hok, fun j hj => ?_⟩
      have := hat j (by omega)
      rw [add_add] at this
      rw [← hp]
      exact this
    obtain ⟨f, hfd⟩ := choose_lt each
    have hll : ((List.range len).map f).length = len := by simp
    refine fin (ps := (List.range len).map f) hcs hll ⟨?_, fun p hp => ?_, by rw [hll]; exact hl', by subst hmc; exact hm⟩
    · rcases Nat.eq_zero_or_pos len with h0 | h0
      · subst h0
        exact .inl rfl
      · have hc0 := (hfd 0 h0).2 0 (by omega)
        obtain ⟨b', o, sp⟩ := a
        have hsp : sp = none := by
          have e : ((f 0).cells)[0]? = some (.bool (f 0).o.copy) := rfl
          rw [e] at hc0
          simpa [Addr.add] using World.cell?_spot hc0
        subst hsp
        refine .inr ⟨b', o, rfl, fun j u hu => ?_⟩
        have hj : j < len * 4 := by
          have := (List.getElem?_eq_some_iff.1 hu).1
          rwa [flatP_len, hll] at this
        have hjm : j = j / 4 * 4 + j % 4 := by omega
        have hjd : j / 4 < len := by omega
        have hg := flatP_get ((List.range len).map f) (j / 4) (j % 4) (f (j / 4)) (by rw [List.getElem?_map, List.getElem?_range hjd]; rfl) (by omega)
        rw [← hjm] at hg
        rw [hg] at hu
        have := (hfd (j / 4) hjd).2 (j % 4) (by omega)
        rw [add_off, ← hjm, hu] at this
        exact this
    · obtain ⟨i, hi', rfl⟩ := List.mem_map.1 hp
      exact (hfd i (by simpa using hi')).1
end Go.Proofs.Ythjfkeploofblaa

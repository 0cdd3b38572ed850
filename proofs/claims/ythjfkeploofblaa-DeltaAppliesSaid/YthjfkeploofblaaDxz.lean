/- What is proved: how an argument that is a script is opened, with how long its rows of bytes are at most. Conditions: what the row asks of sizes. -/
import Derived.Test.YthjfkeploofblaaDxo
namespace Go.Proofs.Ythjfkeploofblaa
open Go.ChangeShapes Go.WideShapes Go.ChangeAt Go.RowKit Go.Deep
set_option linter.unusedVariables false

theorem wts_all {H : Type} {P : Program} {e : TypeId} : ∀ {l : List (DataW H)} {d : DataW H}, d ∈ l → ∀ n ∈ d.weights P e, n ∈ DataW.weightsAll P e l
  | [], _, hd, _, _ => by cases hd
  | d0 :: l, d, hd, n, hn => by
    simp only [DataW.weightsAll, List.mem_append]
    rcases List.mem_cons.1 hd with rfl | h
    · exact .inl hn
    · exact .inr (wts_all h n hn)
theorem wts_each {H : Type} {P : Program} {d : DataW H} {t : TypeId} : ∀ {ts : List TypeId} {l : List (DataW H)} {j : Nat}, ts[j]? = some t → l[j]? = some d → ∀ n ∈ d.weights P t, n ∈ DataW.weightsEach P ts l
  | [], _, _, h, _, _, _ => by simp at h
  | _ :: _, [], _, _, h, _, _ => by simp at h
  | t0 :: ts, d0 :: l, 0, ht, hd, n, hn => by
    simp at ht hd
    subst ht; subst hd
    simp only [DataW.weightsEach, List.mem_append]
    exact .inl hn
  | t0 :: ts, d0 :: l, j + 1, ht, hd, n, hn => by
    simp only [DataW.weightsEach, List.mem_append]
    exact .inr (wts_each (j := j) (by simpa using ht) (by simpa using hd) n hn)

theorem open_opZ {H : Type} {enc : TypeId × Value → H} {w : World} {base : Nat} {held : Bool} {fuel : Nat} {cs : List Value} {x : DataW H × List MemPlace}
    (h : DataW.trod enc Try.prog w base (fun _ => true) held fuel 57 cs = some x) (hz : ∀ n ∈ x.1.weights Try.prog 57, n ≤ reachBytes) : ∃ p : POp, cs = p.cells ∧ p.Ok w ∧ p.o.b.length ≤ 140737488351232 := by
  obtain ⟨xs, m, rfl, hy, hl, hxl, hel⟩ := DataW.trod_struct Try.underlying57 h
  rw [cells_op] at hl
  have hxl2 : xs.length = 4 := hxl
  have h0 : DataW.trod enc Try.prog w base (fun _ => true) held m 4 ((cs.drop 0).take (Try.prog.cellsOf 4)) = xs[0]? := hel 0 _ rfl
  have h1 : DataW.trod enc Try.prog w base (fun _ => true) held m 3 ((cs.drop 1).take (Try.prog.cellsOf 3)) = xs[1]? := hel 1 _ rfl
  have h2 : DataW.trod enc Try.prog w base (fun _ => true) held m 3 ((cs.drop 2).take (Try.prog.cellsOf 3)) = xs[2]? := hel 2 _ rfl
  have h3 : DataW.trod enc Try.prog w base (fun _ => true) held m 26 ((cs.drop 3).take (Try.prog.cellsOf 26)) = xs[3]? := hel 3 _ rfl
  rw [cells_bool, take_one (by omega), List.getElem?_eq_getElem (by omega)] at h0
  rw [cells_int, take_one (by omega), List.getElem?_eq_getElem (by omega)] at h1 h2
  rw [cells_bytes, take_one (by omega), List.getElem?_eq_getElem (by omega)] at h3
  match xs, hxl2 with
  | [y0, y1, y2, y3], _ =>
  obtain ⟨cp, e0, _⟩ := DataW.trod_bool Try.underlying4 h0
  obtain ⟨f, e1, _, w1⟩ := DataW.trod_int Try.underlying3 h1
  obtain ⟨n, e2, _, w2⟩ := DataW.trod_int Try.underlying3 h2
  obtain ⟨B, c, bs, e3, k1, k2, k3⟩ := open_bytesC Try.underlying26 Try.underlying5 cells_u8 h3
  have r1 : -9223372036854775808 ≤ f ∧ f ≤ 9223372036854775807 := by simpa [Lit.wf, IntKind.min, IntKind.max, IntKind.signed, IntKind.bits] using w1
  have r2 : -9223372036854775808 ≤ n ∧ n ≤ 9223372036854775807 := by simpa [Lit.wf, IntKind.min, IntKind.max, IntKind.signed, IntKind.bits] using w2
  have hsz : bs.length ≤ reachBytes := by
    obtain ⟨B', c', bs', e3', k1', k3', hk⟩ := open_bytes Try.underlying26 Try.underlying5 cells_u8 h3
    have hbl : bs'.length = bs.length := by
      have := e3'.symm.trans e3
      simp only [List.cons.injEq, Value.slice.injEq, and_true] at this
      exact this.2.1
    rcases hk with ⟨_, h0⟩ | ⟨el, sp, hx, hl⟩
    · omega
    · have : (el.length + sp.length) * Try.prog.bytesOf 5 ≤ reachBytes := by
        refine hz _ ?_
        rw [hy]
        simp only [List.map_cons, List.map_nil, DataW.weights, Try.underlying57]
        refine wts_each (j := 3) (t := 26) (d := y3.1) rfl rfl _ ?_
        rw [show y3.1 = _ from hx]
        simp only [DataW.weights, Try.underlying26, List.mem_cons, true_or]
      rw [show Try.prog.bytesOf 5 = 1 by kernel_rfl] at this
      omega
  refine ⟨⟨⟨cp, f, n, bs⟩, B, c⟩, ?_, ⟨r1, r2, k1, k2, k3⟩, by unfold reachBytes at hsz; exact hsz⟩
  exact list4 hl (one_inj e0) (one_inj e1) (one_inj e2) (one_inj e3)

theorem open_scriptZ {H : Type} {enc : TypeId × Value → H} {w : World} {base : Nat} {held : Bool} {fuel : Nat} {cs : List Value} {x : DataW H × List MemPlace}
    (h : DataW.trod enc Try.prog w base (fun _ => true) held fuel 24 cs = some x) (hz : ∀ n ∈ x.1.weights Try.prog 24, n ≤ reachBytes) : ∃ b t A c ps, cs = [.int .i64 b, .int .i64 t, .slice A ps.length c] ∧ I64 b ∧ I64 t ∧ Scr w A c ps ∧ ∀ p ∈ ps, p.o.b.length ≤ 140737488351232 := by
  obtain ⟨xs, m, rfl, hy, hl, hxl, hel⟩ := DataW.trod_struct Try.underlying24 h
  rw [cells_scr] at hl
  have hxl2 : xs.length = 3 := hxl
  have h0 : DataW.trod enc Try.prog w base (fun _ => true) held m 3 ((cs.drop 0).take (Try.prog.cellsOf 3)) = xs[0]? := hel 0 _ rfl
  have h1 : DataW.trod enc Try.prog w base (fun _ => true) held m 3 ((cs.drop 1).take (Try.prog.cellsOf 3)) = xs[1]? := hel 1 _ rfl
  have h2 : DataW.trod enc Try.prog w base (fun _ => true) held m 22 ((cs.drop 2).take (Try.prog.cellsOf 22)) = xs[2]? := hel 2 _ rfl
  rw [cells_int, take_one (by omega), List.getElem?_eq_getElem (by omega)] at h0 h1
  rw [cells_ops, take_one (by omega), List.getElem?_eq_getElem (by omega)] at h2
  match xs, hxl2 with
  | [y0, y1, y2], _ =>
  have hz2 : ∀ n ∈ y2.1.weights Try.prog 22, n ≤ reachBytes := fun n hn => hz n (by
    rw [hy]
    simp only [List.map_cons, List.map_nil, DataW.weights, Try.underlying24]
    exact wts_each (j := 2) (t := 22) (d := y2.1) rfl rfl n hn)
  obtain ⟨b, e0, _, w0⟩ := DataW.trod_int Try.underlying3 h0
  obtain ⟨t, e1, _, w1⟩ := DataW.trod_int Try.underlying3 h1
  have r0 : -9223372036854775808 ≤ b ∧ b ≤ 9223372036854775807 := by simpa [Lit.wf, IntKind.min, IntKind.max, IntKind.signed, IntKind.bits] using w0
  have r1 : -9223372036854775808 ≤ t ∧ t ≤ 9223372036854775807 := by simpa [Lit.wf, IntKind.min, IntKind.max, IntKind.signed, IntKind.bits] using w1
  have fin : ∀ {A : Option Addr} {n c : Nat} {ps : List POp}, [cs[2]'(by omega)] = [.slice A n c] → ps.length = n → Scr w A c ps → (∀ p ∈ ps, p.o.b.length ≤ 140737488351232) → ∃ b t A c ps, cs = [.int .i64 b, .int .i64 t, .slice A ps.length c] ∧ I64 b ∧ I64 t ∧ Scr w A c ps ∧ ∀ p ∈ ps, p.o.b.length ≤ 140737488351232 := by
    intro A n c ps e2 hn hs hq
    refine ⟨b, t, A, c, ps, ?_, r0, r1, hs, hq⟩
    rw [hn]
    exact list3 hl (one_inj e0) (one_inj e1) (one_inj e2)
  rcases open_slice Try.underlying22 h2 with ⟨hcs, hx⟩ | ⟨a, len, cap, mm, n, D, Pl, hcs, hb, hl', hm, hmm, hx, hi⟩
  · exact fin (ps := []) hcs rfl ⟨.inl rfl, by simp, Nat.zero_le _, Nat.zero_le _⟩ (by simp)
  · have hmc : mm = cap := by simpa using hmm
    have each : ∀ i, i < len → ∃ p : POp, (p.Ok w ∧ p.o.b.length ≤ 140737488351232) ∧ ∀ j, j < 4 → w.cell? (a.add (i * 4 + j)) = p.cells[j]? := by
      intro i hil
      obtain ⟨cs', hc, ht'⟩ := hi i (by omega)
      rw [cells_op] at hc
      obtain ⟨p, hp, hok⟩ := open_opZ ht' (fun n hn => hz2 n (by
        rw [show y2 = _ from hx]
        simp only [DataW.weights, Try.underlying22, List.mem_cons, List.mem_append]
        exact .inr (.inl (wts_all (List.mem_map.2 ⟨i, List.mem_range.2 hil, rfl⟩) n hn))))
      obtain ⟨_, hcl, hat⟩ := World.cells?_some hc
      refine ⟨p, hok, fun j hj => ?_⟩
      have := hat j (by omega)
      rw [add_add] at this
      rw [← hp]
      exact this
    obtain ⟨f, hfd⟩ := choose_lt each
    have hll : ((List.range len).map f).length = len := by simp
    refine fin (ps := (List.range len).map f) hcs hll ⟨?_, fun p hp => ?_, by rw [hll]; exact hl', by subst hmc; exact hm⟩ (fun p hp => by obtain ⟨i, hi', rfl⟩ := List.mem_map.1 hp; exact (hfd i (by simpa using hi')).1.2)
    · rcases Nat.eq_zero_or_pos len with h0 | h0
      · subst h0
        exact .inl rfl
      · have hc0 := (hfd 0 h0).2 0 (by omega)
        obtain ⟨b', o, sp⟩ := a
        have hsp : sp = none := by
          have e : ((f 0).cells)[0]? = some (.bool (f 0).o.copy) := rfl
          rw [e] at hc0
          simpa [Addr.add] using World.cell?_spot hc0
        subst hsp
        refine .inr ⟨b', o, rfl, fun j u hu => ?_⟩
        have hj : j < len * 4 := by
          have := (List.getElem?_eq_some_iff.1 hu).1
          rwa [flatP_len, hll] at this
        have hjm : j = j / 4 * 4 + j % 4 := by omega
        have hjd : j / 4 < len := by omega
        have hg := flatP_get ((List.range len).map f) (j / 4) (j % 4) (f (j / 4)) (by rw [List.getElem?_map, List.getElem?_range hjd]; rfl) (by omega)
        rw [← hjm] at hg
        rw [hg] at hu
        have := (hfd (j / 4) hjd).2 (j % 4) (by omega)
        rw [add_off, ← hjm, hu] at this
        exact this
    · obtain ⟨i, hi', rfl⟩ := List.mem_map.1 hp
      exact (hfd i (by simpa using hi')).1.1
end Go.Proofs.Ythjfkeploofblaa

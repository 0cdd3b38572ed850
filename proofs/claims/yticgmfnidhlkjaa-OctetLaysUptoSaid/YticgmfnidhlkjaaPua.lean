/- What is proved: how an argument that is a list of a Writer's calls is opened, and what the bound on its bulk gives. Conditions: none. -/
import Derived.Test.YticgmfnidhlkjaaPut
import Derived.Test.YticgmfnidhlkjaaArg
import Derived.Deep.Slices
import Derived.Deep.Fields
import Derived.JoinedCond
namespace Go.Proofs.Yticgmfnidhlkjaa
open Go.ChangeShapes Go.WideShapes Go.ChangeAt Go.RowKit Go.Deep
set_option linter.unusedVariables false

instance : Inhabited PutD := ⟨⟨0, 0, .empty⟩⟩
def PutD.datum {H : Type} (p : PutD) : DataW H := .agg [.lit (.int .i64 p.d), .lit (.int .u64 p.n), .lit (.string p.s.data.toList)]

theorem one_drop {cs : List Value} {j : Nat} (h : j < cs.length) : (cs.drop j).take 1 = [cs[j]] := by
  rw [List.drop_eq_getElem_cons h]
  rfl

theorem open_puts {H : Type} {enc : TypeId × Value → H} {P : Program} {w : World} {base : Nat} {held : Bool} {t e : TypeId} {f0 f1 f2 : Field} {fuel : Nat} {cs : List Value} {x : DataW H × List MemPlace}
    (ht : P.underlying t = some (.slice e)) (he : P.underlying e = some (.struct #[f0, f1, f2])) (hone : oneCellFields P #[f0, f1, f2] = true) (hC : P.cellsOf e = 3)
    (u0 : P.underlying f0.type = some (.int .i64)) (u1 : P.underlying f1.type = some (.int .u64)) (u2 : P.underlying f2.type = some .string)
    (h : DataW.trod enc P w base (fun _ => true) held fuel t cs = some x) :
    ∃ A cap l, cs = [.slice A l.length cap] ∧ l.length ≤ cap ∧ PLies w A l ∧ (∀ p ∈ l, PutD.ok p) ∧ ((x.1 = .nil ∧ l = []) ∨ ∃ spare, x.1 = .slice (l.map PutD.datum) spare) := by
  rcases open_slice ht h with ⟨hcs, hx⟩ | ⟨a, len, cap, m, n, D, Pl, hcs, hb, hl, hm, hmm, hx, hi⟩
  · exact ⟨none, 0, [], hcs, by simp, .inl rfl, by simp, .inl ⟨by rw [hx], rfl⟩⟩
  · have hmc : m = cap := by simpa using hmm
    have each : ∀ i, i < len → ∃ p : PutD, D i = p.datum ∧ p.ok ∧ w.cell? (a.add (i * 3)) = some (.int .i64 p.d) ∧ w.cell? (a.add (i * 3 + 1)) = some (.int .u64 p.n) ∧ w.cell? (a.add (i * 3 + 2)) = some (.string p.s) := by
      intro i hil
      obtain ⟨cs', hc, ht'⟩ := hi i (by omega)
      rw [hC] at hc
      obtain ⟨ys, n', hn', hy, hlen, hyl, hf⟩ := DataW.trod_struct he ht'
      obtain ⟨_, hcl, hat⟩ := World.cells?_some hc
      simp only [Prod.mk.injEq] at hy
      obtain ⟨o0, k0⟩ := hone_of hone 0 f0 rfl
      obtain ⟨o1, k1⟩ := hone_of hone 1 f1 rfl
      obtain ⟨o2, k2⟩ := hone_of hone 2 f2 rfl
      have g0 := hf 0 f0 rfl
      have g1 := hf 1 f1 rfl
      have g2 := hf 2 f2 rfl
      rw [o0, k0, one_drop (by omega)] at g0
      rw [o1, k1, one_drop (by omega)] at g1
      rw [o2, k2, one_drop (by omega)] at g2
      have hyl3 : ys.length = 3 := hyl
      match ys, hyl3 with
      | [y0, y1, y2], _ =>
        obtain ⟨d, e0, x0, w0⟩ := DataW.trod_int u0 g0
        obtain ⟨nn, e1, x1, w1⟩ := DataW.trod_int u1 g1
        obtain ⟨s, e2, x2, w2⟩ := DataW.trod_string u2 g2
        have a0 := hat 0 (by omega)
        have a1 := hat 1 (by omega)
        have a2 := hat 2 (by omega)
        rw [add_add] at a0 a1 a2
        rw [List.getElem?_eq_getElem (by omega)] at a0 a1 a2
        have r0 : -9223372036854775808 ≤ d ∧ d ≤ 9223372036854775807 := by simpa [Lit.wf, IntKind.min, IntKind.max, IntKind.signed, IntKind.bits] using w0
        have r1 : 0 ≤ nn ∧ nn ≤ 18446744073709551615 := by simpa [Lit.wf, IntKind.min, IntKind.max, IntKind.signed, IntKind.bits] using w1
        refine ⟨⟨d, nn, s⟩, ?_, ⟨r0.1, r0.2, r1.1, by simp only; omega, w2⟩, ?_, ?_, ?_⟩
        · rw [hy.1]
          simp only [List.map_cons, List.map_nil, x0, x1, x2]
          rfl
        · rw [show i * 3 + 0 = i * 3 from rfl] at a0
          rw [a0]; simpa using e0
        · rw [a1]; simpa using e1
        · rw [a2]; simpa using e2
    obtain ⟨f, hfd⟩ := choose_lt each
    have hll : ((List.range len).map f).length = len := by simp
    have hcap : cap ≤ maxLen := hm
    refine ⟨some a, cap, (List.range len).map f, by rw [hll]; exact hcs, by rw [hll]; exact hl, ?_, ?_, .inr ⟨(List.range (m - len)).map fun j => D (len + j), ?_⟩⟩
    · rcases Nat.eq_zero_or_pos len with h0 | h0
      · subst h0
        exact .inl rfl
      · have hc0 := (hfd 0 h0).2.2.1
        obtain ⟨b, o, sp⟩ := a
        have hsp : sp = none := by simpa [Addr.add] using World.cell?_spot hc0
        subst hsp
        refine .inr ⟨b, o, rfl, fun k p hp => ?_⟩
        have hk : k < len := by
          have := (List.getElem?_eq_some_iff.1 hp).1
          rwa [hll] at this
        rw [List.getElem?_map, List.getElem?_range hk] at hp
        simp only [Option.map_some, Option.some.injEq] at hp
        subst hp
        obtain ⟨_, _, q0, q1, q2⟩ := hfd k hk
        rw [add_off] at q0 q1 q2
        exact ⟨q0, by rw [Nat.add_assoc]; exact q1, by rw [Nat.add_assoc]; exact q2⟩
    · intro p hp
      obtain ⟨i, hi', rfl⟩ := List.mem_map.1 hp
      exact (hfd i (by simpa using hi')).2.1
    · rw [hx]
      simp only
      congr 1
      rw [List.map_map]
      apply List.map_congr_left
      intro i hi'
      exact (hfd i (by simpa using hi')).1

theorem bulk_put {H : Type} (p : PutD) : Rows.uptoBulk (p.datum : DataW H) = p.s.size + 4 := by
  have hs : p.s.data.toList.length = p.s.size := by rw [Array.length_toList]; rfl
  unfold PutD.datum
  simp only [Rows.uptoBulk, Rows.uptoBulkAll, hs]
  omega
theorem bulk_puts {H : Type} (l : List PutD) : totB l ≤ 10 * Rows.uptoBulkAll (l.map (PutD.datum (H := H))) ∧ l.length ≤ Rows.uptoBulkAll (l.map (PutD.datum (H := H))) := by
  induction l with
  | nil => simp [totB, Rows.uptoBulkAll]
  | cons p l ih =>
    have hb := bulk_put (H := H) p
    unfold totB at ih ⊢
    rw [List.map_cons, List.sum_cons, List.map_cons, Rows.uptoBulkAll, hb, List.length_cons]
    omega
theorem upto_puts {H : Type} {l : List PutD} {spare : List (DataW H)} (hk : Rows.uptoSmall H [.slice (l.map PutD.datum) spare] = true) : totB l ≤ 100000000 ∧ l.length ≤ 100000000 := by
  have h : Rows.uptoBulkAll [DataW.slice (H := H) (l.map PutD.datum) spare] ≤ 1048576 := of_decide_eq_true hk
  simp only [Rows.uptoBulkAll, Rows.uptoBulk] at h
  have := bulk_puts (H := H) l
  omega
end Go.Proofs.Yticgmfnidhlkjaa

/- What is proved: a script, as the document's, and in memory of its own. Conditions: the ops' cells are there; at most 400 ops. -/
import Derived.Test.YthjfkeploofblaaDec
import Derived.Test.YthjfkeploofblaaDba
import Derived.Test.YthjfkeploofblaaDe
namespace Go.Proofs.Ythjfkeploofblaa
open Go.RowKit
set_option linter.unusedVariables false

def zeroO : Array Value := #[.bool false, .int .i64 0, .int .i64 0, .slice none 0 0]
theorem infoQO : (Try.prog.info? 66).map (fun i => (i.zero, i.size, i.bytes)) = some (some (.agg zeroO), 4, 48) := by kernel_rfl
theorem infoDO : (Try.prog.info? 57).map (fun i => (i.zero, i.size, i.bytes)) = some (some (.agg zeroO), 4, 48) := by kernel_rfl
theorem src_op (w : World) (t e : TypeId) (ht : Try.prog.underlying t = some (.slice e)) (p : POp) : Src Try.prog 4 t (.slice (some ⟨w.heap.size, 0, none⟩) 1 1) 1 p.cells (w.alloc (.cells #[.bool p.o.copy, .int .i64 p.o.frm, .int .i64 p.o.n, .slice p.B p.o.b.length p.c] e)) :=
  Src.ofSlice _ ht ⟨w.heap.size, 0, none⟩ 1 1 p.cells rfl (fun j u hu => by
    rw [add_off, Nat.zero_add, (Whole.new w e _).cell, ← Array.getElem?_toList]; exact hu) p.one
/-- A row of ops of the call's own. -/
def OwnP (t : TypeId) (w0 w : World) (v : Value) (ps : List POp) : Prop := w.ownsRow w0.heap.size t 4 v ps.length (flatP ps)
theorem OwnP.scr {t : TypeId} {w0 w : World} {v : Value} {ps : List POp} (h : OwnP t w0 w v ps) (hok : ∀ p ∈ ps, p.Ok w) : ∃ A c, v = .slice A ps.length c ∧ Scr w A c ps ∧ ∀ ad, A = some ad → w0.heap.size ≤ ad.block := by
  obtain ⟨A, c, hv, h1, h2⟩ := own_slice h
  subst hv
  refine ⟨A, c, rfl, ⟨?_, hok, h1, h2⟩, ?_⟩
  · rcases own_shape h with ⟨hv, h0, hx⟩ | ⟨g, cap, hv, _, _, hg⟩
    · exact .inl hx
    · injection hv with e1 e2 e3
      subst e1; subst e3
      refine .inr ⟨g, 0, rfl, fun j u hu => ?_⟩
      have hj : j < ps.length * 4 := by
        have := (List.getElem?_eq_some_iff.1 hu).1
        rwa [flatP_len] at this
      rw [Nat.zero_add, World.ownsRow.cellAt h j hj]
      exact hu
  · intro ad hA
    subst hA
    rcases own_shape h with ⟨hv, h0, hx⟩ | ⟨g, cap, hv, _, _, hg⟩
    · cases hv
    · injection hv with e1 e2 e3
      injection e1 with e1
      subst e1
      exact hg
theorem take_flat {ps : List POp} {k : Nat} {p : POp} (hp : ps[k]? = some p) : flatP (ps.take (k + 1)) = flatP (ps.take k) ++ p.cells := by
  obtain ⟨hk, rfl⟩ := List.getElem?_eq_some_iff.1 hp
  rw [List.take_succ_eq_append_getElem hk, flatP_append, flatP_one]

/-- What a script as an answer is. -/
def ScrPost (w : World) (b t : Int) (ps : List POp) (e : Ending) (w' : World) : Prop := ∃ A c, e = .returned (.agg #[.int .i64 b, .int .i64 t, .slice A ps.length c]) ∧ Scr w' A c ps ∧ Below w.heap.size w w'

set_option maxHeartbeats 3200000 in
set_option maxRecDepth 100000 in
theorem plain9_any (b t : Int) (A : Option Addr) (c : Nat) (ps : List POp) (hl : ps.length ≤ 400) (w : World) (h : Scr w A c ps) :
    Calls Try.prog 12 #[.agg #[.int .i64 b, .int .i64 t, .slice A ps.length c]] w (ScrPost w b t ps) := by
  unfold ScrPost
  obtain ⟨L, hL⟩ : ∃ L, ps.length = L := ⟨_, rfl⟩
  have HL := Lib.hid hL
  have hLc : L ≤ 400 := by omega
  rw [hL]
  obtain ⟨w1, hw1⟩ : ∃ w1, w.alloc (.cells #[.int .i64 b, .int .i64 t, .slice A L c] 24) = w1 := ⟨_, rfl⟩
  obtain ⟨w2, hw2⟩ : ∃ w2, w1.alloc (.cells #[.int .i64 0, .int .i64 0, .slice none 0 0] 34) = w2 := ⟨_, rfl⟩
  obtain ⟨w3, hw3⟩ : ∃ w3, w2.alloc (.cells #[.int .i64 b, .int .i64 t, .slice none 0 0] 34) = w3 := ⟨_, rfl⟩
  have F1 : Fr (fun _ => False) w w1 := by subst hw1; exact (Fr.refl _ _).alloc _
  have F2 : Fr (fun _ => False) w1 w2 := by subst hw2; exact (Fr.refl _ _).alloc _
  have F3 : Fr (fun _ => False) w2 w3 := by subst hw3; exact (Fr.refl _ _).alloc _
  have hs1 : w1.heap.size = w.heap.size + 1 := by subst hw1; simp
  have hs2 : w2.heap.size = w1.heap.size + 1 := by subst hw2; simp
  have hs3 : w3.heap.size = w2.heap.size + 1 := by subst hw3; simp
  have S1 : SAt w1 w.heap.size 24 b t (.slice A L c) := by subst hw1; exact SAt.new w 24 b t _
  have W3 : Whole w3 w2.heap.size 34 #[.int .i64 b, .int .i64 t, .slice none 0 0] := by subst hw3; exact Whole.new _ _ _
  have W2 : Whole w3 w1.heap.size 34 #[.int .i64 0, .int .i64 0, .slice none 0 0] := Whole.fr (by subst hw2; exact Whole.new _ _ _) F3 (fun e => e)
  have F03 : Fr (fun _ => False) w w3 := (F1.trans F2 (fun _ _ e => e)).trans F3 (fun _ _ e => e)
  have S3 : SAt w3 w.heap.size 24 b t (.slice A L c) := (S1.fr F2).fr F3
  obtain ⟨a0, a1, a2⟩ := (S1.fr F2).cells
  have HS3 := Lib.hid S3
  have HW2 := Lib.hid W2
  have HF03 := Lib.hid F03
  have HSc := Lib.hid h
  have HSc3 := Lib.hid (h.fr F03)
  have HS123 := Lib.hid (show w.heap.size < w2.heap.size ∧ w1.heap.size < w2.heap.size ∧ w2.heap.size < w3.heap.size ∧ w.heap.size < w1.heap.size from ⟨by omega, by omega, by omega, by omega⟩)
  obtain ⟨i0, hi, hz0, hz1, hz2⟩ := info_parts infoQO
  clear F1 F2 F3 hs1 hs2 hs3 S1 S3 F03 h hL W2
  have HH3 := Lib.hid hw3
  clear hw3
  go_enter Try.func12, Try.ntmps12
  go_wp2_with fail
  rw [HH3.out]
  go_loopw [4] (fun i wr => ∃ (k : Nat) (v : Value), k ≤ L ∧ i = .int .i64 k ∧ Hid (Whole wr w2.heap.size 34 #[.int .i64 b, .int .i64 t, v]) ∧ Hid (OwnP 66 w3 wr v (ps.take k)) ∧ Hid (Fr (fun k => k = w2.heap.size) w3 wr)) (fun i _ => L - (intOf i).toNat)
  case atStart => exact ⟨0, .slice none 0 0, by omega, rfl, Lib.hid W3, Lib.hid (World.ownsRow_nil _ _ _ _), Lib.hid (Fr.refl _ _)⟩
  case round =>
    obtain ⟨k, v, hk, rfl, HW, HO, HF⟩ := hrel
    have hk1 : (0 : Int) ≤ k := by omega
    have hS : SAt wr w.heap.size 24 b t (.slice A L c) := ⟨HS3.out.whole.fr HF.out (fun e => by have := HS123.out; omega)⟩
    have HSr := Lib.hid hS
    obtain ⟨s0, s1, s2⟩ := hS.cells
    clear hS
    by_cases hlt : k < L
    · have hk2 : (k : Int) < L := by omega
      obtain ⟨p, hp⟩ : ∃ p, ps[k]? = some p := ⟨ps[k]'(by rw [HL.out]; exact hlt), List.getElem?_eq_getElem (by rw [HL.out]; exact hlt)⟩
      obtain ⟨ab, ao, rfl⟩ := HSc.out.addr (k := k) (by rw [HL.out]; exact hlt)
      have hab : ab < w.heap.size := World.block_lt_of_cell? _ _ (HSc.out.cells hp).1
      have tr : ∀ {j : Nat} {u : Value}, w.cell? ⟨ab, j, none⟩ = some u → wr.cell? ⟨ab, j, none⟩ = some u := fun hc => HF.out.cell (HF03.out.cell hc (fun e => e)) (fun e => by have := HS123.out; simp at e; omega)
      have d0 := tr (HSc.out.cells hp).1
      have d1 := tr (HSc.out.cells hp).2.1
      have d2 := tr (HSc.out.cells hp).2.2.1
      have d3 := tr (HSc.out.cells hp).2.2.2
      have HT := Lib.hid (take_flat hp)
      have hpl : (ps.take k).length = k := by rw [List.length_take, HL.out]; omega
      have HPL := Lib.hid (show (ps.take (k + 1)).length = k + 1 by rw [List.length_take, HL.out]; omega)
      have HO2 : Hid (wr.ownsRow w3.heap.size 66 4 v k (flatP (ps.take k))) := Lib.hid (by have := HO.out; unfold OwnP at this; rwa [hpl] at this)
      clear tr hp hpl HO
      obtain ⟨⟨cp, f, n, bs⟩, B, pc⟩ := p
      obtain ⟨BL, hBL⟩ : ∃ BL, bs.length = BL := ⟨_, rfl⟩
      have HBL := Lib.hid hBL
      simp only [hBL] at d0 d1 d2 d3
      clear hBL
      obtain ⟨w4, hw4⟩ : ∃ w4, wr.alloc (.cells #[.bool cp, .int .i64 f, .int .i64 n, .slice B BL pc] 57) = w4 := ⟨_, rfl⟩
      have HF4 := Lib.hid (show Fr (fun _ => False) wr w4 by subst hw4; exact (Fr.refl _ _).alloc _)
      have W4 : Whole w4 wr.heap.size 57 #[.bool cp, .int .i64 f, .int .i64 n, .slice B BL pc] := by subst hw4; exact Whole.new _ _ _
      have f0 : w4.cell? ⟨wr.heap.size, 0, none⟩ = some (.bool cp) := by rw [W4.cell]; rfl
      have f1 : w4.cell? ⟨wr.heap.size, 1, none⟩ = some (.int .i64 f) := by rw [W4.cell]; rfl
      have f2 : w4.cell? ⟨wr.heap.size, 2, none⟩ = some (.int .i64 n) := by rw [W4.cell]; rfl
      have f3 : w4.cell? ⟨wr.heap.size, 3, none⟩ = some (.slice B BL pc) := by rw [W4.cell]; rfl
      have HW4 := Lib.hid (HW.out.fr HF4.out (fun e => e))
      have g2 : w4.cell? ⟨w2.heap.size, 2, none⟩ = some v := by rw [HW4.out.cell]; rfl
      have HO4 := Lib.hid (own_fr HO2.out HF4.out (fun _ _ e => e))
      have HLg := Lib.hid (show w3.heap.size ≤ wr.heap.size from HF.out.size)
      have HLg4 := Lib.hid (show wr.heap.size ≤ w4.heap.size from HF4.out.size)
      obtain ⟨Av, cv, hv, -, -⟩ := own_slice HO2.out
      subst hv
      obtain ⟨xs, hxs⟩ : ∃ xs, flatP (ps.take k) = xs := ⟨_, rfl⟩
      rw [hxs] at HO4 HT
      have HSrc : Hid (∀ w : World, Src Try.prog 4 32 (.slice (some ⟨w.heap.size, 0, none⟩) 1 1) 1 [.bool cp, .int .i64 f, .int .i64 n, .slice B BL pc] (w.alloc (.cells #[.bool cp, .int .i64 f, .int .i64 n, .slice B BL pc] 66))) := Lib.hid (fun w => by
        have := src_op w 32 66 Try.underlying32 ⟨⟨cp, f, n, bs⟩, B, pc⟩
        simpa only [POp.cells, HBL.out] using this)
      have HT2 : Hid (flatP (ps.take (k + 1)) = xs ++ [.bool cp, .int .i64 f, .int .i64 n, .slice B BL pc]) := Lib.hid (by rw [HT.out]; simp only [POp.cells, HBL.out])
      clear hxs W4 HT
      go_wp2_with (at_builtin; refine wpList_append_row _ rfl (.tmp 24) (.tmp 34) 32 32 rfl w3.heap.size 66 i0 (.agg zeroO) 4 48 Try.underlying32 hi hz0 hz1 hz2 rfl _ k xs rfl (HO4.out.alloc _) _ 1 _ rfl (HSrc.out _) (by unfold maxLen; omega) (by omega) (by have := HLg.out; have := HLg4.out; simp; omega) ?_
                   intro v6 w6 o6 g6 at6
                   obtain ⟨A6, k6, hv6, _, _⟩ := own_slice o6
                   subst hv6
                   have HO6 := Lib.hid o6
                   have hne : Value.ownBlock (.slice Av k cv) ≠ some w2.heap.size := own_apart HO4.out HW4.out (by decide)
                   have HF6 := Lib.hid (show Fr (fun j => Value.ownBlock (.slice Av k cv) = some j) w4 w6 from ((Fr.refl _ w4).alloc _).grown g6 (fun j hj _ => hj))
                   have HW6 := Lib.hid (HW4.out.fr HF6.out hne)
                   have c6 : w6.cell? ⟨w2.heap.size, 2, none⟩ = some (.slice Av k cv) := by rw [HW6.out.cell]; rfl
                   have f6 : w6.frozen? ⟨w2.heap.size, 2, none⟩ = false := HW6.out.frozen 2
                   have HAp := Lib.hid (own_apart o6 HW6.out (by decide))
                   clear o6 g6 at6 hne)
      go_roundw
      case rel =>
        have hset := HW6.out.set 2 (.slice A6 (k + 1) k6)
        have fset : Fr (fun j => j = w2.heap.size) w6 (w6.setCell ⟨w2.heap.size, 2, none⟩ (.slice A6 (k + 1) k6)) := Fr.setCell (S := fun j => j = w2.heap.size) (p := ⟨w2.heap.size, 2, none⟩) (Fr.refl _ w6) (fun _ => rfl) _
        refine ⟨k + 1, _, by omega, by go_num, Lib.hid hset, Lib.hid ?_, Lib.hid ?_⟩
        · unfold OwnP
          rw [HPL.out, HT2.out]
          exact own_fr HO6.out fset (fun j hj e => HAp.out (by rw [hj, e]))
        · refine ((HF.out.trans HF4.out (fun _ _ e => e.elim)).trans HF6.out (fun i hi e => ?_)).trans fset (fun i _ e => e)
          have := (World.ownsRow.lt HO4.out i e).1
          omega
      case measure => simp [intOf]; omega
    · obtain rfl : k = L := by omega
      have hpl : ps.take k = ps := List.take_of_length_le (by rw [HL.out]; omega)
      have HOp := Lib.hid (show OwnP 66 w3 wr v ps by have := HO.out; rwa [hpl] at this)
      have HO2 := Lib.hid (show wr.ownsRow w3.heap.size 66 4 v k (flatP ps) by have := HOp.out; unfold OwnP at this; rwa [HL.out] at this)
      have HW2r := Lib.hid (HW2.out.fr HF.out (fun e => by have := HS123.out; omega))
      clear hpl HO
      obtain ⟨Av, cv, hv, -, -⟩ := own_slice HO2.out
      subst hv
      have c0 : wr.cell? ⟨w2.heap.size, 0, none⟩ = some (.int .i64 b) := by rw [HW.out.cell]; rfl
      have c1 : wr.cell? ⟨w2.heap.size, 1, none⟩ = some (.int .i64 t) := by rw [HW.out.cell]; rfl
      have c2 : wr.cell? ⟨w2.heap.size, 2, none⟩ = some (.slice Av k cv) := by rw [HW.out.cell]; rfl
      have e0 : wr.cell? ⟨w1.heap.size, 0, none⟩ = some (.int .i64 0) := by rw [HW2r.out.cell]; rfl
      have e1 : wr.cell? ⟨w1.heap.size, 1, none⟩ = some (.int .i64 0) := by rw [HW2r.out.cell]; rfl
      have e2 : wr.cell? ⟨w1.heap.size, 2, none⟩ = some (.slice none 0 0) := by rw [HW2r.out.cell]; rfl
      have z0 := HW2r.out.frozen 0
      have z1 := HW2r.out.frozen 1
      have z2 := HW2r.out.frozen 2
      go_wp2_with fail
      have hw9 : Whole (((wr.setCell ⟨w1.heap.size, 0, none⟩ (.int .i64 b)).setCell ⟨w1.heap.size, 1, none⟩ (.int .i64 t)).setCell ⟨w1.heap.size, 2, none⟩ (.slice Av k cv)) w1.heap.size 34 #[.int .i64 b, .int .i64 t, .slice Av k cv] := ((HW2r.out.set 0 (.int .i64 b)).set 1 (.int .i64 t)).set 2 (.slice Av k cv)
      refine bodyPost_ret (v := .agg #[.int .i64 b, .int .i64 t, .slice Av k cv]) (results_cell_row (p := 2) rfl _ _ _ _ _ _ _ rfl hw9 Try.underlying34 rfl (by kernel_rfl)) rfl ?_
      have fset : Fr (fun j => j = w1.heap.size) wr (((wr.setCell ⟨w1.heap.size, 0, none⟩ (.int .i64 b)).setCell ⟨w1.heap.size, 1, none⟩ (.int .i64 t)).setCell ⟨w1.heap.size, 2, none⟩ (.slice Av k cv)) := ((((Fr.refl (fun j => j = w1.heap.size) wr).setCell (p := ⟨w1.heap.size, 0, none⟩) (fun _ => rfl) _).setCell (p := ⟨w1.heap.size, 1, none⟩) (fun _ => rfl) _).setCell (p := ⟨w1.heap.size, 2, none⟩) (fun _ => rfl) _)
      have hsz := HS123.out
      have fall : Fr (fun _ => False) w (((wr.setCell ⟨w1.heap.size, 0, none⟩ (.int .i64 b)).setCell ⟨w1.heap.size, 1, none⟩ (.int .i64 t)).setCell ⟨w1.heap.size, 2, none⟩ (.slice Av k cv)) := (HF03.out.trans HF.out (fun i hi e => by omega)).trans fset (fun i hi e => by omega)
      have own9 := own_fr HOp.out fset (fun j hj e => by have := (World.ownsRow.lt HOp.out j hj).1; omega)
      obtain ⟨A9, c9, hv9, sc9, -⟩ := OwnP.scr own9 (fun q hq => (HSc.out.fr fall).ok q hq)
      injection hv9 with e1 e2 e3
      subst e1; subst e3
      exact ⟨Av, cv, rfl, sc9, fall.below (fun _ _ e => e)⟩
end Go.Proofs.Ythjfkeploofblaa

/- What is proved: takeNumber, takeCopy, takeNew, takeOp of the program: what stands at a reader's place as a number, as an op. Conditions: a reader that the caller holds. -/
import Derived.Test.YthjfkeploofblaaDfa
import Derived.Test.YthjfkeploofblaaDeb
import Derived.Test.YthjfkeploofblaaDee
import Derived.Deep.Cut
namespace Go.Proofs.Ythjfkeploofblaa
open Go.RowKit
set_option linter.unusedVariables false

theorem DtakeNum_any (g : Nat) (v : Value) (bs : List UInt8) (p : Nat) (er : Int) (w : World) (h : Rd w g v bs p er) :
    Calls Try.prog 38 #[.pointer (some ⟨g, 0, none⟩)] w (RPost w g v bs (.int .i64 (varO bs p er 4000).1) (varO bs p er 4000).2.1 (varO bs p er 4000).2.2) := by
  unfold RPost
  have hm := varO_most bs p er 4000 (by omega)
  have HV := Lib.hid (RVar_any g v bs p er 4000 w h (by omega) (by omega))
  unfold VarPost at HV
  obtain ⟨⟨F1, F2, F3⟩, hF⟩ : ∃ F, varO bs p er 4000 = F := ⟨_, rfl⟩
  rw [hF] at HV hm ⊢
  simp only at HV hm ⊢
  have hw : IntKind.i64.wrap (F1 : Int) = F1 := by rw [IntKind.wrap_i64]; omega
  clear hF h
  go_enter Try.func38, Try.ntmps38
  go_wp2_with (go_at_call 56; refine HV.out.mono ?_; rintro e w2 ⟨rfl, r2, f2⟩; have HR2 := Lib.hid (And.intro r2 f2); clear r2 f2)
  go_ret
  exact ⟨rfl, HR2.out⟩

theorem setOp_whole {w : World} {g : Nat} {t : TypeId} {a b c d x0 x1 x2 x3 : Value} (h : Whole w g t #[x0, x1, x2, x3]) : Whole ((((w.setCell ⟨g, 0, none⟩ a).setCell ⟨g, 1, none⟩ b).setCell ⟨g, 2, none⟩ c).setCell ⟨g, 3, none⟩ d) g t #[a, b, c, d] := (((h.set 0 a).set 1 b).set 2 c).set 3 d
theorem setOp_fr (w : World) (g : Nat) (a b c d : Value) : Fr (fun j => j = g) w ((((w.setCell ⟨g, 0, none⟩ a).setCell ⟨g, 1, none⟩ b).setCell ⟨g, 2, none⟩ c).setCell ⟨g, 3, none⟩ d) :=
  ((((Fr.refl (fun j => j = g) w).setCell (p := ⟨g, 0, none⟩) (fun _ => rfl) _).setCell (p := ⟨g, 1, none⟩) (fun _ => rfl) _).setCell (p := ⟨g, 2, none⟩) (fun _ => rfl) _).setCell (p := ⟨g, 3, none⟩) (fun _ => rfl) _
theorem Whole.four {w : World} {g : Nat} {t : TypeId} {a b c d : Value} (h : Whole w g t #[a, b, c, d]) : w.cell? ⟨g, 0, none⟩ = some a ∧ w.cell? ⟨g, 1, none⟩ = some b ∧ w.cell? ⟨g, 2, none⟩ = some c ∧ w.cell? ⟨g, 3, none⟩ = some d :=
  ⟨by rw [h.cell]; rfl, by rw [h.cell]; rfl, by rw [h.cell]; rfl, by rw [h.cell]; rfl⟩
/-- What a call tells that takes an op. -/
def TkPost (w : World) (g : Nat) (v : Value) (bs : List UInt8) (r : DOp × Nat × Int) (e : Ending) (w' : World) : Prop :=
  ∃ A c, e = .returned (.tuple #[.agg #[.bool r.1.copy, .int .i64 r.1.frm, .int .i64 r.1.n, .slice A r.1.b.length c], .int .i64 r.2.2]) ∧ w'.ownsRow w.heap.size 5 1 (.slice A r.1.b.length c) r.1.b.length (bytesV r.1.b) ∧ (r.2.2 = 0 → Rd w' g v bs r.2.1 0) ∧ RFr g w w'

set_option maxHeartbeats 3200000 in
set_option maxRecDepth 100000 in
theorem DtakeCopy_any (g : Nat) (v : Value) (bs : List UInt8) (p : Nat) (er base : Int) (w : World) (hb : 0 ≤ base ∧ base ≤ 4000) (h : Rd w g v bs p er) :
    Calls Try.prog 58 #[.pointer (some ⟨g, 0, none⟩), .int .i64 base] w (TkPost w g v bs (tkC base (varO bs p er 4000) (varO bs (varO bs p er 4000).2.1 (varO bs p er 4000).2.2 4000))) := by
  unfold TkPost
  have HT1 := Lib.hid (fun w' (r : Rd w' g v bs p er) => DtakeNum_any g v bs p er w' r)
  have hm1 := varO_most bs p er 4000 (by omega)
  unfold RPost at HT1
  obtain ⟨⟨F1, F2, F3⟩, hF⟩ : ∃ F, varO bs p er 4000 = F := ⟨_, rfl⟩
  rw [hF] at hm1 HT1 ⊢
  have HT2 := Lib.hid (fun w' (r : Rd w' g v bs F2 F3) => DtakeNum_any g v bs F2 F3 w' r)
  have hm2 := varO_most bs F2 F3 4000 (by omega)
  unfold RPost at HT2
  simp only at hm1 HT1 ⊢
  obtain ⟨⟨N1, N2, N3⟩, hN⟩ : ∃ N, varO bs F2 F3 4000 = N := ⟨_, rfl⟩
  rw [hN] at hm2 HT2 ⊢
  simp only at hm2 HT2 ⊢
  obtain ⟨T, hT⟩ : ∃ T, tkC base (F1, F2, F3) (N1, N2, N3) = T := ⟨_, rfl⟩
  have HTk := Lib.hid (show T = if N3 ≠ 0 then (zD, N2, N3) else if N1 = 0 then (zD, N2, 12) else if (F1 : Int) ≤ base - N1 then (copyO F1 N1, N2, 0) else (zD, N2, 21) from hT.symm)
  rw [hT]
  clear hF hN hT
  obtain ⟨w1, hw1⟩ : ∃ w1, w.alloc (.cells #[.bool false, .int .i64 0, .int .i64 0, .slice none 0 0] 57) = w1 := ⟨_, rfl⟩
  have HF1 := Lib.hid (show Fr (fun _ => False) w w1 by subst hw1; exact (Fr.refl _ _).alloc _)
  have HW1 := Lib.hid (show Whole w1 w.heap.size 57 #[.bool false, .int .i64 0, .int .i64 0, .slice none 0 0] by subst hw1; exact Whole.new _ _ _)
  have HR1 := Lib.hid (h.fr HF1.out (fun e => e) (fun _ _ e => e))
  have HGl := Lib.hid (show g < w.heap.size from h.whole.lt)
  have HGo := Lib.hid (show ∀ k, v.ownBlock = some k → k < w.heap.size from fun k hk => (World.ownsRow.lt h.own k hk).2)
  have HGs := Lib.hid (show w1.heap.size = w.heap.size + 1 by subst hw1; simp)
  obtain ⟨hb0, hb1⟩ := hb
  clear h
  go_enter Try.func58, Try.ntmps58
  go_upto_region 2 with (first
    | (go_at_call 38; have _ := M2; refine (HT2.out w2 HR2.out).mono ?_; rintro e w3 ⟨rfl, r3, f3⟩; have HR3 := Lib.hid r3; have HF3 := Lib.hid (HF2.out.trans f3); clear r3 f3)
    | (go_at_call 38; refine (HT1.out w1 HR1.out).mono ?_; rintro e w2 ⟨rfl, r2, f2⟩; have HR2 := Lib.hid r2; have HF2 := Lib.hid f2; have M2 := True.intro; clear r2 f2))
  obtain ⟨w4, hw4⟩ : ∃ w4, w3.alloc (.cells #[.bool true, .int .i64 F1, .int .i64 N1, .slice none 0 0] 57) = w4 := ⟨_, rfl⟩
  rw [hw4]
  have HF34 := Lib.hid (show Fr (fun _ => False) w3 w4 by subst hw4; exact (Fr.refl _ _).alloc _)
  have HO4 := Lib.hid (show Whole w4 w3.heap.size 57 #[.bool true, .int .i64 F1, .int .i64 N1, .slice none 0 0] by subst hw4; exact Whole.new _ _ _)
  have HR4 := Lib.hid (HR3.out.fr HF34.out (fun e => e) (fun _ _ e => e))
  have HF4 := Lib.hid (show Fr (fun k => k = g) w1 w4 from Fr.trans HF3.out HF34.out (fun _ _ e => e.elim))
  have HW4 := Lib.hid (HW1.out.fr HF4.out (fun e => by have := HGl.out; omega))
  have HFe := Lib.hid (show RFr g w w4 from (HF1.out.mono (T := fun k => k = g) (fun _ _ e => e.elim)).trans HF4.out (fun _ _ e => e))
  obtain ⟨o0, o1, o2, o3⟩ := HO4.out.four
  clear hw4 hw1
  have HLi := Lib.hid (fun w' => Dlies_any true F1 N1 base ⟨by omega, by omega⟩ ⟨by omega, by omega⟩ ⟨hb0, by omega⟩ (.slice none 0 0) rfl w')
  have fin : ∀ (wr : World) (E : Int) (q : Nat), Whole wr w.heap.size 57 #[.bool false, .int .i64 0, .int .i64 0, .slice none 0 0] → RFr g w wr → T = (zD, q, E) → E ≠ 0 →
      ∃ A c, Ending.returned (.tuple #[.agg #[.bool false, .int .i64 0, .int .i64 0, .slice none 0 0], .int .i64 E]) = .returned (.tuple #[.agg #[.bool T.1.copy, .int .i64 T.1.frm, .int .i64 T.1.n, .slice A T.1.b.length c], .int .i64 T.2.2]) ∧ ((((wr.setCell ⟨w.heap.size, 0, none⟩ (.bool false)).setCell ⟨w.heap.size, 1, none⟩ (.int .i64 0)).setCell ⟨w.heap.size, 2, none⟩ (.int .i64 0)).setCell ⟨w.heap.size, 3, none⟩ (.slice none 0 0)).ownsRow w.heap.size 5 1 (.slice A T.1.b.length c) T.1.b.length (bytesV T.1.b) ∧ (T.2.2 = 0 → Rd ((((wr.setCell ⟨w.heap.size, 0, none⟩ (.bool false)).setCell ⟨w.heap.size, 1, none⟩ (.int .i64 0)).setCell ⟨w.heap.size, 2, none⟩ (.int .i64 0)).setCell ⟨w.heap.size, 3, none⟩ (.slice none 0 0)) g v bs T.2.1 0) ∧ RFr g w ((((wr.setCell ⟨w.heap.size, 0, none⟩ (.bool false)).setCell ⟨w.heap.size, 1, none⟩ (.int .i64 0)).setCell ⟨w.heap.size, 2, none⟩ (.int .i64 0)).setCell ⟨w.heap.size, 3, none⟩ (.slice none 0 0)) := by
    intro wr E q hW hf hT hE
    subst hT
    exact ⟨none, 0, rfl, World.ownsRow_nil _ _ _ _, fun e => absurd e hE, Fr.trans hf (setOp_fr wr w.heap.size _ _ _ _) (fun i hi e => by omega)⟩
  have HFin := Lib.hid fin
  clear fin
  by_cases hN3 : N3 = 0
  · subst hN3
    by_cases hN1 : N1 = 0
    · subst hN1
      have HT12 := Lib.hid (show T = (zD, N2, 12) from by rw [HTk.out, if_neg (by simp), if_pos rfl])
      obtain ⟨e0, e1, e2, e3⟩ := HW4.out.four
      have z0 := HW4.out.frozen 0
      have z1 := HW4.out.frozen 1
      have z2 := HW4.out.frozen 2
      have z3 := HW4.out.frozen 3
      have HWr := HW4
      go_wp2_with (go_at_call 39; refine (RErr_any g v bs N2 0 _ HR4.out).mono ?_; rintro e wx ⟨rfl, rfl⟩)
      (
        refine bodyPost_ret (v := .tuple #[.agg #[.bool false, .int .i64 0, .int .i64 0, .slice none 0 0], .int .i64 12]) (results_cell_slot (p := 4) (u := 5) rfl _ _ _ _ _ _ rfl (setOp_whole HWr.out) Try.underlying57 rfl (by kernel_rfl)) rfl ?_)
      exact HFin.out w4 12 N2 HW4.out HFe.out HT12.out (by decide)
    · have hN10 : ((N1 : Int) == 0) = false := by simp; exact hN1
      have HN10 := Lib.hid hN1
      by_cases hli : (F1 : Int) ≤ base - N1
      · have hd : decide ((0 : Int) ≤ (F1 : Int) ∧ (F1 : Int) ≤ base - N1) = true := by simp; omega
        have HD := Lib.hid hd
        have HT0 := Lib.hid (show T = (copyO F1 N1, N2, 0) from by rw [HTk.out, if_neg (by simp), if_neg hN1, if_pos hli])
        clear hd hN1
        go_wp2_with (first
          | (go_at_call 39; refine (RErr_any g v bs N2 0 _ HR4.out).mono ?_; rintro e wx ⟨rfl, rfl⟩)
          | (go_at_call 55; refine (HLi.out w4).mono ?_; rintro e w5 ⟨rfl, b5⟩; simp only [HD.out]; have HF5 := Lib.hid (Fr.of_below (S := fun _ => False) b5); obtain ⟨p0, p1, p2, p3⟩ := (HO4.out.fr HF5.out (fun e => e)).four; have HWr := Lib.hid (HW4.out.fr HF5.out (fun e => e)); obtain ⟨e0, e1, e2, e3⟩ := HWr.out.four; have z0 := HWr.out.frozen 0; have z1 := HWr.out.frozen 1; have z2 := HWr.out.frozen 2; have z3 := HWr.out.frozen 3; clear b5))
        (
          refine bodyPost_ret (v := .tuple #[.agg #[.bool true, .int .i64 F1, .int .i64 N1, .slice none 0 0], .int .i64 0]) (results_cell_slot (p := 4) (u := 5) rfl _ _ _ _ _ _ rfl (setOp_whole HWr.out) Try.underlying57 rfl (by kernel_rfl)) rfl ?_)
        have hT0 := HT0.out
        subst hT0
        refine ⟨none, 0, rfl, World.ownsRow_nil _ _ _ _, fun _ => ?_, Fr.trans (Fr.trans HFe.out HF5.out (fun _ _ e => e.elim)) (setOp_fr w5 w.heap.size _ _ _ _) (fun i hi e => by omega)⟩
        exact (HR4.out.fr HF5.out (fun e => e) (fun _ _ e => e)).fr (setOp_fr w5 w.heap.size _ _ _ _) (fun e => by have := HGl.out; omega) (fun k hk e => by have := HGo.out k hk; omega)
      · have hd : decide ((0 : Int) ≤ (F1 : Int) ∧ (F1 : Int) ≤ base - N1) = false := by simp only [decide_eq_false_iff_not]; omega
        have HD := Lib.hid hd
        have HT0 := Lib.hid (show T = (zD, N2, 21) from by rw [HTk.out, if_neg (by simp), if_neg hN1, if_neg hli])
        clear hd hN1 hli
        go_wp2_with (first
          | (go_at_call 39; refine (RErr_any g v bs N2 0 _ HR4.out).mono ?_; rintro e wx ⟨rfl, rfl⟩)
          | (go_at_call 55; refine (HLi.out w4).mono ?_; rintro e w5 ⟨rfl, b5⟩; simp only [HD.out]; have HF5 := Lib.hid (Fr.of_below (S := fun _ => False) b5); have HWr := Lib.hid (HW4.out.fr HF5.out (fun e => e)); obtain ⟨e0, e1, e2, e3⟩ := HWr.out.four; have z0 := HWr.out.frozen 0; have z1 := HWr.out.frozen 1; have z2 := HWr.out.frozen 2; have z3 := HWr.out.frozen 3; clear b5))
        (
          refine bodyPost_ret (v := .tuple #[.agg #[.bool false, .int .i64 0, .int .i64 0, .slice none 0 0], .int .i64 21]) (results_cell_slot (p := 4) (u := 5) rfl _ _ _ _ _ _ rfl (setOp_whole HWr.out) Try.underlying57 rfl (by kernel_rfl)) rfl ?_)
        exact HFin.out w5 21 N2 HWr.out (Fr.trans HFe.out HF5.out (fun _ _ e => e.elim)) HT0.out (by decide)
  · have hN30 : (N3 != 0) = true := by simp; exact hN3
    have HT3 := Lib.hid (show T = (zD, N2, N3) from by rw [HTk.out, if_pos hN3])
    obtain ⟨e0, e1, e2, e3⟩ := HW4.out.four
    have z0 := HW4.out.frozen 0
    have z1 := HW4.out.frozen 1
    have z2 := HW4.out.frozen 2
    have z3 := HW4.out.frozen 3
    have HWr := HW4
    go_wp2_with (go_at_call 39; refine (RErr_any g v bs N2 N3 _ HR4.out).mono ?_; rintro e wx ⟨rfl, rfl⟩)
    (
      refine bodyPost_ret (v := .tuple #[.agg #[.bool false, .int .i64 0, .int .i64 0, .slice none 0 0], .int .i64 N3]) (results_cell_slot (p := 4) (u := 5) rfl _ _ _ _ _ _ rfl (setOp_whole HWr.out) Try.underlying57 rfl (by kernel_rfl)) rfl ?_)
    exact HFin.out w4 N3 N2 HW4.out HFe.out HT3.out hN3

set_option maxHeartbeats 3200000 in
set_option maxRecDepth 100000 in
theorem DtakeNew_any (g : Nat) (v : Value) (bs : List UInt8) (p : Nat) (er : Int) (w : World) (h : Rd w g v bs p er) :
    Calls Try.prog 59 #[.pointer (some ⟨g, 0, none⟩)] w (TkPost w g v bs (tkN bs (varO bs p er 4000))) := by
  unfold TkPost
  have HT1 := Lib.hid (fun w' (r : Rd w' g v bs p er) => DtakeNum_any g v bs p er w' r)
  have hm1 := varO_most bs p er 4000 (by omega)
  unfold RPost at HT1
  obtain ⟨⟨N1, N2, N3⟩, hN⟩ : ∃ N, varO bs p er 4000 = N := ⟨_, rfl⟩
  rw [hN] at hm1 HT1 ⊢
  simp only at hm1 HT1
  have HRw := Lib.hid (fun w' (r : Rd w' g v bs N2 N3) => RRaw_any g v bs N2 N3 N1 w' r (by omega) (by omega))
  unfold RawPost at HRw
  obtain ⟨E, hE⟩ : ∃ E, rawErr bs.length N2 N3 N1 = E := ⟨_, rfl⟩
  obtain ⟨P, hP⟩ : ∃ P, rawAt bs.length N2 N3 N1 = P := ⟨_, rfl⟩
  obtain ⟨R, hR⟩ : ∃ R, rawB bs N2 N3 N1 = R := ⟨_, rfl⟩
  obtain ⟨K, hK⟩ : ∃ K, R.length = K := ⟨_, rfl⟩
  have HK := Lib.hid hK
  obtain ⟨T, hT⟩ : ∃ T, tkN bs (N1, N2, N3) = T := ⟨_, rfl⟩
  have HTk := Lib.hid (show T = if E ≠ 0 then (zD, 0, E) else if N1 = 0 then (zD, 0, 12) else (newO R, P, 0) from by rw [← hT, ← hE, ← hP, ← hR]; rfl)
  rw [hT]
  rw [hE, hP, hR] at HRw
  simp only [hK] at HRw
  clear hN hT hE hP hR hK
  obtain ⟨w1, hw1⟩ : ∃ w1, w.alloc (.cells #[.bool false, .int .i64 0, .int .i64 0, .slice none 0 0] 57) = w1 := ⟨_, rfl⟩
  have HF1 := Lib.hid (show Fr (fun _ => False) w w1 by subst hw1; exact (Fr.refl _ _).alloc _)
  have HW1 := Lib.hid (show Whole w1 w.heap.size 57 #[.bool false, .int .i64 0, .int .i64 0, .slice none 0 0] by subst hw1; exact Whole.new _ _ _)
  have HR1 := Lib.hid (h.fr HF1.out (fun e => e) (fun _ _ e => e))
  have HGl := Lib.hid (show g < w.heap.size from h.whole.lt)
  have HGo := Lib.hid (show ∀ k, v.ownBlock = some k → k < w.heap.size from fun k hk => (World.ownsRow.lt h.own k hk).2)
  have HGs := Lib.hid (show w1.heap.size = w.heap.size + 1 by subst hw1; simp)
  clear h
  go_enter Try.func59, Try.ntmps59
  go_upto_region 3 with (first
    | (go_at_call 38; refine (HT1.out w1 HR1.out).mono ?_; rintro e w2 ⟨rfl, r2, f2⟩; have HR2 := Lib.hid r2; have HF2 := Lib.hid f2; clear r2 f2)
    | (go_at_call 69; refine (HRw.out w2 HR2.out).mono ?_; rintro e w3 ⟨v3, rfl, o3, r3, f3⟩; have HR3 := Lib.hid r3; have HF3 := Lib.hid (HF2.out.trans f3); obtain ⟨A3, c3, hv3, -, -⟩ := own_slice o3; subst hv3; have HO3 := Lib.hid (own_down o3 (show w.heap.size ≤ w2.heap.size by have := HGs.out; have := HF2.out.size; omega)); have HOb := Lib.hid (show ∀ k, Value.ownBlock (.slice A3 K c3) = some k → w1.heap.size ≤ k from fun k hk => by have := (World.ownsRow.lt o3 k hk).1; have := HF2.out.size; omega); clear o3 r3 f3))
  obtain ⟨w4, hw4⟩ : ∃ w4, w3.alloc (.cells #[.bool false, .int .i64 0, .int .i64 0, .slice A3 K c3] 57) = w4 := ⟨_, rfl⟩
  rw [hw4]
  have HF34 := Lib.hid (show Fr (fun _ => False) w3 w4 by subst hw4; exact (Fr.refl _ _).alloc _)
  have HO4 := Lib.hid (show Whole w4 w3.heap.size 57 #[.bool false, .int .i64 0, .int .i64 0, .slice A3 K c3] by subst hw4; exact Whole.new _ _ _)
  have HR4 := Lib.hid (HR3.out.fr HF34.out (fun e => e) (fun _ _ e => e))
  have HF4 := Lib.hid (show Fr (fun k => k = g) w1 w4 from Fr.trans HF3.out HF34.out (fun _ _ e => e.elim))
  have HWr := Lib.hid (HW1.out.fr HF4.out (fun e => by have := HGl.out; omega))
  have HFe := Lib.hid (show RFr g w w4 from (HF1.out.mono (T := fun k => k = g) (fun _ _ e => e.elim)).trans HF4.out (fun _ _ e => e))
  have HRo := Lib.hid (own_fr HO3.out HF34.out (fun _ _ e => e))
  obtain ⟨o0, o1, o2, o3⟩ := HO4.out.four
  obtain ⟨e0, e1, e2, e3⟩ := HWr.out.four
  have z0 := HWr.out.frozen 0
  have z1 := HWr.out.frozen 1
  have z2 := HWr.out.frozen 2
  have z3 := HWr.out.frozen 3
  clear hw4 hw1
  by_cases hE : E = 0
  · subst hE
    by_cases hN1 : N1 = 0
    · subst hN1
      have HT12 := Lib.hid (show T = (zD, 0, 12) from by rw [HTk.out, if_neg (by simp), if_pos rfl])
      go_wp2_with (go_at_call 39; refine (RErr_any g v bs P 0 _ HR4.out).mono ?_; rintro e wx ⟨rfl, rfl⟩)
      (
        refine bodyPost_ret (v := .tuple #[.agg #[.bool false, .int .i64 0, .int .i64 0, .slice none 0 0], .int .i64 12]) (results_cell_slot (p := 2) (u := 3) rfl _ _ _ _ _ _ rfl (setOp_whole HWr.out) Try.underlying57 rfl (by kernel_rfl)) rfl ?_)
      have hT := HT12.out
      subst hT
      exact ⟨none, 0, rfl, World.ownsRow_nil _ _ _ _, fun e => absurd e (by decide), Fr.trans HFe.out (setOp_fr w4 w.heap.size _ _ _ _) (fun i hi e => by omega)⟩
    · have hN10 : ((N1 : Int) == 0) = false := by simp; exact hN1
      have HT0 := Lib.hid (show T = (newO R, P, 0) from by rw [HTk.out, if_neg (by simp), if_neg hN1])
      clear hN1
      go_wp2_with (go_at_call 39; refine (RErr_any g v bs P 0 _ HR4.out).mono ?_; rintro e wx ⟨rfl, rfl⟩)
      (
        refine bodyPost_ret (v := .tuple #[.agg #[.bool false, .int .i64 0, .int .i64 0, .slice A3 K c3], .int .i64 0]) (results_cell_slot (p := 2) (u := 3) rfl _ _ _ _ _ _ rfl (setOp_whole HWr.out) Try.underlying57 rfl (by kernel_rfl)) rfl ?_)
      have hT := HT0.out
      subst hT
      have hK := HK.out
      subst hK
      refine ⟨A3, c3, rfl, own_fr HRo.out (setOp_fr w4 w.heap.size _ _ _ _) (fun k hk e => by have := HOb.out k hk; have := HGs.out; omega), fun _ => ?_, Fr.trans HFe.out (setOp_fr w4 w.heap.size _ _ _ _) (fun i hi e => by omega)⟩
      exact HR4.out.fr (setOp_fr w4 w.heap.size _ _ _ _) (fun e => by have := HGl.out; omega) (fun k hk e => by have := HGo.out k hk; omega)
  · have hE0 : (E != 0) = true := by simp; exact hE
    have HT3 := Lib.hid (show T = (zD, 0, E) from by rw [HTk.out, if_pos hE])
    have HE := Lib.hid hE
    clear hE
    go_wp2_with (go_at_call 39; refine (RErr_any g v bs P E _ HR4.out).mono ?_; rintro e wx ⟨rfl, rfl⟩)
    (
      refine bodyPost_ret (v := .tuple #[.agg #[.bool false, .int .i64 0, .int .i64 0, .slice none 0 0], .int .i64 E]) (results_cell_slot (p := 2) (u := 3) rfl _ _ _ _ _ _ rfl (setOp_whole HWr.out) Try.underlying57 rfl (by kernel_rfl)) rfl ?_)
    have hT := HT3.out
    subst hT
    exact ⟨none, 0, rfl, World.ownsRow_nil _ _ _ _, fun e => absurd e HE.out, Fr.trans HFe.out (setOp_fr w4 w.heap.size _ _ _ _) (fun i hi e => by omega)⟩

set_option maxHeartbeats 3200000 in
set_option maxRecDepth 100000 in
/-- An op off the bytes (there is one more byte). -/
theorem DtakeOp_any (g : Nat) (v : Value) (bs : List UInt8) (p : Nat) (base : Int) (w : World) (hb : 0 ≤ base ∧ base ≤ 4000) (hp : p < bs.length) (h : Rd w g v bs p 0) :
    Calls Try.prog 41 #[.pointer (some ⟨g, 0, none⟩), .int .i64 base] w (TkPost w g v bs (tkO bs base p)) := by
  unfold TkPost
  have HBy := Lib.hid (fun w' (r : Rd w' g v bs p 0) => RByte_any g v bs p 0 w' r)
  unfold RPost at HBy
  have hst : stepAt bs.length p 0 1 = p + 1 := by unfold stepAt; rw [if_pos ⟨rfl, by omega⟩]
  have hbe : byteAt bs p 0 = bs.getD p 0 := by unfold byteAt; rw [if_pos rfl]
  rw [hst, hbe, hasErr_ok (by omega)] at HBy
  have HC := Lib.hid (fun w' (r : Rd w' g v bs (p + 1) 0) => DtakeCopy_any g v bs (p + 1) 0 base w' hb r)
  have HN := Lib.hid (fun w' (r : Rd w' g v bs (p + 1) 0) => DtakeNew_any g v bs (p + 1) 0 w' r)
  unfold TkPost at HC HN
  obtain ⟨TC, hTC⟩ : ∃ T, tkC base (varO bs (p + 1) 0 4000) (varO bs (varO bs (p + 1) 0 4000).2.1 (varO bs (p + 1) 0 4000).2.2 4000) = T := ⟨_, rfl⟩
  obtain ⟨TN, hTN⟩ : ∃ T, tkN bs (varO bs (p + 1) 0 4000) = T := ⟨_, rfl⟩
  obtain ⟨u, hu⟩ : ∃ u : Nat, (bs.getD p 0).toNat = u := ⟨_, rfl⟩
  obtain ⟨T, hT⟩ : ∃ T, tkO bs base p = T := ⟨_, rfl⟩
  have HT := Lib.hid (show T = if u = 1 then TC else if u = 0 then TN else (zD, p + 1, 19) from by rw [← hT, ← hTC, ← hTN, ← hu]; rfl)
  rw [hT]
  rw [hTC] at HC
  rw [hTN] at HN
  rw [hu] at HBy
  clear hTC hTN hT hu hst hbe
  obtain ⟨w1, hw1⟩ : ∃ w1, w.alloc (.cells #[.bool false, .int .i64 0, .int .i64 0, .slice none 0 0] 57) = w1 := ⟨_, rfl⟩
  have HF1 := Lib.hid (show Fr (fun _ => False) w w1 by subst hw1; exact (Fr.refl _ _).alloc _)
  have HW1 := Lib.hid (show Whole w1 w.heap.size 57 #[.bool false, .int .i64 0, .int .i64 0, .slice none 0 0] by subst hw1; exact Whole.new _ _ _)
  have HR1 := Lib.hid (h.fr HF1.out (fun e => e) (fun _ _ e => e))
  have HGl := Lib.hid (show g < w.heap.size from h.whole.lt)
  have HGo := Lib.hid (show ∀ k, v.ownBlock = some k → k < w.heap.size from fun k hk => (World.ownsRow.lt h.own k hk).2)
  have HGs := Lib.hid (show w1.heap.size = w.heap.size + 1 by subst hw1; simp)
  have HF1g := Lib.hid (show RFr g w w1 from HF1.out.mono (T := fun k => k = g) (fun _ _ e => e.elim))
  have HWw := Lib.hid (fun w' (f : RFr g w1 w') => HW1.out.fr (f : Fr (fun k => k = g) w1 w') (fun e => by have := HGl.out; omega))
  clear h
  by_cases h1 : u = 1
  · subst h1
    have hT := HT.out
    rw [if_pos rfl] at hT
    subst hT
    clear HT
    obtain ⟨⟨cp, f, n, b⟩, q, E⟩ := T
    obtain ⟨K, hK⟩ : ∃ K, b.length = K := ⟨_, rfl⟩
    simp only [hK] at HC ⊢
    clear hK
    go_enter Try.func41, Try.ntmps41
    go_wp2_with (first
      | (go_at_call 57; refine (HBy.out w1 HR1.out).mono ?_; rintro e w2 ⟨rfl, r2, f2⟩; have HR2 := Lib.hid r2; have HF2 := Lib.hid f2; clear r2 f2)
      | (go_at_call 58; refine (HC.out w2 HR2.out).mono ?_; rintro e w3 ⟨A3, c3, rfl, o3, r3, f3⟩; have HR3 := Lib.hid r3; have HF3 := Lib.hid (HF2.out.trans f3); have HO3 := Lib.hid (own_down o3 (show w.heap.size ≤ w2.heap.size by have := HGs.out; have := HF2.out.size; omega)); have HOb := Lib.hid (show ∀ k, Value.ownBlock (.slice A3 K c3) = some k → w1.heap.size ≤ k from fun k hk => by have := (World.ownsRow.lt o3 k hk).1; have := HF2.out.size; omega); have HWr := Lib.hid (HWw.out w3 HF3.out); obtain ⟨e0, e1, e2, e3⟩ := HWr.out.four; have z0 := HWr.out.frozen 0; have z1 := HWr.out.frozen 1; have z2 := HWr.out.frozen 2; have z3 := HWr.out.frozen 3; clear o3 r3 f3))
    (
      refine bodyPost_ret (v := .tuple #[.agg #[.bool cp, .int .i64 f, .int .i64 n, .slice A3 K c3], .int .i64 E]) (results_cell_slot (p := 4) (u := 5) rfl _ _ _ _ _ _ rfl (setOp_whole HWr.out) Try.underlying57 rfl (by kernel_rfl)) rfl ?_)
    refine ⟨A3, c3, rfl, own_fr HO3.out (setOp_fr w3 w.heap.size _ _ _ _) (fun k hk e => by have := HOb.out k hk; have := HGs.out; omega), fun e => ?_, Fr.trans (HF1g.out.trans HF3.out) (setOp_fr w3 w.heap.size _ _ _ _) (fun i hi e => by omega)⟩
    exact (HR3.out e).fr (setOp_fr w3 w.heap.size _ _ _ _) (fun e => by have := HGl.out; omega) (fun k hk e => by have := HGo.out k hk; omega)
  · have h1' : ((u : Int) == 1) = false := by simp; omega
    by_cases h0 : u = 0
    · subst h0
      have hT := HT.out
      rw [if_neg h1, if_pos rfl] at hT
      subst hT
      clear HT
      obtain ⟨⟨cp, f, n, b⟩, q, E⟩ := T
      obtain ⟨K, hK⟩ : ∃ K, b.length = K := ⟨_, rfl⟩
      simp only [hK] at HN ⊢
      clear hK h1
      go_enter Try.func41, Try.ntmps41
      go_wp2_with (first
        | (go_at_call 57; refine (HBy.out w1 HR1.out).mono ?_; rintro e w2 ⟨rfl, r2, f2⟩; have HR2 := Lib.hid r2; have HF2 := Lib.hid f2; clear r2 f2)
        | (go_at_call 59; refine (HN.out w2 HR2.out).mono ?_; rintro e w3 ⟨A3, c3, rfl, o3, r3, f3⟩; have HR3 := Lib.hid r3; have HF3 := Lib.hid (HF2.out.trans f3); have HO3 := Lib.hid (own_down o3 (show w.heap.size ≤ w2.heap.size by have := HGs.out; have := HF2.out.size; omega)); have HOb := Lib.hid (show ∀ k, Value.ownBlock (.slice A3 K c3) = some k → w1.heap.size ≤ k from fun k hk => by have := (World.ownsRow.lt o3 k hk).1; have := HF2.out.size; omega); have HWr := Lib.hid (HWw.out w3 HF3.out); obtain ⟨e0, e1, e2, e3⟩ := HWr.out.four; have z0 := HWr.out.frozen 0; have z1 := HWr.out.frozen 1; have z2 := HWr.out.frozen 2; have z3 := HWr.out.frozen 3; clear o3 r3 f3))
      (
        refine bodyPost_ret (v := .tuple #[.agg #[.bool cp, .int .i64 f, .int .i64 n, .slice A3 K c3], .int .i64 E]) (results_cell_slot (p := 4) (u := 5) rfl _ _ _ _ _ _ rfl (setOp_whole HWr.out) Try.underlying57 rfl (by kernel_rfl)) rfl ?_)
      refine ⟨A3, c3, rfl, own_fr HO3.out (setOp_fr w3 w.heap.size _ _ _ _) (fun k hk e => by have := HOb.out k hk; have := HGs.out; omega), fun e => ?_, Fr.trans (HF1g.out.trans HF3.out) (setOp_fr w3 w.heap.size _ _ _ _) (fun i hi e => by omega)⟩
      exact (HR3.out e).fr (setOp_fr w3 w.heap.size _ _ _ _) (fun e => by have := HGl.out; omega) (fun k hk e => by have := HGo.out k hk; omega)
    · have h0' : ((u : Int) == 0) = false := by simp; omega
      have hT := HT.out
      rw [if_neg h1, if_neg h0] at hT
      have HT9 := Lib.hid hT
      clear hT HT h0 h1
      go_enter Try.func41, Try.ntmps41
      go_wp2_with (go_at_call 57; refine (HBy.out w1 HR1.out).mono ?_; rintro e w2 ⟨rfl, r2, f2⟩; have HF2 := Lib.hid f2; have HWr := Lib.hid (HWw.out w2 HF2.out); obtain ⟨e0, e1, e2, e3⟩ := HWr.out.four; have z0 := HWr.out.frozen 0; have z1 := HWr.out.frozen 1; have z2 := HWr.out.frozen 2; have z3 := HWr.out.frozen 3; clear r2 f2)
      (
        refine bodyPost_ret (v := .tuple #[.agg #[.bool false, .int .i64 0, .int .i64 0, .slice none 0 0], .int .i64 19]) (results_cell_slot (p := 4) (u := 5) rfl _ _ _ _ _ _ rfl (setOp_whole HWr.out) Try.underlying57 rfl (by kernel_rfl)) rfl ?_)
      have hT := HT9.out
      subst hT
      exact ⟨none, 0, rfl, World.ownsRow_nil _ _ _ _, fun e => absurd e (by simp), Fr.trans (HF1g.out.trans HF2.out) (setOp_fr w2 w.heap.size _ _ _ _) (fun i hi e => by omega)⟩
end Go.Proofs.Ythjfkeploofblaa

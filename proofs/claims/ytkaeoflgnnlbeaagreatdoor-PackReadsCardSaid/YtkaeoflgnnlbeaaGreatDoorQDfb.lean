/- What is proved: texts that stand one behind the other: Dfb Dfc. Conditions: each theorem names its own. -/
import Derived.Deep.Cut
import Derived.Test.YtkaeoflgnnlbeaaGreatDoorQDeb
import Derived.Test.YtkaeoflgnnlbeaaGreatDoorQDee
import Derived.Test.YtkaeoflgnnlbeaaGreatDoorQDfa
import Derived.Deep.RegionWith
import Derived.Test.YtkaeoflgnnlbeaaGreatDoorQDpc
/- What is proved: what the walks of this seat need of layers below, merged out of the texts Dfb (of each just what is needed). Conditions: each theorem names its own. -/
/- What is proved: takeNumber, takeCopy, takeNew, takeOp of the program: what stands at a reader's place as a number, as an op. Conditions: a reader that the caller holds. -/
namespace Go.Proofs.YtkaeoflgnnlbeaaGreatDoor
open Go.RowKit
set_option linter.unusedVariables false
theorem DtakeNum_any (g : Nat) (v : Value) (bs : List UInt8) (p : Nat) (er : Int) (w : World) (h : Rd none w g v bs p er) :
    Calls Tryz.prog 88 #[.pointer (some ⟨g, 0, none⟩)] w (RPost none w g v bs (.int .i64 (varO bs p er 4000).1) (varO bs p er 4000).2.1 (varO bs p er 4000).2.2) := by
  unfold RPost
  have hm := varO_most bs p er 4000 (by omega)
  have HV := Lib.hid (RVar_any g v bs p er 4000 w h (by omega) (by omega))
  unfold VarPost at HV
  obtain ⟨⟨F1, F2, F3⟩, hF⟩ : ∃ F, varO bs p er 4000 = F := ⟨_, rfl⟩
  rw [hF] at HV hm ⊢
  simp only at HV hm ⊢
  have hw : IntKind.i64.wrap (F1 : Int) = F1 := by rw [IntKind.wrap_i64]; omega
  clear hF h
  go_enter Tryz.func88, Tryz.ntmps88
  go_wp2_with (go_at_call 117; refine HV.out.mono ?_; rintro e w2 ⟨rfl, r2, f2⟩; have HR2 := Lib.hid (And.intro r2 f2); clear r2 f2)
  go_ret
  exact ⟨rfl, HR2.out⟩
theorem setOp_whole {w : World} {g : Nat} {t : TypeId} {a b c d x0 x1 x2 x3 : Value} (h : Whole w g t #[x0, x1, x2, x3]) : Whole ((((w.setCell ⟨g, 0, none⟩ a).setCell ⟨g, 1, none⟩ b).setCell ⟨g, 2, none⟩ c).setCell ⟨g, 3, none⟩ d) g t #[a, b, c, d] := (((h.set 0 a).set 1 b).set 2 c).set 3 d
theorem setOp_fr (w : World) (g : Nat) (a b c d : Value) : Fr (fun j => j = g) w ((((w.setCell ⟨g, 0, none⟩ a).setCell ⟨g, 1, none⟩ b).setCell ⟨g, 2, none⟩ c).setCell ⟨g, 3, none⟩ d) :=
  ((((Fr.refl (fun j => j = g) w).setCell (p := ⟨g, 0, none⟩) (fun _ => rfl) _).setCell (p := ⟨g, 1, none⟩) (fun _ => rfl) _).setCell (p := ⟨g, 2, none⟩) (fun _ => rfl) _).setCell (p := ⟨g, 3, none⟩) (fun _ => rfl) _
theorem Whole.four {w : World} {g : Nat} {t : TypeId} {a b c d : Value} (h : Whole w g t #[a, b, c, d]) : w.cell? ⟨g, 0, none⟩ = some a ∧ w.cell? ⟨g, 1, none⟩ = some b ∧ w.cell? ⟨g, 2, none⟩ = some c ∧ w.cell? ⟨g, 3, none⟩ = some d :=
  ⟨by rw [h.cell]; rfl, by rw [h.cell]; rfl, by rw [h.cell]; rfl, by rw [h.cell]; rfl⟩
/-- What a call tells that takes an op. -/
def TkPost (w : World) (g : Nat) (v : Value) (bs : List UInt8) (r : DOp × Nat × Int) (e : Ending) (w' : World) : Prop :=
  ∃ A c, e = .returned (.tuple #[.agg #[.bool r.1.copy, .int .i64 r.1.frm, .int .i64 r.1.n, .slice A r.1.b.length c], .int .i64 r.2.2]) ∧ w'.ownsRow w.heap.size 5 1 (.slice A r.1.b.length c) r.1.b.length (bytesV r.1.b) ∧ (r.2.2 = 0 → Rd none w' g v bs r.2.1 0) ∧ RFr g w w'
set_option maxHeartbeats 3200000 in
set_option maxRecDepth 100000 in
theorem DtakeCopy_any (g : Nat) (v : Value) (bs : List UInt8) (p : Nat) (er base : Int) (w : World) (hb : 0 ≤ base ∧ base ≤ 4000) (h : Rd none w g v bs p er) :
    Calls Tryz.prog 118 #[.pointer (some ⟨g, 0, none⟩), .int .i64 base] w (TkPost w g v bs (tkC base (varO bs p er 4000) (varO bs (varO bs p er 4000).2.1 (varO bs p er 4000).2.2 4000))) := by
  unfold TkPost
  have HT1 := Lib.hid (fun w' (r : Rd none w' g v bs p er) => DtakeNum_any g v bs p er w' r)
  have hm1 := varO_most bs p er 4000 (by omega)
  unfold RPost at HT1
  obtain ⟨⟨F1, F2, F3⟩, hF⟩ : ∃ F, varO bs p er 4000 = F := ⟨_, rfl⟩
  rw [hF] at hm1 HT1 ⊢
  have HT2 := Lib.hid (fun w' (r : Rd none w' g v bs F2 F3) => DtakeNum_any g v bs F2 F3 w' r)
  have hm2 := varO_most bs F2 F3 4000 (by omega)
  unfold RPost at HT2
  simp only at hm1 HT1 ⊢
  obtain ⟨⟨N1, N2, N3⟩, hN⟩ : ∃ N, varO bs F2 F3 4000 = N := ⟨_, rfl⟩
  rw [hN] at hm2 HT2 ⊢
  simp only at hm2 HT2 ⊢
  obtain ⟨T, hT⟩ : ∃ T, tkC base (F1, F2, F3) (N1, N2, N3) = T := ⟨_, rfl⟩
  have HTk := Lib.hid (show T = if N3 ≠ 0 then (zD, N2, N3) else if N1 = 0 then (zD, N2, 12) else if (F1 : Int) ≤ base - N1 then (copyO F1 N1, N2, 0) else (zD, N2, 21) from hT.symm)
  rw [hT]
  clear hF hN hT
  obtain ⟨w1, hw1⟩ : ∃ w1, w.alloc (.cells #[.bool false, .int .i64 0, .int .i64 0, .slice none 0 0] 170) = w1 := ⟨_, rfl⟩
  have HF1 := Lib.hid (show Fr (fun _ => False) w w1 by subst hw1; exact (Fr.refl _ _).alloc _)
  have HW1 := Lib.hid (show Whole w1 w.heap.size 170 #[.bool false, .int .i64 0, .int .i64 0, .slice none 0 0] by subst hw1; exact Whole.new _ _ _)
  have HR1 := Lib.hid (h.fr HF1.out (fun e => e) (fun _ _ e => e))
  have HGl := Lib.hid (show g < w.heap.size from h.whole.lt)
  have HGo := Lib.hid (show ∀ k, v.ownBlock = some k → k < w.heap.size from fun k hk => (World.ownsRow.lt h.own k hk).2)
  have HGs := Lib.hid (show w1.heap.size = w.heap.size + 1 by subst hw1; simp)
  obtain ⟨hb0, hb1⟩ := hb
  clear h
  go_enter Tryz.func118, Tryz.ntmps118
  go_upto_region 2 with (first
    | (go_at_call 88; have _ := M2; refine (HT2.out w2 HR2.out).mono ?_; rintro e w3 ⟨rfl, r3, f3⟩; have HR3 := Lib.hid r3; have HF3 := Lib.hid (HF2.out.trans f3); clear r3 f3)
    | (go_at_call 88; refine (HT1.out w1 HR1.out).mono ?_; rintro e w2 ⟨rfl, r2, f2⟩; have HR2 := Lib.hid r2; have HF2 := Lib.hid f2; have M2 := True.intro; clear r2 f2))
  obtain ⟨w4, hw4⟩ : ∃ w4, w3.alloc (.cells #[.bool true, .int .i64 F1, .int .i64 N1, .slice none 0 0] 170) = w4 := ⟨_, rfl⟩
  rw [hw4]
  have HF34 := Lib.hid (show Fr (fun _ => False) w3 w4 by subst hw4; exact (Fr.refl _ _).alloc _)
  have HO4 := Lib.hid (show Whole w4 w3.heap.size 170 #[.bool true, .int .i64 F1, .int .i64 N1, .slice none 0 0] by subst hw4; exact Whole.new _ _ _)
  have HR4 := Lib.hid (HR3.out.fr HF34.out (fun e => e) (fun _ _ e => e))
  have HF4 := Lib.hid (show Fr (fun k => k = g) w1 w4 from Fr.trans HF3.out HF34.out (fun _ _ e => e.elim))
  have HW4 := Lib.hid (HW1.out.fr HF4.out (fun e => by have := HGl.out; omega))
  have HFe := Lib.hid (show RFr g w w4 from (HF1.out.mono (T := fun k => k = g) (fun _ _ e => e.elim)).trans HF4.out (fun _ _ e => e))
  obtain ⟨o0, o1, o2, o3⟩ := HO4.out.four
  clear hw4 hw1
  have HLi := Lib.hid (fun w' => Dlies_any true F1 N1 base ⟨by omega, by omega⟩ ⟨by omega, by omega⟩ ⟨hb0, by omega⟩ (.slice none 0 0) rfl w')
  have fin : ∀ (wr : World) (E : Int) (q : Nat), Whole wr w.heap.size 170 #[.bool false, .int .i64 0, .int .i64 0, .slice none 0 0] → RFr g w wr → T = (zD, q, E) → E ≠ 0 →
      ∃ A c, Ending.returned (.tuple #[.agg #[.bool false, .int .i64 0, .int .i64 0, .slice none 0 0], .int .i64 E]) = .returned (.tuple #[.agg #[.bool T.1.copy, .int .i64 T.1.frm, .int .i64 T.1.n, .slice A T.1.b.length c], .int .i64 T.2.2]) ∧ ((((wr.setCell ⟨w.heap.size, 0, none⟩ (.bool false)).setCell ⟨w.heap.size, 1, none⟩ (.int .i64 0)).setCell ⟨w.heap.size, 2, none⟩ (.int .i64 0)).setCell ⟨w.heap.size, 3, none⟩ (.slice none 0 0)).ownsRow w.heap.size 5 1 (.slice A T.1.b.length c) T.1.b.length (bytesV T.1.b) ∧ (T.2.2 = 0 → Rd none ((((wr.setCell ⟨w.heap.size, 0, none⟩ (.bool false)).setCell ⟨w.heap.size, 1, none⟩ (.int .i64 0)).setCell ⟨w.heap.size, 2, none⟩ (.int .i64 0)).setCell ⟨w.heap.size, 3, none⟩ (.slice none 0 0)) g v bs T.2.1 0) ∧ RFr g w ((((wr.setCell ⟨w.heap.size, 0, none⟩ (.bool false)).setCell ⟨w.heap.size, 1, none⟩ (.int .i64 0)).setCell ⟨w.heap.size, 2, none⟩ (.int .i64 0)).setCell ⟨w.heap.size, 3, none⟩ (.slice none 0 0)) := by
    intro wr E q hW hf hT hE
    subst hT
    exact ⟨none, 0, rfl, World.ownsRow_nil _ _ _ _, fun e => absurd e hE, Fr.trans hf (setOp_fr wr w.heap.size _ _ _ _) (fun i hi e => by omega)⟩
  have HFin := Lib.hid fin
  clear fin
  by_cases hN3 : N3 = 0
  · subst hN3
    by_cases hN1 : N1 = 0
    · subst hN1
      have HT12 := Lib.hid (show T = (zD, N2, 12) from by rw [HTk.out, if_neg (by simp), if_pos rfl])
      obtain ⟨e0, e1, e2, e3⟩ := HW4.out.four
      have z0 := HW4.out.frozen 0
      have z1 := HW4.out.frozen 1
      have z2 := HW4.out.frozen 2
      have z3 := HW4.out.frozen 3
      have HWr := HW4
      go_wp2_with (go_at_call 86; refine (RErr_any g v bs N2 0 _ HR4.out).mono ?_; rintro e wx ⟨rfl, rfl⟩)
      (
        refine bodyPost_ret (v := .tuple #[.agg #[.bool false, .int .i64 0, .int .i64 0, .slice none 0 0], .int .i64 12]) (results_cell_slot (p := 4) (u := 5) rfl _ _ _ _ _ _ rfl (setOp_whole HWr.out) Tryz.underlying170 rfl (by kernel_rfl)) rfl ?_)
      exact HFin.out w4 12 N2 HW4.out HFe.out HT12.out (by decide)
    · have hN10 : ((N1 : Int) == 0) = false := by simp; exact hN1
      have HN10 := Lib.hid hN1
      by_cases hli : (F1 : Int) ≤ base - N1
      · have hd : decide ((0 : Int) ≤ (F1 : Int) ∧ (F1 : Int) ≤ base - N1) = true := by simp; omega
        have HD := Lib.hid hd
        have HT0 := Lib.hid (show T = (copyO F1 N1, N2, 0) from by rw [HTk.out, if_neg (by simp), if_neg hN1, if_pos hli])
        clear hd hN1
        go_wp2_with (first
          | (go_at_call 86; refine (RErr_any g v bs N2 0 _ HR4.out).mono ?_; rintro e wx ⟨rfl, rfl⟩)
          | (go_at_call 142; refine (HLi.out w4).mono ?_; rintro e w5 ⟨rfl, b5⟩; simp only [HD.out]; have HF5 := Lib.hid (Fr.of_below (S := fun _ => False) b5); obtain ⟨p0, p1, p2, p3⟩ := (HO4.out.fr HF5.out (fun e => e)).four; have HWr := Lib.hid (HW4.out.fr HF5.out (fun e => e)); obtain ⟨e0, e1, e2, e3⟩ := HWr.out.four; have z0 := HWr.out.frozen 0; have z1 := HWr.out.frozen 1; have z2 := HWr.out.frozen 2; have z3 := HWr.out.frozen 3; clear b5))
        (
          refine bodyPost_ret (v := .tuple #[.agg #[.bool true, .int .i64 F1, .int .i64 N1, .slice none 0 0], .int .i64 0]) (results_cell_slot (p := 4) (u := 5) rfl _ _ _ _ _ _ rfl (setOp_whole HWr.out) Tryz.underlying170 rfl (by kernel_rfl)) rfl ?_)
        have hT0 := HT0.out
        subst hT0
        refine ⟨none, 0, rfl, World.ownsRow_nil _ _ _ _, fun _ => ?_, Fr.trans (Fr.trans HFe.out HF5.out (fun _ _ e => e.elim)) (setOp_fr w5 w.heap.size _ _ _ _) (fun i hi e => by omega)⟩
        exact (HR4.out.fr HF5.out (fun e => e) (fun _ _ e => e)).fr (setOp_fr w5 w.heap.size _ _ _ _) (fun e => by have := HGl.out; omega) (fun k hk e => by have := HGo.out k hk; omega)
      · have hd : decide ((0 : Int) ≤ (F1 : Int) ∧ (F1 : Int) ≤ base - N1) = false := by simp only [decide_eq_false_iff_not]; omega
        have HD := Lib.hid hd
        have HT0 := Lib.hid (show T = (zD, N2, 21) from by rw [HTk.out, if_neg (by simp), if_neg hN1, if_neg hli])
        clear hd hN1 hli
        go_wp2_with (first
          | (go_at_call 86; refine (RErr_any g v bs N2 0 _ HR4.out).mono ?_; rintro e wx ⟨rfl, rfl⟩)
          | (go_at_call 142; refine (HLi.out w4).mono ?_; rintro e w5 ⟨rfl, b5⟩; simp only [HD.out]; have HF5 := Lib.hid (Fr.of_below (S := fun _ => False) b5); have HWr := Lib.hid (HW4.out.fr HF5.out (fun e => e)); obtain ⟨e0, e1, e2, e3⟩ := HWr.out.four; have z0 := HWr.out.frozen 0; have z1 := HWr.out.frozen 1; have z2 := HWr.out.frozen 2; have z3 := HWr.out.frozen 3; clear b5))
        (
          refine bodyPost_ret (v := .tuple #[.agg #[.bool false, .int .i64 0, .int .i64 0, .slice none 0 0], .int .i64 21]) (results_cell_slot (p := 4) (u := 5) rfl _ _ _ _ _ _ rfl (setOp_whole HWr.out) Tryz.underlying170 rfl (by kernel_rfl)) rfl ?_)
        exact HFin.out w5 21 N2 HWr.out (Fr.trans HFe.out HF5.out (fun _ _ e => e.elim)) HT0.out (by decide)
  · have hN30 : (N3 != 0) = true := by simp; exact hN3
    have HT3 := Lib.hid (show T = (zD, N2, N3) from by rw [HTk.out, if_pos hN3])
    obtain ⟨e0, e1, e2, e3⟩ := HW4.out.four
    have z0 := HW4.out.frozen 0
    have z1 := HW4.out.frozen 1
    have z2 := HW4.out.frozen 2
    have z3 := HW4.out.frozen 3
    have HWr := HW4
    go_wp2_with (go_at_call 86; refine (RErr_any g v bs N2 N3 _ HR4.out).mono ?_; rintro e wx ⟨rfl, rfl⟩)
    (
      refine bodyPost_ret (v := .tuple #[.agg #[.bool false, .int .i64 0, .int .i64 0, .slice none 0 0], .int .i64 N3]) (results_cell_slot (p := 4) (u := 5) rfl _ _ _ _ _ _ rfl (setOp_whole HWr.out) Tryz.underlying170 rfl (by kernel_rfl)) rfl ?_)
    exact HFin.out w4 N3 N2 HW4.out HFe.out HT3.out hN3
set_option maxHeartbeats 3200000 in
set_option maxRecDepth 100000 in
theorem DtakeNew_any (g : Nat) (v : Value) (bs : List UInt8) (p : Nat) (er : Int) (w : World) (h : Rd none w g v bs p er) :
    Calls Tryz.prog 119 #[.pointer (some ⟨g, 0, none⟩)] w (TkPost w g v bs (tkN bs (varO bs p er 4000))) := by
  unfold TkPost
  have HT1 := Lib.hid (fun w' (r : Rd none w' g v bs p er) => DtakeNum_any g v bs p er w' r)
  have hm1 := varO_most bs p er 4000 (by omega)
  unfold RPost at HT1
  obtain ⟨⟨N1, N2, N3⟩, hN⟩ : ∃ N, varO bs p er 4000 = N := ⟨_, rfl⟩
  rw [hN] at hm1 HT1 ⊢
  simp only at hm1 HT1
  have HRw := Lib.hid (fun w' (r : Rd none w' g v bs N2 N3) => RRaw_any g v bs N2 N3 N1 w' r (by omega) (by omega))
  unfold RawPost at HRw
  obtain ⟨E, hE⟩ : ∃ E, rawErr bs.length N2 N3 N1 = E := ⟨_, rfl⟩
  obtain ⟨P, hP⟩ : ∃ P, rawAt bs.length N2 N3 N1 = P := ⟨_, rfl⟩
  obtain ⟨R, hR⟩ : ∃ R, rawB bs N2 N3 N1 = R := ⟨_, rfl⟩
  obtain ⟨K, hK⟩ : ∃ K, R.length = K := ⟨_, rfl⟩
  have HK := Lib.hid hK
  obtain ⟨T, hT⟩ : ∃ T, tkN bs (N1, N2, N3) = T := ⟨_, rfl⟩
  have HTk := Lib.hid (show T = if E ≠ 0 then (zD, 0, E) else if N1 = 0 then (zD, 0, 12) else (newO R, P, 0) from by rw [← hT, ← hE, ← hP, ← hR]; rfl)
  rw [hT]
  rw [hE, hP, hR] at HRw
  simp only [hK] at HRw
  clear hN hT hE hP hR hK
  obtain ⟨w1, hw1⟩ : ∃ w1, w.alloc (.cells #[.bool false, .int .i64 0, .int .i64 0, .slice none 0 0] 170) = w1 := ⟨_, rfl⟩
  have HF1 := Lib.hid (show Fr (fun _ => False) w w1 by subst hw1; exact (Fr.refl _ _).alloc _)
  have HW1 := Lib.hid (show Whole w1 w.heap.size 170 #[.bool false, .int .i64 0, .int .i64 0, .slice none 0 0] by subst hw1; exact Whole.new _ _ _)
  have HR1 := Lib.hid (h.fr HF1.out (fun e => e) (fun _ _ e => e))
  have HGl := Lib.hid (show g < w.heap.size from h.whole.lt)
  have HGo := Lib.hid (show ∀ k, v.ownBlock = some k → k < w.heap.size from fun k hk => (World.ownsRow.lt h.own k hk).2)
  have HGs := Lib.hid (show w1.heap.size = w.heap.size + 1 by subst hw1; simp)
  clear h
  go_enter Tryz.func119, Tryz.ntmps119
  go_upto_region 3 with (first
    | (go_at_call 88; refine (HT1.out w1 HR1.out).mono ?_; rintro e w2 ⟨rfl, r2, f2⟩; have HR2 := Lib.hid r2; have HF2 := Lib.hid f2; clear r2 f2)
    | (go_at_call 65; refine (HRw.out w2 HR2.out).mono ?_; rintro e w3 ⟨v3, rfl, o3, r3, f3⟩; have HR3 := Lib.hid r3; have HF3 := Lib.hid (HF2.out.trans f3); obtain ⟨A3, c3, hv3, -, -⟩ := own_slice o3; subst hv3; have HO3 := Lib.hid (own_down o3 (show w.heap.size ≤ w2.heap.size by have := HGs.out; have := HF2.out.size; omega)); have HOb := Lib.hid (show ∀ k, Value.ownBlock (.slice A3 K c3) = some k → w1.heap.size ≤ k from fun k hk => by have := (World.ownsRow.lt o3 k hk).1; have := HF2.out.size; omega); clear o3 r3 f3))
  obtain ⟨w4, hw4⟩ : ∃ w4, w3.alloc (.cells #[.bool false, .int .i64 0, .int .i64 0, .slice A3 K c3] 170) = w4 := ⟨_, rfl⟩
  rw [hw4]
  have HF34 := Lib.hid (show Fr (fun _ => False) w3 w4 by subst hw4; exact (Fr.refl _ _).alloc _)
  have HO4 := Lib.hid (show Whole w4 w3.heap.size 170 #[.bool false, .int .i64 0, .int .i64 0, .slice A3 K c3] by subst hw4; exact Whole.new _ _ _)
  have HR4 := Lib.hid (HR3.out.fr HF34.out (fun e => e) (fun _ _ e => e))
  have HF4 := Lib.hid (show Fr (fun k => k = g) w1 w4 from Fr.trans HF3.out HF34.out (fun _ _ e => e.elim))
  have HWr := Lib.hid (HW1.out.fr HF4.out (fun e => by have := HGl.out; omega))
  have HFe := Lib.hid (show RFr g w w4 from (HF1.out.mono (T := fun k => k = g) (fun _ _ e => e.elim)).trans HF4.out (fun _ _ e => e))
  have HRo := Lib.hid (own_fr HO3.out HF34.out (fun _ _ e => e))
  obtain ⟨o0, o1, o2, o3⟩ := HO4.out.four
  obtain ⟨e0, e1, e2, e3⟩ := HWr.out.four
  have z0 := HWr.out.frozen 0
  have z1 := HWr.out.frozen 1
  have z2 := HWr.out.frozen 2
  have z3 := HWr.out.frozen 3
  clear hw4 hw1
  by_cases hE : E = 0
  · subst hE
    by_cases hN1 : N1 = 0
    · subst hN1
      have HT12 := Lib.hid (show T = (zD, 0, 12) from by rw [HTk.out, if_neg (by simp), if_pos rfl])
      go_wp2_with (go_at_call 86; refine (RErr_any g v bs P 0 _ HR4.out).mono ?_; rintro e wx ⟨rfl, rfl⟩)
      (
        refine bodyPost_ret (v := .tuple #[.agg #[.bool false, .int .i64 0, .int .i64 0, .slice none 0 0], .int .i64 12]) (results_cell_slot (p := 2) (u := 3) rfl _ _ _ _ _ _ rfl (setOp_whole HWr.out) Tryz.underlying170 rfl (by kernel_rfl)) rfl ?_)
      have hT := HT12.out
      subst hT
      exact ⟨none, 0, rfl, World.ownsRow_nil _ _ _ _, fun e => absurd e (by decide), Fr.trans HFe.out (setOp_fr w4 w.heap.size _ _ _ _) (fun i hi e => by omega)⟩
    · have hN10 : ((N1 : Int) == 0) = false := by simp; exact hN1
      have HT0 := Lib.hid (show T = (newO R, P, 0) from by rw [HTk.out, if_neg (by simp), if_neg hN1])
      clear hN1
      go_wp2_with (go_at_call 86; refine (RErr_any g v bs P 0 _ HR4.out).mono ?_; rintro e wx ⟨rfl, rfl⟩)
      (
        refine bodyPost_ret (v := .tuple #[.agg #[.bool false, .int .i64 0, .int .i64 0, .slice A3 K c3], .int .i64 0]) (results_cell_slot (p := 2) (u := 3) rfl _ _ _ _ _ _ rfl (setOp_whole HWr.out) Tryz.underlying170 rfl (by kernel_rfl)) rfl ?_)
      have hT := HT0.out
      subst hT
      have hK := HK.out
      subst hK
      refine ⟨A3, c3, rfl, own_fr HRo.out (setOp_fr w4 w.heap.size _ _ _ _) (fun k hk e => by have := HOb.out k hk; have := HGs.out; omega), fun _ => ?_, Fr.trans HFe.out (setOp_fr w4 w.heap.size _ _ _ _) (fun i hi e => by omega)⟩
      exact HR4.out.fr (setOp_fr w4 w.heap.size _ _ _ _) (fun e => by have := HGl.out; omega) (fun k hk e => by have := HGo.out k hk; omega)
  · have hE0 : (E != 0) = true := by simp; exact hE
    have HT3 := Lib.hid (show T = (zD, 0, E) from by rw [HTk.out, if_pos hE])
    have HE := Lib.hid hE
    clear hE
    go_wp2_with (go_at_call 86; refine (RErr_any g v bs P E _ HR4.out).mono ?_; rintro e wx ⟨rfl, rfl⟩)
    (
      refine bodyPost_ret (v := .tuple #[.agg #[.bool false, .int .i64 0, .int .i64 0, .slice none 0 0], .int .i64 E]) (results_cell_slot (p := 2) (u := 3) rfl _ _ _ _ _ _ rfl (setOp_whole HWr.out) Tryz.underlying170 rfl (by kernel_rfl)) rfl ?_)
    have hT := HT3.out
    subst hT
    exact ⟨none, 0, rfl, World.ownsRow_nil _ _ _ _, fun e => absurd e HE.out, Fr.trans HFe.out (setOp_fr w4 w.heap.size _ _ _ _) (fun i hi e => by omega)⟩
set_option maxHeartbeats 3200000 in
set_option maxRecDepth 100000 in
/-- An op off the bytes (there is one more byte). -/
theorem DtakeOp_any (g : Nat) (v : Value) (bs : List UInt8) (p : Nat) (base : Int) (w : World) (hb : 0 ≤ base ∧ base ≤ 4000) (hp : p < bs.length) (h : Rd none w g v bs p 0) :
    Calls Tryz.prog 90 #[.pointer (some ⟨g, 0, none⟩), .int .i64 base] w (TkPost w g v bs (tkO bs base p)) := by
  unfold TkPost
  have HBy := Lib.hid (fun w' (r : Rd none w' g v bs p 0) => RByte_any g v bs p 0 w' r)
  unfold RPost at HBy
  have hst : stepAt bs.length p 0 1 = p + 1 := by unfold stepAt; rw [if_pos ⟨rfl, by omega⟩]
  have hbe : byteAt bs p 0 = bs.getD p 0 := by unfold byteAt; rw [if_pos rfl]
  rw [hst, hbe, hasErr_ok (by omega)] at HBy
  have HC := Lib.hid (fun w' (r : Rd none w' g v bs (p + 1) 0) => DtakeCopy_any g v bs (p + 1) 0 base w' hb r)
  have HN := Lib.hid (fun w' (r : Rd none w' g v bs (p + 1) 0) => DtakeNew_any g v bs (p + 1) 0 w' r)
  unfold TkPost at HC HN
  obtain ⟨TC, hTC⟩ : ∃ T, tkC base (varO bs (p + 1) 0 4000) (varO bs (varO bs (p + 1) 0 4000).2.1 (varO bs (p + 1) 0 4000).2.2 4000) = T := ⟨_, rfl⟩
  obtain ⟨TN, hTN⟩ : ∃ T, tkN bs (varO bs (p + 1) 0 4000) = T := ⟨_, rfl⟩
  obtain ⟨u, hu⟩ : ∃ u : Nat, (bs.getD p 0).toNat = u := ⟨_, rfl⟩
  obtain ⟨T, hT⟩ : ∃ T, tkO bs base p = T := ⟨_, rfl⟩
  have HT := Lib.hid (show T = if u = 1 then TC else if u = 0 then TN else (zD, p + 1, 19) from by rw [← hT, ← hTC, ← hTN, ← hu]; rfl)
  rw [hT]
  rw [hTC] at HC
  rw [hTN] at HN
  rw [hu] at HBy
  clear hTC hTN hT hu hst hbe
  obtain ⟨w1, hw1⟩ : ∃ w1, w.alloc (.cells #[.bool false, .int .i64 0, .int .i64 0, .slice none 0 0] 170) = w1 := ⟨_, rfl⟩
  have HF1 := Lib.hid (show Fr (fun _ => False) w w1 by subst hw1; exact (Fr.refl _ _).alloc _)
  have HW1 := Lib.hid (show Whole w1 w.heap.size 170 #[.bool false, .int .i64 0, .int .i64 0, .slice none 0 0] by subst hw1; exact Whole.new _ _ _)
  have HR1 := Lib.hid (h.fr HF1.out (fun e => e) (fun _ _ e => e))
  have HGl := Lib.hid (show g < w.heap.size from h.whole.lt)
  have HGo := Lib.hid (show ∀ k, v.ownBlock = some k → k < w.heap.size from fun k hk => (World.ownsRow.lt h.own k hk).2)
  have HGs := Lib.hid (show w1.heap.size = w.heap.size + 1 by subst hw1; simp)
  have HF1g := Lib.hid (show RFr g w w1 from HF1.out.mono (T := fun k => k = g) (fun _ _ e => e.elim))
  have HWw := Lib.hid (fun w' (f : RFr g w1 w') => HW1.out.fr (f : Fr (fun k => k = g) w1 w') (fun e => by have := HGl.out; omega))
  clear h
  by_cases h1 : u = 1
  · subst h1
    have hT := HT.out
    rw [if_pos rfl] at hT
    subst hT
    clear HT
    obtain ⟨⟨cp, f, n, b⟩, q, E⟩ := T
    obtain ⟨K, hK⟩ : ∃ K, b.length = K := ⟨_, rfl⟩
    simp only [hK] at HC ⊢
    clear hK
    go_enter Tryz.func90, Tryz.ntmps90
    go_wp2_with (first
      | (go_at_call 116; refine (HBy.out w1 HR1.out).mono ?_; rintro e w2 ⟨rfl, r2, f2⟩; have HR2 := Lib.hid r2; have HF2 := Lib.hid f2; clear r2 f2)
      | (go_at_call 118; refine (HC.out w2 HR2.out).mono ?_; rintro e w3 ⟨A3, c3, rfl, o3, r3, f3⟩; have HR3 := Lib.hid r3; have HF3 := Lib.hid (HF2.out.trans f3); have HO3 := Lib.hid (own_down o3 (show w.heap.size ≤ w2.heap.size by have := HGs.out; have := HF2.out.size; omega)); have HOb := Lib.hid (show ∀ k, Value.ownBlock (.slice A3 K c3) = some k → w1.heap.size ≤ k from fun k hk => by have := (World.ownsRow.lt o3 k hk).1; have := HF2.out.size; omega); have HWr := Lib.hid (HWw.out w3 HF3.out); obtain ⟨e0, e1, e2, e3⟩ := HWr.out.four; have z0 := HWr.out.frozen 0; have z1 := HWr.out.frozen 1; have z2 := HWr.out.frozen 2; have z3 := HWr.out.frozen 3; clear o3 r3 f3))
    (
      refine bodyPost_ret (v := .tuple #[.agg #[.bool cp, .int .i64 f, .int .i64 n, .slice A3 K c3], .int .i64 E]) (results_cell_slot (p := 4) (u := 5) rfl _ _ _ _ _ _ rfl (setOp_whole HWr.out) Tryz.underlying170 rfl (by kernel_rfl)) rfl ?_)
    refine ⟨A3, c3, rfl, own_fr HO3.out (setOp_fr w3 w.heap.size _ _ _ _) (fun k hk e => by have := HOb.out k hk; have := HGs.out; omega), fun e => ?_, Fr.trans (HF1g.out.trans HF3.out) (setOp_fr w3 w.heap.size _ _ _ _) (fun i hi e => by omega)⟩
    exact (HR3.out e).fr (setOp_fr w3 w.heap.size _ _ _ _) (fun e => by have := HGl.out; omega) (fun k hk e => by have := HGo.out k hk; omega)
  · have h1' : ((u : Int) == 1) = false := by simp; omega
    by_cases h0 : u = 0
    · subst h0
      have hT := HT.out
      rw [if_neg h1, if_pos rfl] at hT
      subst hT
      clear HT
      obtain ⟨⟨cp, f, n, b⟩, q, E⟩ := T
      obtain ⟨K, hK⟩ : ∃ K, b.length = K := ⟨_, rfl⟩
      simp only [hK] at HN ⊢
      clear hK h1
      go_enter Tryz.func90, Tryz.ntmps90
      go_wp2_with (first
        | (go_at_call 116; refine (HBy.out w1 HR1.out).mono ?_; rintro e w2 ⟨rfl, r2, f2⟩; have HR2 := Lib.hid r2; have HF2 := Lib.hid f2; clear r2 f2)
        | (go_at_call 119; refine (HN.out w2 HR2.out).mono ?_; rintro e w3 ⟨A3, c3, rfl, o3, r3, f3⟩; have HR3 := Lib.hid r3; have HF3 := Lib.hid (HF2.out.trans f3); have HO3 := Lib.hid (own_down o3 (show w.heap.size ≤ w2.heap.size by have := HGs.out; have := HF2.out.size; omega)); have HOb := Lib.hid (show ∀ k, Value.ownBlock (.slice A3 K c3) = some k → w1.heap.size ≤ k from fun k hk => by have := (World.ownsRow.lt o3 k hk).1; have := HF2.out.size; omega); have HWr := Lib.hid (HWw.out w3 HF3.out); obtain ⟨e0, e1, e2, e3⟩ := HWr.out.four; have z0 := HWr.out.frozen 0; have z1 := HWr.out.frozen 1; have z2 := HWr.out.frozen 2; have z3 := HWr.out.frozen 3; clear o3 r3 f3))
      (
        refine bodyPost_ret (v := .tuple #[.agg #[.bool cp, .int .i64 f, .int .i64 n, .slice A3 K c3], .int .i64 E]) (results_cell_slot (p := 4) (u := 5) rfl _ _ _ _ _ _ rfl (setOp_whole HWr.out) Tryz.underlying170 rfl (by kernel_rfl)) rfl ?_)
      refine ⟨A3, c3, rfl, own_fr HO3.out (setOp_fr w3 w.heap.size _ _ _ _) (fun k hk e => by have := HOb.out k hk; have := HGs.out; omega), fun e => ?_, Fr.trans (HF1g.out.trans HF3.out) (setOp_fr w3 w.heap.size _ _ _ _) (fun i hi e => by omega)⟩
      exact (HR3.out e).fr (setOp_fr w3 w.heap.size _ _ _ _) (fun e => by have := HGl.out; omega) (fun k hk e => by have := HGo.out k hk; omega)
    · have h0' : ((u : Int) == 0) = false := by simp; omega
      have hT := HT.out
      rw [if_neg h1, if_neg h0] at hT
      have HT9 := Lib.hid hT
      clear hT HT h0 h1
      go_enter Tryz.func90, Tryz.ntmps90
      go_wp2_with (go_at_call 116; refine (HBy.out w1 HR1.out).mono ?_; rintro e w2 ⟨rfl, r2, f2⟩; have HF2 := Lib.hid f2; have HWr := Lib.hid (HWw.out w2 HF2.out); obtain ⟨e0, e1, e2, e3⟩ := HWr.out.four; have z0 := HWr.out.frozen 0; have z1 := HWr.out.frozen 1; have z2 := HWr.out.frozen 2; have z3 := HWr.out.frozen 3; clear r2 f2)
      (
        refine bodyPost_ret (v := .tuple #[.agg #[.bool false, .int .i64 0, .int .i64 0, .slice none 0 0], .int .i64 19]) (results_cell_slot (p := 4) (u := 5) rfl _ _ _ _ _ _ rfl (setOp_whole HWr.out) Tryz.underlying170 rfl (by kernel_rfl)) rfl ?_)
      have hT := HT9.out
      subst hT
      exact ⟨none, 0, rfl, World.ownsRow_nil _ _ _ _, fun e => absurd e (by simp), Fr.trans (HF1g.out.trans HF2.out) (setOp_fr w2 w.heap.size _ _ _ _) (fun i hi e => by omega)⟩
end Go.Proofs.YtkaeoflgnnlbeaaGreatDoor
/- What is proved: what the walks of this seat need of layers below, merged out of the texts Dfc (of each just what is needed). Conditions: each theorem names its own. -/
/- What is proved: Read of the program. Conditions: the bytes are there. -/
namespace Go.Proofs.YtkaeoflgnnlbeaaGreatDoor
open Go.RowKit
set_option linter.unusedVariables false
theorem setScr_whole {w : World} {g : Nat} {t : TypeId} {a b c x0 x1 x2 : Value} (h : Whole w g t #[x0, x1, x2]) : Whole (((w.setCell ⟨g, 0, none⟩ a).setCell ⟨g, 1, none⟩ b).setCell ⟨g, 2, none⟩ c) g t #[a, b, c] := ((h.set 0 a).set 1 b).set 2 c
theorem setScr_fr (w : World) (g : Nat) (a b c : Value) : Fr (fun j => j = g) w (((w.setCell ⟨g, 0, none⟩ a).setCell ⟨g, 1, none⟩ b).setCell ⟨g, 2, none⟩ c) :=
  (((Fr.refl (fun j => j = g) w).setCell (p := ⟨g, 0, none⟩) (fun _ => rfl) _).setCell (p := ⟨g, 1, none⟩) (fun _ => rfl) _).setCell (p := ⟨g, 2, none⟩) (fun _ => rfl) _
theorem Whole.three {w : World} {g : Nat} {t : TypeId} {a b c : Value} (h : Whole w g t #[a, b, c]) : w.cell? ⟨g, 0, none⟩ = some a ∧ w.cell? ⟨g, 1, none⟩ = some b ∧ w.cell? ⟨g, 2, none⟩ = some c :=
  ⟨by rw [h.cell]; rfl, by rw [h.cell]; rfl, by rw [h.cell]; rfl⟩
theorem Scr.none (w : World) : Scr w none 0 [] := ⟨.inl rfl, by simp, Nat.le_refl _, by omega⟩
theorem laidFr {a : Nat} {w w' : World} {S : Nat → Prop} (f : Fr S w w') (hS : ∀ j, S j → a ≤ j) : Fr (fun j => a ≤ j) w w' := f.mono (fun j _ e => hS j e)
/-- What Read tells. -/
def ReadPost (w : World) (R : (Int × Int × List DOp) × Int) (e : Ending) (w' : World) : Prop :=
  ∃ A' c' ps, e = .returned (.tuple #[.agg #[.int .i64 R.1.1, .int .i64 R.1.2.1, .slice A' ps.length c'], .int .i64 R.2]) ∧ Scr w' A' c' ps ∧ opsO ps = R.1.2.2 ∧ Below w.heap.size w w'
set_option maxHeartbeats 12800000 in
set_option maxRecDepth 100000 in
theorem DRead_any (A : Option Addr) (c : Nat) (bs : List UInt8) (hbs : bs.length ≤ 140737488355328) (hc : bs.length ≤ c) (w : World) (h : Lies w A (bytesV bs)) :
    Calls Tryz.prog 58 #[.slice A bs.length c] w (ReadPost w (readR bs)) := by
  unfold ReadPost
  have HT1 := Lib.hid (fun g v w' (r : Rd none w' g v bs 0 0) => DtakeNum_any g v bs 0 0 w' r)
  have hm1 := varO_most bs 0 0 4000 (by omega)
  unfold RPost at HT1
  obtain ⟨⟨F1, F2, F3⟩, hF⟩ : ∃ F, varO bs 0 0 4000 = F := ⟨_, rfl⟩
  rw [hF] at hm1 HT1
  have HT2 := Lib.hid (fun g v w' (r : Rd none w' g v bs F2 F3) => DtakeNum_any g v bs F2 F3 w' r)
  have hm2 := varO_most bs F2 F3 4000 (by omega)
  unfold RPost at HT2
  simp only at hm1 HT1
  obtain ⟨⟨N1, N2, N3⟩, hN⟩ : ∃ N, varO bs F2 F3 4000 = N := ⟨_, rfl⟩
  rw [hN] at hm2 HT2
  simp only at hm2 HT2
  obtain ⟨R, hR⟩ : ∃ R, readR bs = R := ⟨_, rfl⟩
  have HR := Lib.hid (show R = readT bs (F1, F2, F3) (N1, N2, N3) from by rw [← hR]; unfold readR; rw [hF]; simp only; rw [hN])
  rw [hR]
  clear hF hN hR
  have HNw := Lib.hid (fun w' (l : Lies w' A (bytesV bs)) => NewReader_any A c bs w' l hbs)
  obtain ⟨L, hL⟩ : ∃ L, bs.length = L := ⟨_, rfl⟩
  have HL := Lib.hid hL
  rw [hL] at hbs hc HNw ⊢
  clear hL
  obtain ⟨w1, hw1⟩ : ∃ w1, w.alloc (.cells #[.int .i64 0, .int .i64 0, .slice none 0 0] 130) = w1 := ⟨_, rfl⟩
  have HF1 := Lib.hid (show Fr (fun _ => False) w w1 by subst hw1; exact (Fr.refl _ _).alloc _)
  have HW1 := Lib.hid (show Whole w1 w.heap.size 130 #[.int .i64 0, .int .i64 0, .slice none 0 0] by subst hw1; exact Whole.new _ _ _)
  have HS1 := Lib.hid (show w1.heap.size = w.heap.size + 1 by subst hw1; simp)
  have HLi := Lib.hid (h.fr HF1.out (fun _ _ e => e))
  obtain ⟨i1, gi, gz0, gz1, gz2⟩ := info_parts infoDO
  clear h
  go_enter Tryz.func58, Tryz.ntmps58
  go_upto_region 3 with (first
    | (go_at_call 64; refine (HNw.out w1 HLi.out).mono ?_; rintro e w2 ⟨g, v, rfl, g1, o1, r2, b2⟩; have HG := Lib.hid (And.intro g1 o1); have HR2 := Lib.hid r2; have HB2 := Lib.hid b2; clear g1 o1 r2 b2)
    | (go_at_call 88; have _ := M2; refine (HT2.out g v w3 HR3.out).mono ?_; rintro e w4 ⟨rfl, r4, f4⟩; have HR4 := Lib.hid r4; have HF4 := Lib.hid (HF3.out.trans f4); clear r4 f4)
    | (go_at_call 88; refine (HT1.out g v w2 HR2.out).mono ?_; rintro e w3 ⟨rfl, r3, f3⟩; have HR3 := Lib.hid r3; have HF3 := Lib.hid f3; have M2 := True.intro; clear r3 f3))
  obtain ⟨w5, hw5⟩ : ∃ w5, w4.alloc (.cells #[.int .i64 F1, .int .i64 N1, .slice none 0 0] 130) = w5 := ⟨_, rfl⟩
  rw [hw5]
  have HF45 := Lib.hid (show Fr (fun _ => False) w4 w5 by subst hw5; exact (Fr.refl _ _).alloc _)
  have HW5 := Lib.hid (show Whole w5 w4.heap.size 130 #[.int .i64 F1, .int .i64 N1, .slice none 0 0] by subst hw5; exact Whole.new _ _ _)
  have HS5 := Lib.hid (show w5.heap.size = w4.heap.size + 1 by subst hw5; simp)
  have HR5 := Lib.hid (HR4.out.fr HF45.out (fun e => e) (fun _ _ e => e))
  have HF25 := Lib.hid (show Fr (fun k => k = g) w2 w5 from Fr.trans HF4.out HF45.out (fun _ _ e => e.elim))
  have HSz := Lib.hid (show w1.heap.size ≤ w2.heap.size ∧ w2.heap.size ≤ w4.heap.size ∧ g < w2.heap.size ∧ ∀ k, v.ownBlock = some k → k < w2.heap.size from ⟨HB2.out.size, Fr.size HF4.out, HR2.out.whole.lt, fun k hk => (World.ownsRow.lt HR2.out.own k hk).2⟩)
  have HFe := Lib.hid (show Fr (fun j => w.heap.size ≤ j) w w5 from ((laidFr HF1.out (fun _ e => e.elim)).trans (Fr.of_below (S := fun _ => False) HB2.out) (fun _ _ e => e.elim)).trans HF25.out (fun i hi e => by have := HG.out.1; have := HS1.out; omega))
  have HWr := Lib.hid ((HW1.out.fr (Fr.of_below (S := fun _ => False) HB2.out) (fun e => e)).fr HF25.out (fun e => by have := HG.out.1; have := HS1.out; omega))
  clear hw5 hw1
  have HFin := Lib.hid (fun (wr : World) (E : Int) (hf : Fr (fun j => w.heap.size ≤ j) w wr) (hT : R = ((0, 0, []), E)) => (by
    subst hT
    exact ⟨none, 0, [], rfl, Scr.none _, rfl, (hf.trans (setScr_fr wr w.heap.size _ _ _) (fun i hi e => by omega)).below (fun i hi e => by omega)⟩ : ∃ A' c' ps, Ending.returned (.tuple #[.agg #[.int .i64 0, .int .i64 0, .slice none 0 0], .int .i64 E]) = .returned (.tuple #[.agg #[.int .i64 R.1.1, .int .i64 R.1.2.1, .slice A' ps.length c'], .int .i64 R.2]) ∧ Scr (((wr.setCell ⟨w.heap.size, 0, none⟩ (.int .i64 0)).setCell ⟨w.heap.size, 1, none⟩ (.int .i64 0)).setCell ⟨w.heap.size, 2, none⟩ (.slice none 0 0)) A' c' ps ∧ opsO ps = R.1.2.2 ∧ Below w.heap.size w (((wr.setCell ⟨w.heap.size, 0, none⟩ (.int .i64 0)).setCell ⟨w.heap.size, 1, none⟩ (.int .i64 0)).setCell ⟨w.heap.size, 2, none⟩ (.slice none 0 0))))
  by_cases hN3 : N3 = 0
  · subst hN3
    obtain ⟨D, hD⟩ : ∃ D, restD bs F1 N2 N1 [] = D := ⟨_, rfl⟩
    have HRD := Lib.hid (show R = (if D.2 = 0 then (((F1 : Int), (N1 : Int), D.1), 0) else ((0, 0, []), D.2)) from by rw [HR.out, ← hD]; unfold readT; rw [if_neg (by simp)])
    have HD := Lib.hid hD
    clear hD
    obtain ⟨d0, d1, d2⟩ := HW5.out.three
    go_wp2_with (go_at_call 86; refine (RErr_any g v bs N2 0 _ HR5.out).mono ?_; rintro e wx ⟨rfl, rfl⟩)
    go_loopw [7] (fun i wr => ∃ (p : Nat) (v5 : Value) (qs : List POp) (left : Int), i = .int .i64 left ∧ 0 ≤ left ∧ qs.length + left ≤ N1 ∧ Hid (Rd none wr g v bs p 0) ∧ Hid (Whole wr w4.heap.size 130 #[.int .i64 F1, .int .i64 N1, v5]) ∧ Hid (Ml w5 wr v5 qs) ∧ Hid (restD bs F1 p left (opsO qs) = D) ∧ Hid (Fr (fun k => k = g ∨ k = w4.heap.size ∨ w5.heap.size ≤ k) w5 wr)) (fun i _ => (intOf i).toNat)
    case atStart => exact ⟨N2, .slice none 0 0, [], N1, rfl, by omega, by simp, HR5, HW5, Lib.hid (Ml.nil w5), HD, Lib.hid (Fr.refl _ _)⟩
    case round =>
      obtain ⟨p, v5, qs, left, rfl, hl0, hl1, HRr, HW, HM, HX, HF⟩ := hrel
      have hpl : p ≤ L := by have := HRr.out.le; have := HL.out; omega
      have HFw := Lib.hid (show Fr (fun j => w.heap.size ≤ j) w wr from HFe.out.trans HF.out (fun i hi e => by have := HG.out.1; have := HS1.out; have := HSz.out; have := HS5.out; omega))
      have HWq := Lib.hid (HWr.out.fr HF.out (fun e => by have := HG.out.1; have := HS1.out; have := HSz.out; have := HS5.out; omega))
      have HLf := Lib.hid (RLeft_any g v bs p 0 wr HRr.out)
      unfold QuietPost at HLf
      rw [HL.out] at HLf
      obtain ⟨Av, cv, hv, -⟩ := Ml.slice HM.out
      subst hv
      obtain ⟨LQ, hLQ⟩ : ∃ LQ, qs.length = LQ := ⟨_, rfl⟩
      have HLQ := Lib.hid hLQ
      rw [hLQ] at HW HM hl1
      clear hLQ
      by_cases hlt : p < L
      · have hk2 : (0 : Int) < (L : Int) - p := by omega
        have HTk := Lib.hid (fun w' (r : Rd none w' g v bs p 0) => DtakeOp_any g v bs p F1 w' ⟨by omega, by omega⟩ (by rw [HL.out]; exact hlt) r)
        unfold TkPost at HTk
        have hok := tkO_ok (bs := bs) (base := F1) (p := p)
        have hX := HX.out
        rw [restD_more (by rw [HL.out]; exact hlt)] at hX
        obtain ⟨⟨⟨cp, f, n, b⟩, q, E⟩, hT⟩ : ∃ T, tkO bs F1 p = T := ⟨_, rfl⟩
        rw [hT] at HTk hok hX
        obtain ⟨K, hK⟩ : ∃ K, b.length = K := ⟨_, rfl⟩
        have HK := Lib.hid hK
        simp only [hK] at HTk hok hX
        obtain ⟨SZ, hSZ⟩ : ∃ SZ, DOp.size ⟨cp, f, n, b⟩ = SZ := ⟨_, rfl⟩
        rw [hSZ] at hX
        have HLd := Lib.hid (fun A c w => Dlaid_any ⟨cp, f, n, b⟩ A c w)
        unfold Ans at HLd
        simp only [hSZ, hK] at HLd
        have HXX := Lib.hid hX
        have HOk := Lib.hid hok
        have HSZ := Lib.hid hSZ
        clear hok hX hT hK hSZ HX
        go_upto_region 9 with (first
          | (go_at_call 89; refine HLf.out.mono ?_; rintro e wq ⟨rfl, nq, hwq⟩; have HFq := Lib.hid (show Fr (fun _ => False) wr wq from by rw [hwq]; exact (Fr.refl _ wr).drewN nq); have HRq := Lib.hid (HRr.out.fr HFq.out (fun e => e) (fun _ _ e => e)); have HWs := Lib.hid (HW.out.fr HFq.out (fun e => e)); obtain ⟨s0, s1, s2⟩ := HWs.out.three; clear hwq)
          | (go_at_call 90; refine (HTk.out wq HRq.out).mono ?_; rintro e w6 ⟨A6, c6, rfl, o6, r6, f6⟩; have HO6 := Lib.hid o6; have HR6 := Lib.hid r6; have HF6 := Lib.hid (show Fr (fun k => k = g) wr w6 from Fr.trans (HFq.out.mono (T := fun k => k = g) (fun _ _ e => e.elim)) f6 (fun _ _ e => e)); have HQs := Lib.hid (show wr.heap.size ≤ wq.heap.size from HFq.out.size); have HO6b := Lib.hid (show ∀ k, Value.ownBlock (.slice A6 K c6) = some k → wr.heap.size ≤ k ∧ k < w6.heap.size from fun k hk => by have h1 := World.ownsRow.lt o6 k hk; have h2 := HQs.out; omega); clear o6 r6 f6 s0 s1 s2))
        obtain ⟨w7, hw7⟩ : ∃ w7, w6.alloc (.cells #[.bool cp, .int .i64 f, .int .i64 n, .slice A6 K c6] 170) = w7 := ⟨_, rfl⟩
        rw [hw7]
        have HF67 := Lib.hid (show Fr (fun _ => False) w6 w7 by subst hw7; exact (Fr.refl _ _).alloc _)
        have HO7 := Lib.hid (show Whole w7 w6.heap.size 170 #[.bool cp, .int .i64 f, .int .i64 n, .slice A6 K c6] by subst hw7; exact Whole.new _ _ _)
        have HFr7 := Lib.hid (show Fr (fun k => k = g) wr w7 from Fr.trans HF6.out HF67.out (fun _ _ e => e.elim))
        have HWq7 := Lib.hid (HWq.out.fr HFr7.out (fun e => by have := HG.out.1; have := HS1.out; omega))
        have HFw7 := Lib.hid (HFw.out.trans HFr7.out (fun i hi e => by have := HG.out.1; have := HS1.out; omega))
        clear hw7
        by_cases hE : E = 0
        · subst hE
          obtain ⟨hri, hpq, hf0, hf1, hn0, hn1, hb1⟩ := HOk.out rfl
          have hpos := hri.pos
          rw [HSZ.out] at hpos
          have hsz4 : SZ ≤ 4000 := by rw [← HSZ.out]; unfold DOp.size; have := HK.out; split <;> (simp only; omega)
          obtain ⟨t0, t1, t2, t3⟩ := HO7.out.four
          have HIf := Lib.hid (show (if left < SZ then (([] : List DOp), (3 : Int)) else restD bs F1 q (left - SZ) (opsO qs ++ [⟨cp, f, n, b⟩])) = D from by have := HXX.out; rwa [if_neg (by simp)] at this)
          clear HXX HOk
          by_cases hls : left < SZ
          · have HD3 := Lib.hid (show R = ((0, 0, []), 3) from by rw [HRD.out, ← HIf.out, if_pos hls, if_neg (by simp)])
            go_wp2_with (go_at_call 91; refine (HLd.out A6 c6 w7).mono ?_; rintro e w8 ⟨rfl, b8⟩; have HF8 := Lib.hid (Fr.of_below (S := fun _ => False) b8); have HWr8 := Lib.hid (HWq7.out.fr HF8.out (fun e => e)); have HFw8 := Lib.hid (HFw7.out.trans HF8.out (fun _ _ e => e.elim)); obtain ⟨e0, e1, e2⟩ := HWr8.out.three; have z0 := HWr8.out.frozen 0; have z1 := HWr8.out.frozen 1; have z2 := HWr8.out.frozen 2; clear b8)
            have HWr := HWr8
            (
              refine bodyPost_ret (v := .tuple #[.agg #[.int .i64 0, .int .i64 0, .slice none 0 0], .int .i64 3]) (results_cell_slot (p := 2) (u := 3) rfl _ _ _ _ _ _ rfl (setScr_whole HWr.out) Tryz.underlying130 rfl (by kernel_rfl)) rfl ?_)
            exact HFin.out w8 3 HFw8.out HD3.out
          · have HI2 := Lib.hid (show restD bs F1 q (left - SZ) (opsO qs ++ [⟨cp, f, n, b⟩]) = D from by rw [← HIf.out, if_neg hls])
            have HOw7 := Lib.hid (show Fr (fun j => Value.ownBlock (.slice Av LQ cv) = some j ∨ j = g) wr w7 from HFr7.out.mono (fun j _ e => .inr e))
            have HGo := Lib.hid (show g < w5.heap.size ∧ g ≠ w4.heap.size from by have := HSz.out; have := HS5.out; omega)
            have HW7 := Lib.hid (HW.out.fr HFr7.out (fun e => by have := HGo.out; omega))
            have HM7 := Lib.hid (HM.out.frS HFr7.out (fun j e => by have := HGo.out; omega))
            have HP7 := Lib.hid (show (⟨⟨cp, f, n, b⟩, A6, c6⟩ : POp).Ok w7 from by
              obtain ⟨a1, a2, ha, hk1, hk2⟩ := own_slice HO6.out
              injection ha with _ e2 e3
              subst e3
              refine ⟨⟨by simp only; omega, by simp only; omega⟩, ⟨by simp only; omega, by simp only; omega⟩, by simp only [HK.out]; exact hk1, by unfold maxLen at hk2; simp only; omega, ?_⟩
              exact (Lies.of_own HO6.out).fr HF67.out (fun _ _ e => e))
            have HPo := Lib.hid (show ∀ ad, A6 = some ad → ad.block < w7.heap.size ∧ Value.ownBlock (.slice Av LQ cv) ≠ some ad.block ∧ w5.heap.size ≤ ad.block from fun ad hA => by
              have h1 := HO6b.out ad.block (by rw [hA]; rfl)
              have h2 := HF67.out.size
              have h3 := HF.out.size
              refine ⟨by omega, fun e => ?_, by omega⟩
              have := (World.ownsRow.lt HM.out.own _ e).2
              omega)
            have HSrc : Hid (∀ w : World, Src Tryz.prog 4 128 (.slice (some ⟨w.heap.size, 0, none⟩) 1 1) 1 [.bool cp, .int .i64 f, .int .i64 n, .slice A6 K c6] (w.alloc (.cells #[.bool cp, .int .i64 f, .int .i64 n, .slice A6 K c6] 170))) := Lib.hid (fun w => by
              have := src_op w 128 170 Tryz.underlying128 ⟨⟨cp, f, n, b⟩, A6, c6⟩
              simpa only [POp.cells, HK.out] using this)
            have hLQ4 : LQ ≤ 4000 := by omega
            have hw : IntKind.i64.wrap (left - SZ) = left - SZ := by rw [IntKind.wrap_i64]; omega
            obtain ⟨xp, hxp⟩ : ∃ xp, flatP qs = xp := ⟨_, rfl⟩
            have HXp := Lib.hid hxp
            clear hxp
            go_wp2_with (first
              | (go_at_call 91; have _ := M8; refine (HLd.out A6 c6 w8).mono ?_; rintro e w9 ⟨rfl, b9⟩; have HF9 := Lib.hid (HF8.out.trans (Fr.of_below (S := fun _ => False) b9) (fun _ _ e => e)); obtain ⟨t0, t1, t2, t3⟩ := (HO7.out.fr HF9.out (fun e => e)).four; have HW9 := Lib.hid (HW7.out.fr HF9.out (fun e => e)); obtain ⟨s0, s1, s2⟩ := HW9.out.three; have HM9 := Lib.hid (HM7.out.fr HF9.out); have HMo9 := Lib.hid (show w9.ownsRow w5.heap.size 170 4 (.slice Av LQ cv) LQ xp from by have := HM9.out.own; rwa [HLQ.out, HXp.out] at this); clear b9)
              | (go_at_call 91; refine (HLd.out A6 c6 w7).mono ?_; rintro e w8 ⟨rfl, b8⟩; have HF8 := Lib.hid (Fr.of_below (S := fun _ => False) b8); have M8 := True.intro; obtain ⟨t0, t1, t2, t3⟩ := (HO7.out.fr HF8.out (fun e => e)).four; clear b8)
              | (at_builtin; refine wpList_append_row _ rfl (.tmp 49) (.tmp 51) 128 128 rfl w5.heap.size 170 i1 (.agg zeroO) 4 48 Tryz.underlying128 gi gz0 gz1 gz2 rfl _ LQ xp rfl (HMo9.out.alloc _) _ 1 _ rfl (HSrc.out _) (by unfold maxLen; omega) (by omega) (by have := HF.out.size; have := Fr.size HFr7.out; have := HF9.out.size; simp; omega) ?_
                 intro v10 w10 o10 g10 at10
                 have HO10 := Lib.hid o10
                 have HF10 := Lib.hid (show Fr (fun j => Value.ownBlock (.slice Av LQ cv) = some j) w9 w10 from ((Fr.refl _ w9).alloc _).grown g10 (fun j hj _ => hj))
                 have HA10 := Lib.hid (show v10.ownBlock = Value.ownBlock (.slice Av LQ cv) ∨ ∃ j, v10.ownBlock = some j ∧ w9.heap.size ≤ j from at10.imp id (fun e => ⟨_, e, by simp⟩))
                 obtain ⟨A10, k10, hv10, _, _⟩ := own_slice o10
                 subst hv10
                 have HW10 := Lib.hid (HW9.out.fr HF10.out (fun e => by have := (World.ownsRow.lt HMo9.out _ e).1; have := HS5.out; omega))
                 have e10 : w10.cell? ⟨w4.heap.size, 2, none⟩ = some (.slice Av LQ cv) := by rw [HW10.out.cell]; rfl
                 have z10 : w10.frozen? ⟨w4.heap.size, 2, none⟩ = false := HW10.out.frozen 2
                 clear o10 g10 at10))
            go_roundw
            case rel =>
              have fset : Fr (fun j => j = w4.heap.size) w10 (w10.setCell ⟨w4.heap.size, 2, none⟩ (.slice A10 (LQ + 1) k10)) := Fr.setCell (S := fun j => j = w4.heap.size) (p := ⟨w4.heap.size, 2, none⟩) (Fr.refl _ w10) (fun _ => rfl) _
              have hM10 : Ml w5 w10 (.slice A10 (LQ + 1) k10) (qs ++ [⟨⟨cp, f, n, b⟩, A6, c6⟩]) := by
                refine Ml.push HM9.out (HP7.out.fr HF9.out) (fun ad hA => ?_) (by rw [HLQ.out, HXp.out]; simpa only [POp.cells, HK.out] using HO10.out) HF10.out HA10.out
                obtain ⟨h1, h2, h3⟩ := HPo.out ad hA
                exact ⟨Nat.lt_of_lt_of_le h1 HF9.out.size, h2, h3⟩
              have f710 : Fr (fun j => Value.ownBlock (.slice Av LQ cv) = some j) w7 w10 := (HF9.out.mono (T := fun j => Value.ownBlock (.slice Av LQ cv) = some j) (fun _ _ e => e.elim)).trans HF10.out (fun i hi e => e)
              have hRd : Rd none w10 g v bs q 0 := ((HR6.out trivial).fr HF67.out (fun e => e) (fun _ _ e => e)).fr f710 (fun e => by have := (World.ownsRow.lt HMo9.out _ e).1; have := HGo.out; omega) (fun k hk e => by have := (World.ownsRow.lt HMo9.out _ e).1; have := HSz.out.2.2.2 k hk; have := HSz.out; have := HS5.out; omega)
              refine ⟨q, _, qs ++ [⟨⟨cp, f, n, b⟩, A6, c6⟩], left - SZ, rfl, by omega, ?_, Lib.hid (hRd.fr fset (fun e => by have := HGo.out; omega) (fun k hk e => by have := HSz.out.2.2.2 k hk; have := HSz.out; omega)), Lib.hid (HW10.out.set 2 _), Lib.hid (hM10.frS fset (fun j e => by have := HS5.out; omega)), Lib.hid (by rw [opsO_append]; exact HI2.out), Lib.hid ?_⟩
              · rw [List.length_append, HLQ.out]; simp; omega
              · refine ((HF.out.trans HFr7.out (fun i hi e => .inl e)).trans f710 (fun i hi e => ?_)).trans fset (fun i hi e => .inr (.inl e))
                exact .inr (.inr (World.ownsRow.lt HMo9.out _ e).1)
            case measure => simp [intOf]; omega
        · have hE0 : (E != 0) = true := by simp; exact hE
          have HDE := Lib.hid (show R = ((0, 0, []), E) from by
            have h1 := HXX.out
            rw [if_pos hE] at h1
            rw [HRD.out, ← h1, if_neg hE])
          have HE := Lib.hid hE
          (
            obtain ⟨e0, e1, e2⟩ := HWq7.out.three
            have z0 := HWq7.out.frozen 0
            have z1 := HWq7.out.frozen 1
            have z2 := HWq7.out.frozen 2)
          clear hE
          go_wp2_with fail
          have HWr := HWq7
          (
            refine bodyPost_ret (v := .tuple #[.agg #[.int .i64 0, .int .i64 0, .slice none 0 0], .int .i64 E]) (results_cell_slot (p := 2) (u := 3) rfl _ _ _ _ _ _ rfl (setScr_whole HWr.out) Tryz.underlying130 rfl (by kernel_rfl)) rfl ?_)
          exact HFin.out w7 E HFw7.out HDE.out
      · obtain rfl : L = p := by omega
        have hX := HX.out
        rw [restD_end (by rw [HL.out]; omega)] at hX
        have HDl := Lib.hid hX
        clear hX HX
        by_cases hl : 0 < left
        · have HD10 := Lib.hid (show R = ((0, 0, []), 10) from by rw [HRD.out, ← HDl.out, if_pos hl, if_neg (by simp)])
          go_wp2_with (go_at_call 89; refine HLf.out.mono ?_; rintro e wq ⟨rfl, nq, hwq⟩; have HFq := Lib.hid (show Fr (fun _ => False) wr wq from by rw [hwq]; exact (Fr.refl _ wr).drewN nq); have HWr8 := Lib.hid (HWq.out.fr HFq.out (fun e => e)); obtain ⟨e0, e1, e2⟩ := HWr8.out.three; have z0 := HWr8.out.frozen 0; have z1 := HWr8.out.frozen 1; have z2 := HWr8.out.frozen 2; have HFw8 := Lib.hid (HFw.out.trans HFq.out (fun _ _ e => e.elim)); clear hwq)
          have HWr := HWr8
          (
            refine bodyPost_ret (v := .tuple #[.agg #[.int .i64 0, .int .i64 0, .slice none 0 0], .int .i64 10]) (results_cell_slot (p := 2) (u := 3) rfl _ _ _ _ _ _ rfl (setScr_whole HWr.out) Tryz.underlying130 rfl (by kernel_rfl)) rfl ?_)
          exact HFin.out wq 10 HFw8.out HD10.out
        · have HD0 := Lib.hid (show R = (((F1 : Int), (N1 : Int), opsO qs), 0) from by rw [HRD.out, ← HDl.out, if_neg hl, if_pos rfl])
          go_wp2_with (go_at_call 89; refine HLf.out.mono ?_; rintro e wq ⟨rfl, nq, hwq⟩; have HFq := Lib.hid (show Fr (fun _ => False) wr wq from by rw [hwq]; exact (Fr.refl _ wr).drewN nq); have HWr8 := Lib.hid (HWq.out.fr HFq.out (fun e => e)); obtain ⟨e0, e1, e2⟩ := HWr8.out.three; have z0 := HWr8.out.frozen 0; have z1 := HWr8.out.frozen 1; have z2 := HWr8.out.frozen 2; have HFw8 := Lib.hid (HFw.out.trans HFq.out (fun _ _ e => e.elim)); have HWs := Lib.hid (HW.out.fr HFq.out (fun e => e)); obtain ⟨s0, s1, s2⟩ := HWs.out.three; have HMq := Lib.hid (HM.out.fr HFq.out); clear hwq)
          have HWr := HWr8
          (
            refine bodyPost_ret (v := .tuple #[.agg #[.int .i64 F1, .int .i64 N1, .slice Av LQ cv], .int .i64 0]) (results_cell_slot (p := 2) (u := 3) rfl _ _ _ _ _ _ rfl (setScr_whole HWr.out) Tryz.underlying130 rfl (by kernel_rfl)) rfl ?_)
          have hD := HD0.out
          subst hD
          obtain ⟨A9, c9, hv9, sc9, -⟩ := (HMq.out.frS (setScr_fr wq w.heap.size (.int .i64 F1) (.int .i64 N1) (.slice Av LQ cv)) (fun j e => by have := HSz.out; have := HS5.out; have := HS1.out; omega)).slice
          injection hv9 with e1 e2 e3
          subst e1; subst e3
          refine ⟨Av, cv, qs, by rw [HLQ.out], sc9, rfl, (HFw8.out.trans (setScr_fr wq w.heap.size _ _ _) (fun i hi e => by omega)).below (fun i hi e => by omega)⟩
  · have hN30 : (N3 != 0) = true := by simp; exact hN3
    (
      obtain ⟨e0, e1, e2⟩ := HWr.out.three
      have z0 := HWr.out.frozen 0
      have z1 := HWr.out.frozen 1
      have z2 := HWr.out.frozen 2)
    go_wp2_with (go_at_call 86; refine (RErr_any g v bs N2 N3 _ HR5.out).mono ?_; rintro e wx ⟨rfl, rfl⟩)
    (
      refine bodyPost_ret (v := .tuple #[.agg #[.int .i64 0, .int .i64 0, .slice none 0 0], .int .i64 N3]) (results_cell_slot (p := 2) (u := 3) rfl _ _ _ _ _ _ rfl (setScr_whole HWr.out) Tryz.underlying130 rfl (by kernel_rfl)) rfl ?_)
    exact HFin.out w5 N3 HFe.out (by rw [HR.out]; unfold readT; rw [if_pos hN3])
end Go.Proofs.YtkaeoflgnnlbeaaGreatDoor

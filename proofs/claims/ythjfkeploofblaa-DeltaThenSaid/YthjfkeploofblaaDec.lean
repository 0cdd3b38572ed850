/- What is proved: whether a script may be, by the program and by the document. Conditions: the ops' cells are there. -/
import Derived.Test.YthjfkeploofblaaDeb
namespace Go.Proofs.Ythjfkeploofblaa
open Go.RowKit
set_option linter.unusedVariables false

/-- A script's block. -/
structure SAt (w : World) (g : Nat) (t : TypeId) (b tt : Int) (v : Value) : Prop where
  whole : Whole w g t #[.int .i64 b, .int .i64 tt, v]
theorem SAt.new (w : World) (t : TypeId) (b tt : Int) (v : Value) : SAt (w.alloc (.cells #[.int .i64 b, .int .i64 tt, v] t)) w.heap.size t b tt v := ⟨Whole.new _ _ _⟩
theorem SAt.fr {w w' : World} {g : Nat} {t : TypeId} {b tt : Int} {v : Value} (h : SAt w g t b tt v) (f : Fr (fun _ => False) w w') : SAt w' g t b tt v := ⟨h.whole.fr f (fun e => e)⟩
theorem SAt.cells {w : World} {g : Nat} {t : TypeId} {b tt : Int} {v : Value} (h : SAt w g t b tt v) : w.cell? ⟨g, 0, none⟩ = some (.int .i64 b) ∧ w.cell? ⟨g, 1, none⟩ = some (.int .i64 tt) ∧ w.cell? ⟨g, 2, none⟩ = some v :=
  ⟨by rw [h.whole.cell]; rfl, by rw [h.whole.cell]; rfl, by rw [h.whole.cell]; rfl⟩

set_option maxHeartbeats 3200000 in
theorem DCheck_any (b t : Int) (A : Option Addr) (c : Nat) (ps : List POp) (w : World) (h : Scr w A c ps) :
    Calls Try.prog 14 #[.agg #[.int .i64 b, .int .i64 t, .slice A ps.length c]] w (Ans w (.int .i64 (chkS b t (opsO ps)))) := by
  unfold Ans
  obtain ⟨w1, hw1⟩ : ∃ w1, w.alloc (.cells #[.int .i64 b, .int .i64 t, .slice A ps.length c] 24) = w1 := ⟨_, rfl⟩
  have HS : Hid (SAt w1 w.heap.size 24 b t (.slice A ps.length c)) := Lib.hid (by subst hw1; exact SAt.new w 24 b t _)
  have HB : Hid (Below w.heap.size w w1) := Lib.hid (by subst hw1; exact (Below.refl _ _).alloc (Nat.le_refl _) _)
  have hs1 : w.heap.size ≤ w1.heap.size := HB.out.size
  have HSc := Lib.hid (h.below HB.out)
  obtain ⟨c0, c1, c2⟩ := HS.out.cells
  have HC : Hid (chkS b t (opsO ps) = if (0 ≤ b ∧ b ≤ 4000) ∧ (0 ≤ t ∧ t ≤ 4000) ∧ restO b t (opsO ps) = some 0 then 0 else 2) := Lib.hid rfl
  obtain ⟨E, hE⟩ : ∃ E, chkS b t (opsO ps) = E := ⟨_, rfl⟩
  rw [hE] at HC ⊢
  have HLb := Lib.hid (fun w => DisLen_any b w)
  have HLt := Lib.hid (fun w => DisLen_any t w)
  obtain ⟨L, hL⟩ : ∃ L, ps.length = L := ⟨_, rfl⟩
  have HL := Lib.hid hL
  have hLc : L ≤ 9223372036854775807 := by have := h.le; have := h.cap; omega
  rw [hL] at c2 hw1 HS ⊢
  clear h hE hL
  by_cases hb : 0 ≤ b ∧ b ≤ 4000
  · have Hdb := Lib.hid (show decide (0 ≤ b ∧ b ≤ 4000) = true by simp [hb])
    by_cases ht : 0 ≤ t ∧ t ≤ 4000
    · have Hdt := Lib.hid (show decide (0 ≤ t ∧ t ≤ 4000) = true by simp [ht])
      obtain ⟨hb0, hb1⟩ := hb
      obtain ⟨ht0, ht1⟩ := ht
      go_enter Try.func14, Try.ntmps14
      go_wp2_with (first
        | (go_at_call 33; have _ := M1; refine (HLt.out _).mono ?_; rintro e w2 ⟨rfl, rfl⟩; simp only [Hdt.out])
        | (go_at_call 33; refine (HLb.out _).mono ?_; rintro e w2 ⟨rfl, rfl⟩; simp only [Hdb.out]; have M1 := True.intro))
      go_loopw [3, 21] (fun l i wr => ∃ (k : Nat) (m : Int), k ≤ L ∧ i = .int .i64 k ∧ l = .int .i64 m ∧ 0 ≤ m ∧ m ≤ 4000 ∧ Hid (restO b t (opsO ps) = restO b m ((opsO ps).drop k)) ∧ Hid (Fr (fun _ => False) w1 wr)) (fun _ i _ => L - (intOf i).toNat)
      case atStart => exact ⟨0, t, by omega, rfl, rfl, ht0, ht1, Lib.hid rfl, Lib.hid (Fr.refl _ _)⟩
      case round =>
        obtain ⟨k, m, hk, rfl, rfl, hm0, hm1, HR, HF⟩ := hrel
        have hk1 : (0 : Int) ≤ k := by omega
        by_cases hlt : k < L
        · have hk2 : (k : Int) < L := by omega
          obtain ⟨p, hp⟩ : ∃ p, ps[k]? = some p := ⟨ps[k]'(by rw [HL.out]; exact hlt), List.getElem?_eq_getElem (by rw [HL.out]; exact hlt)⟩
          obtain ⟨ab, ao, rfl⟩ := HSc.out.addr (k := k) (by rw [HL.out]; exact hlt)
          have HPo := Lib.hid (HSc.out.at_ok hp)
          obtain ⟨d0, d1, d2, d3⟩ := (HSc.out.fr HF.out).cells hp
          have HD := Lib.hid (opsO_drop hp)
          clear hp
          obtain ⟨o, B, pc⟩ := p
          simp only at d0 d1 d2 d3
          (
            obtain ⟨w3, hbx⟩ : ∃ xw, (wr).alloc (.cells #[.bool o.copy, .int .i64 o.frm, .int .i64 o.n, .slice B o.b.length pc] 57) = xw := ⟨_, rfl⟩
            have HOw3 := Lib.hid (show OpAt w3 (wr).heap.size 57 o B pc from by subst hbx; exact OpAt.new _ _ _ _ _)
            have HFw3 := Lib.hid (show Fr (fun _ => False) wr w3 from by subst hbx; exact (Fr.refl _ _).alloc _))
          obtain ⟨f0, f1, f2, f3⟩ := HOw3.out.cells
          obtain ⟨s0, s1, s2⟩ := (HS.out.fr (HF.out.trans HFw3.out (fun _ _ e => e))).cells
          have HRt := Lib.hid (fun w => DisRight_any o b HPo.out.f HPo.out.n ⟨hb0, hb1⟩ B pc w)
          have HLd := Lib.hid (fun w => Dlaid_any o B pc w)
          have HSt : Hid (restO b t (opsO ps) = if o.Right b ∧ o.size ≤ m then restO b (m - o.size) ((opsO ps).drop (k + 1)) else none) := Lib.hid (by rw [HR.out, HD.out, restO_cons])
          have Hpos := Lib.hid (fun (h : o.Right b) => h.pos)
          obtain ⟨z, hz⟩ : ∃ z, o.size = z := ⟨_, rfl⟩
          simp only [hz] at HLd HSt Hpos
          obtain ⟨R, hR⟩ : ∃ R, o.Right b = R := ⟨_, rfl⟩
          obtain ⟨rb, hrb⟩ : ∃ rb, decide (o.Right b) = rb := ⟨_, rfl⟩
          have HRb : Hid (rb = true ↔ o.Right b) := Lib.hid (by rw [← hrb]; simp)
          simp only [hrb] at HRt
          clear hR hrb hz hk1
          have hk1 : (0 : Int) ≤ k := by omega
          cases rb
          · have HE2 : Hid (E = 2) := Lib.hid (by
              have h1 : ¬ o.Right b := fun h => by have := HRb.out.2 h; simp at this
              have h2 : restO b t (opsO ps) = none := by rw [HSt.out, if_neg (fun h => h1 h.1)]
              rw [HC.out, h2, if_neg (by simp)])
            go_wp2_with (go_at_call 34; refine (HRt.out _).mono ?_; rintro e w4 ⟨rfl, b4⟩; have HB4 := Lib.hid b4; clear b4)
            go_ret
            exact ⟨by rw [HE2.out]; rfl, HB.out.trans ((((HF.out.trans HFw3.out (fun _ _ e => e)).then_below HB4.out).below (fun _ _ e => e)).mono hs1)⟩
          · have hRt : o.Right b := HRb.out.1 rfl
            have HRt1 := Lib.hid hRt
            have hz1 := Hpos.out hRt
            clear hRt
            by_cases hzm : z ≤ m
            · have HSt2 : Hid (restO b t (opsO ps) = restO b (m - z) ((opsO ps).drop (k + 1))) := Lib.hid (by rw [HSt.out, if_pos ⟨HRt1.out, hzm⟩])
              go_wp2_with (first
                | (go_at_call 35; have _ := M3; refine (HLd.out _).mono ?_; rintro e w6 ⟨rfl, b6⟩; have HB6 := Lib.hid b6; clear b6)
                | (go_at_call 35; have _ := M2; refine (HLd.out _).mono ?_; rintro e w5 ⟨rfl, b5⟩; have HB5 := Lib.hid b5; obtain ⟨h0, h1, h2, h3⟩ := (HOw3.out.fr ((Fr.of_below HB4.out).then_below b5)).cells; clear b5; have M3 := True.intro)
                | (go_at_call 34; refine (HRt.out _).mono ?_; rintro e w4 ⟨rfl, b4⟩; have HB4 := Lib.hid b4; obtain ⟨g0, g1, g2, g3⟩ := (HOw3.out.fr (Fr.of_below b4)).cells; clear b4; have M2 := True.intro))
              go_roundw
              case rel => exact ⟨k + 1, m - z, by omega, by go_num, by first | rfl | go_num, by omega, by omega, HSt2, Lib.hid ((((HF.out.trans HFw3.out (fun _ _ e => e)).then_below HB4.out).then_below HB5.out).then_below HB6.out)⟩
              case measure => simp [intOf]; omega
            · have HE2 : Hid (E = 2) := Lib.hid (by
                have h2 : restO b t (opsO ps) = none := by rw [HSt.out, if_neg (fun h => hzm h.2)]
                rw [HC.out, h2, if_neg (by simp)])
              go_wp2_with (first
                | (go_at_call 35; have _ := M2; refine (HLd.out _).mono ?_; rintro e w5 ⟨rfl, b5⟩; have HB5 := Lib.hid b5; clear b5)
                | (go_at_call 34; refine (HRt.out _).mono ?_; rintro e w4 ⟨rfl, b4⟩; have HB4 := Lib.hid b4; obtain ⟨g0, g1, g2, g3⟩ := (HOw3.out.fr (Fr.of_below b4)).cells; clear b4; have M2 := True.intro))
              go_ret
              exact ⟨by rw [HE2.out]; rfl, HB.out.trans (((((HF.out.trans HFw3.out (fun _ _ e => e)).then_below HB4.out).then_below HB5.out).below (fun _ _ e => e)).mono hs1)⟩
        · obtain rfl : k = L := by omega
          have HEn : Hid (E = if m = 0 then 0 else 2) := Lib.hid (by
            have hdr : (opsO ps).drop k = [] := by rw [← HL.out]; simp [opsO]
            rw [HC.out, HR.out, hdr]
            by_cases h0 : m = 0
            · subst h0; simp [restO, hb0, hb1, ht0, ht1]
            · rw [if_neg h0, if_neg]; rintro ⟨-, -, h⟩; simp [restO] at h; exact h0 h)
          by_cases h0 : 0 < m
          · go_wp2_with fail
            go_ret
            exact ⟨by rw [HEn.out, if_neg (by omega)]; rfl, HB.out.trans ((HF.out.below (fun _ _ e => e)).mono hs1)⟩
          · go_wp2_with fail
            go_ret
            exact ⟨by rw [HEn.out, if_pos (by omega)]; rfl, HB.out.trans ((HF.out.below (fun _ _ e => e)).mono hs1)⟩
    · have Hdt := Lib.hid (show decide (0 ≤ t ∧ t ≤ 4000) = false by simp only [decide_eq_false_iff_not]; exact ht)
      have HE2 : Hid (E = 2) := Lib.hid (by rw [HC.out, if_neg (fun h => ht h.2.1)])
      clear ht
      go_enter Try.func14, Try.ntmps14
      go_wp2_with (first
        | (go_at_call 33; have _ := M1; refine (HLt.out _).mono ?_; rintro e w2 ⟨rfl, rfl⟩; simp only [Hdt.out])
        | (go_at_call 33; refine (HLb.out _).mono ?_; rintro e w2 ⟨rfl, rfl⟩; simp only [Hdb.out]; have M1 := True.intro))
      go_ret
      exact ⟨by rw [HE2.out]; rfl, HB.out⟩
  · have Hdb := Lib.hid (show decide (0 ≤ b ∧ b ≤ 4000) = false by simp only [decide_eq_false_iff_not]; exact hb)
    have HE2 : Hid (E = 2) := Lib.hid (by rw [HC.out, if_neg (fun h => hb h.1)])
    clear hb
    go_enter Try.func14, Try.ntmps14
    go_wp2_with (go_at_call 33; refine (HLb.out _).mono ?_; rintro e w2 ⟨rfl, rfl⟩; simp only [Hdb.out])
    go_ret
    exact ⟨by rw [HE2.out]; rfl, HB.out⟩
end Go.Proofs.Ythjfkeploofblaa

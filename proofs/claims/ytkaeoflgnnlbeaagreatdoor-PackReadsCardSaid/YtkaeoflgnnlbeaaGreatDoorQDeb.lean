/- What is proved: texts that stand one behind the other: Deb Dec. Conditions: each theorem names its own. -/
import Derived.Deep.QuietTactic
import Derived.BigQuiet
import Derived.Test.YtkaeoflgnnlbeaaGreatDoorQDb
import Derived.Test.YtkaeoflgnnlbeaaGreatDoorQDea
/- What is proved: what the walks of this seat need of layers below, merged out of the texts Deb (of each just what is needed). Conditions: each theorem names its own. -/
/- What is proved: whether a script may be, by the program and by the document. Conditions: the ops' cells are there. -/
namespace Go.Proofs.YtkaeoflgnnlbeaaGreatDoor
open Go.RowKit
set_option linter.unusedVariables false
/-- A call that answers v and lays only blocks of its own. -/
def Ans (w : World) (v : Value) (e : Ending) (w' : World) : Prop := e = .returned v ∧ Below w.heap.size w w'
theorem DisLen_any (n : Int) (w : World) : Calls Tryz.prog 120 #[.int .i64 n] w fun e w' => e = .returned (.bool (decide (0 ≤ n ∧ n ≤ 4000))) ∧ w = w' := by
  by_cases h0 : 0 ≤ n
  · by_cases h1 : n ≤ 4000
    · go_enter Tryz.func120, Tryz.ntmps120
      go_wp2
      go_ret
      exact ⟨by simp [h0, h1], rfl⟩
    · go_enter Tryz.func120, Tryz.ntmps120
      go_wp2
      go_ret
      exact ⟨by simp [h1], rfl⟩
  · go_enter Tryz.func120, Tryz.ntmps120
    go_wp2
    go_ret
    exact ⟨by simp; omega, rfl⟩
theorem Dlaid_any (o : DOp) (B : Option Addr) (c : Nat) (w : World) : Calls Tryz.prog 91 #[.agg #[.bool o.copy, .int .i64 o.frm, .int .i64 o.n, .slice B o.b.length c]] w (Ans w (.int .i64 o.size)) := by
  unfold Ans
  obtain ⟨cp, f, n, bs⟩ := o
  obtain ⟨L, hL⟩ : ∃ L, bs.length = L := ⟨_, rfl⟩
  have HB := Lib.hid ((Below.refl w.heap.size w).alloc (Nat.le_refl _) (.cells #[.bool cp, .int .i64 f, .int .i64 n, .slice B L c] 170))
  simp only [DOp.size]
  rw [hL]
  cases cp
  · go_enter Tryz.func91, Tryz.ntmps91
    go_wp2
    go_ret
    exact ⟨by simp, HB.out⟩
  · go_enter Tryz.func91, Tryz.ntmps91
    go_wp2
    go_ret
    exact ⟨by simp, HB.out⟩
theorem QDSize_any (o : DOp) (B : Option Addr) (c : Nat) (w : World) : Calls Tryz.prog 94 #[.agg #[.bool o.copy, .int .i64 o.frm, .int .i64 o.n, .slice B o.b.length c]] w (Ans w (.int .i64 o.size)) := by
  unfold Ans
  obtain ⟨cp, f, n, bs⟩ := o
  obtain ⟨L, hL⟩ : ∃ L, bs.length = L := ⟨_, rfl⟩
  have HB := Lib.hid ((Below.refl w.heap.size w).alloc (Nat.le_refl _) (.cells #[.bool cp, .int .i64 f, .int .i64 n, .slice B L c] 142))
  simp only [DOp.size]
  rw [hL]
  cases cp
  · go_enter Tryz.func94, Tryz.ntmps94
    go_wp2
    go_ret
    exact ⟨by simp, HB.out⟩
  · go_enter Tryz.func94, Tryz.ntmps94
    go_wp2
    go_ret
    exact ⟨by simp, HB.out⟩
theorem Dlies_any (cp : Bool) (f n base : Int) (hf : I64 f) (hn : 0 ≤ n ∧ n ≤ 9223372036854775807) (hb : 0 ≤ base ∧ base ≤ 9223372036854775807) (v : Value) (hv : v.oneCell' = true) (w : World) :
    Calls Tryz.prog 142 #[.agg #[.bool cp, .int .i64 f, .int .i64 n, v], .int .i64 base] w (Ans w (.bool (decide (0 ≤ f ∧ f ≤ base - n)))) := by
  unfold Ans
  obtain ⟨hf0, hf1⟩ := hf
  obtain ⟨hn0, hn1⟩ := hn
  obtain ⟨hb0, hb1⟩ := hb
  have HB := Lib.hid ((Below.refl w.heap.size w).alloc (Nat.le_refl _) (.cells #[.bool cp, .int .i64 f, .int .i64 n, v] 170))
  have hw : IntKind.i64.wrap (base - n) = base - n := by rw [IntKind.wrap_i64]; omega
  by_cases h0 : 0 ≤ f
  · by_cases h1 : f ≤ base - n
    · go_enter Tryz.func142, Tryz.ntmps142
      go_wp2
      go_ret
      exact ⟨by simp [h0, h1], HB.out⟩
    · go_enter Tryz.func142, Tryz.ntmps142
      go_wp2
      go_ret
      exact ⟨by simp [h1], HB.out⟩
  · go_enter Tryz.func142, Tryz.ntmps142
    go_wp2
    go_ret
    exact ⟨by simp; omega, HB.out⟩
/-- An op's block. -/
structure OpAt (w : World) (g : Nat) (t : TypeId) (o : DOp) (B : Option Addr) (c : Nat) : Prop where
  whole : Whole w g t #[.bool o.copy, .int .i64 o.frm, .int .i64 o.n, .slice B o.b.length c]
theorem OpAt.new (w : World) (t : TypeId) (o : DOp) (B : Option Addr) (c : Nat) : OpAt (w.alloc (.cells #[.bool o.copy, .int .i64 o.frm, .int .i64 o.n, .slice B o.b.length c] t)) w.heap.size t o B c := ⟨Whole.new _ _ _⟩
theorem OpAt.fr {w w' : World} {g : Nat} {t : TypeId} {o : DOp} {B : Option Addr} {c : Nat} (h : OpAt w g t o B c) (f : Fr (fun _ => False) w w') : OpAt w' g t o B c := ⟨h.whole.fr f (fun e => e)⟩
theorem OpAt.cells {w : World} {g : Nat} {t : TypeId} {o : DOp} {B : Option Addr} {c : Nat} (h : OpAt w g t o B c) : w.cell? ⟨g, 0, none⟩ = some (.bool o.copy) ∧ w.cell? ⟨g, 1, none⟩ = some (.int .i64 o.frm) ∧ w.cell? ⟨g, 2, none⟩ = some (.int .i64 o.n) ∧ w.cell? ⟨g, 3, none⟩ = some (.slice B o.b.length c) :=
  ⟨by rw [h.whole.cell]; rfl, by rw [h.whole.cell]; rfl, by rw [h.whole.cell]; rfl, by rw [h.whole.cell]; rfl⟩
theorem DisRight_any (o : DOp) (base : Int) (hf : I64 o.frm) (hn : I64 o.n) (hb : 0 ≤ base ∧ base ≤ 4000) (B : Option Addr) (c : Nat) (w : World) :
    Calls Tryz.prog 121 #[.agg #[.bool o.copy, .int .i64 o.frm, .int .i64 o.n, .slice B o.b.length c], .int .i64 base] w (Ans w (.bool (decide (o.Right base)))) := by
  unfold Ans
  obtain ⟨w1, hw1⟩ : ∃ w1, w.alloc (.cells #[.bool o.copy, .int .i64 o.frm, .int .i64 o.n, .slice B o.b.length c] 170) = w1 := ⟨_, rfl⟩
  have HO : Hid (OpAt w1 w.heap.size 170 o B c) := Lib.hid (by subst hw1; exact OpAt.new w 170 o B c)
  have HB : Hid (Below w.heap.size w w1) := Lib.hid (by subst hw1; exact (Below.refl _ _).alloc (Nat.le_refl _) _)
  have hs1 : w.heap.size ≤ w1.heap.size := HB.out.size
  obtain ⟨c0, c1, c2, c3⟩ := HO.out.cells
  have HR : Hid (o.Right base ↔ (o.copy = true ∧ 1 ≤ o.n ∧ 0 ≤ o.frm ∧ o.frm ≤ base - o.n ∧ o.b.length = 0) ∨ (o.copy = false ∧ 1 ≤ o.b.length ∧ o.frm = 0 ∧ o.n = 0)) := Lib.hid Iff.rfl
  obtain ⟨cp, f, n, bs⟩ := o
  simp only at c0 c1 c2 c3 hf hn hw1
  obtain ⟨L, hL⟩ : ∃ L, bs.length = L := ⟨_, rfl⟩
  simp only [hL] at c3 HR hw1 ⊢
  obtain ⟨R, hR⟩ : ∃ R, DOp.Right base ⟨cp, f, n, bs⟩ = R := ⟨_, rfl⟩
  have HRR := Lib.hid hR
  cases cp
  · by_cases h1 : 1 ≤ L
    · by_cases h2 : f = 0
      · subst h2
        by_cases h3 : n = 0
        · subst h3
          go_enter Tryz.func121, Tryz.ntmps121
          go_wp2
          go_ret
          exact ⟨by have := HR.out; simp [this, h1], HB.out⟩
        · go_enter Tryz.func121, Tryz.ntmps121
          go_wp2
          go_ret
          exact ⟨by have := HR.out; simp [this, h3], HB.out⟩
      · go_enter Tryz.func121, Tryz.ntmps121
        go_wp2
        go_ret
        exact ⟨by have := HR.out; simp [this, h2], HB.out⟩
    · go_enter Tryz.func121, Tryz.ntmps121
      go_wp2
      go_ret
      exact ⟨by have := HR.out; simp [this]; omega, HB.out⟩
  · by_cases h1 : 1 ≤ n
    · have HL1 := Lib.hid (fun w => Dlies_any true f n base hf ⟨by omega, hn.2⟩ ⟨hb.1, by omega⟩ (.slice B L c) rfl w)
      by_cases h2 : 0 ≤ f ∧ f ≤ base - n
      · have hd : decide (0 ≤ f ∧ f ≤ base - n) = true := by simp [h2]
        have HD := Lib.hid hd
        clear hd
        by_cases h3 : L = 0
        · subst h3
          go_enter Tryz.func121, Tryz.ntmps121
          go_wp2_with (go_at_call 142; refine (HL1.out _).mono ?_; rintro e w2 ⟨rfl, hb2⟩; simp only [HD.out]; have c32 := (HO.out.fr (Fr.of_below hb2)).cells.2.2.2; simp only [hL] at c32; have HB2 := Lib.hid (HB.out.trans (hb2.mono hs1)))
          go_ret
          exact ⟨by have := HR.out; simp [this, h1, h2], HB2.out⟩
        · go_enter Tryz.func121, Tryz.ntmps121
          go_wp2_with (go_at_call 142; refine (HL1.out _).mono ?_; rintro e w2 ⟨rfl, hb2⟩; simp only [HD.out]; have c32 := (HO.out.fr (Fr.of_below hb2)).cells.2.2.2; simp only [hL] at c32; have HB2 := Lib.hid (HB.out.trans (hb2.mono hs1)))
          go_ret
          exact ⟨by have := HR.out; simp [this, h3], HB2.out⟩
      · have hd : decide (0 ≤ f ∧ f ≤ base - n) = false := by simp only [decide_eq_false_iff_not]; exact h2
        have HD := Lib.hid hd
        have H2 := Lib.hid h2
        clear hd h2
        go_enter Tryz.func121, Tryz.ntmps121
        go_wp2_with (go_at_call 142; refine (HL1.out _).mono ?_; rintro e w2 ⟨rfl, hb2⟩; simp only [HD.out]; have c32 := (HO.out.fr (Fr.of_below hb2)).cells.2.2.2; simp only [hL] at c32; have HB2 := Lib.hid (HB.out.trans (hb2.mono hs1)))
        go_ret
        exact ⟨by have := HR.out; have := H2.out; simp [HR.out]; omega, HB2.out⟩
    · go_enter Tryz.func121, Tryz.ntmps121
      go_wp2
      go_ret
      exact ⟨by have := HR.out; simp [this]; omega, HB.out⟩
end Go.Proofs.YtkaeoflgnnlbeaaGreatDoor
/- What is proved: what the walks of this seat need of layers below, merged out of the texts Dec (of each just what is needed). Conditions: each theorem names its own. -/
/- What is proved: whether a script may be, by the program and by the document. Conditions: the ops' cells are there. -/
namespace Go.Proofs.YtkaeoflgnnlbeaaGreatDoor
open Go.RowKit
set_option linter.unusedVariables false
/-- A script's block. -/
structure SAt (w : World) (g : Nat) (t : TypeId) (b tt : Int) (v : Value) : Prop where
  whole : Whole w g t #[.int .i64 b, .int .i64 tt, v]
theorem SAt.new (w : World) (t : TypeId) (b tt : Int) (v : Value) : SAt (w.alloc (.cells #[.int .i64 b, .int .i64 tt, v] t)) w.heap.size t b tt v := ⟨Whole.new _ _ _⟩
theorem SAt.fr {w w' : World} {g : Nat} {t : TypeId} {b tt : Int} {v : Value} (h : SAt w g t b tt v) (f : Fr (fun _ => False) w w') : SAt w' g t b tt v := ⟨h.whole.fr f (fun e => e)⟩
theorem SAt.cells {w : World} {g : Nat} {t : TypeId} {b tt : Int} {v : Value} (h : SAt w g t b tt v) : w.cell? ⟨g, 0, none⟩ = some (.int .i64 b) ∧ w.cell? ⟨g, 1, none⟩ = some (.int .i64 tt) ∧ w.cell? ⟨g, 2, none⟩ = some v :=
  ⟨by rw [h.whole.cell]; rfl, by rw [h.whole.cell]; rfl, by rw [h.whole.cell]; rfl⟩
set_option maxHeartbeats 3200000 in
theorem DCheck_any (b t : Int) (A : Option Addr) (c : Nat) (ps : List POp) (w : World) (h : Scr w A c ps) :
    Calls Tryz.prog 92 #[.agg #[.int .i64 b, .int .i64 t, .slice A ps.length c]] w (Ans w (.int .i64 (chkS b t (opsO ps)))) := by
  unfold Ans
  obtain ⟨w1, hw1⟩ : ∃ w1, w.alloc (.cells #[.int .i64 b, .int .i64 t, .slice A ps.length c] 130) = w1 := ⟨_, rfl⟩
  have HS : Hid (SAt w1 w.heap.size 130 b t (.slice A ps.length c)) := Lib.hid (by subst hw1; exact SAt.new w 130 b t _)
  have HB : Hid (Below w.heap.size w w1) := Lib.hid (by subst hw1; exact (Below.refl _ _).alloc (Nat.le_refl _) _)
  have hs1 : w.heap.size ≤ w1.heap.size := HB.out.size
  have HSc := Lib.hid (h.below HB.out)
  obtain ⟨c0, c1, c2⟩ := HS.out.cells
  have HC : Hid (chkS b t (opsO ps) = if (0 ≤ b ∧ b ≤ 4000) ∧ (0 ≤ t ∧ t ≤ 4000) ∧ restO b t (opsO ps) = some 0 then 0 else 2) := Lib.hid rfl
  obtain ⟨E, hE⟩ : ∃ E, chkS b t (opsO ps) = E := ⟨_, rfl⟩
  rw [hE] at HC ⊢
  have HLb := Lib.hid (fun w => DisLen_any b w)
  have HLt := Lib.hid (fun w => DisLen_any t w)
  obtain ⟨L, hL⟩ : ∃ L, ps.length = L := ⟨_, rfl⟩
  have HL := Lib.hid hL
  have hLc : L ≤ 9223372036854775807 := by have := h.le; have := h.cap; omega
  rw [hL] at c2 hw1 HS ⊢
  clear h hE hL
  by_cases hb : 0 ≤ b ∧ b ≤ 4000
  · have Hdb := Lib.hid (show decide (0 ≤ b ∧ b ≤ 4000) = true by simp [hb])
    by_cases ht : 0 ≤ t ∧ t ≤ 4000
    · have Hdt := Lib.hid (show decide (0 ≤ t ∧ t ≤ 4000) = true by simp [ht])
      obtain ⟨hb0, hb1⟩ := hb
      obtain ⟨ht0, ht1⟩ := ht
      go_enter Tryz.func92, Tryz.ntmps92
      go_wp2_with (first
        | (go_at_call 120; have _ := M1; refine (HLt.out _).mono ?_; rintro e w2 ⟨rfl, rfl⟩; simp only [Hdt.out])
        | (go_at_call 120; refine (HLb.out _).mono ?_; rintro e w2 ⟨rfl, rfl⟩; simp only [Hdb.out]; have M1 := True.intro))
      go_loopw [3, 21] (fun l i wr => ∃ (k : Nat) (m : Int), k ≤ L ∧ i = .int .i64 k ∧ l = .int .i64 m ∧ 0 ≤ m ∧ m ≤ 4000 ∧ Hid (restO b t (opsO ps) = restO b m ((opsO ps).drop k)) ∧ Hid (Fr (fun _ => False) w1 wr)) (fun _ i _ => L - (intOf i).toNat)
      case atStart => exact ⟨0, t, by omega, rfl, rfl, ht0, ht1, Lib.hid rfl, Lib.hid (Fr.refl _ _)⟩
      case round =>
        obtain ⟨k, m, hk, rfl, rfl, hm0, hm1, HR, HF⟩ := hrel
        have hk1 : (0 : Int) ≤ k := by omega
        by_cases hlt : k < L
        · have hk2 : (k : Int) < L := by omega
          obtain ⟨p, hp⟩ : ∃ p, ps[k]? = some p := ⟨ps[k]'(by rw [HL.out]; exact hlt), List.getElem?_eq_getElem (by rw [HL.out]; exact hlt)⟩
          obtain ⟨ab, ao, rfl⟩ := HSc.out.addr (k := k) (by rw [HL.out]; exact hlt)
          have HPo := Lib.hid (HSc.out.at_ok hp)
          obtain ⟨d0, d1, d2, d3⟩ := (HSc.out.fr HF.out).cells hp
          have HD := Lib.hid (opsO_drop hp)
          clear hp
          obtain ⟨o, B, pc⟩ := p
          simp only at d0 d1 d2 d3
          (
            obtain ⟨w3, hbx⟩ : ∃ xw, (wr).alloc (.cells #[.bool o.copy, .int .i64 o.frm, .int .i64 o.n, .slice B o.b.length pc] 170) = xw := ⟨_, rfl⟩
            have HOw3 := Lib.hid (show OpAt w3 (wr).heap.size 170 o B pc from by subst hbx; exact OpAt.new _ _ _ _ _)
            have HFw3 := Lib.hid (show Fr (fun _ => False) wr w3 from by subst hbx; exact (Fr.refl _ _).alloc _))
          obtain ⟨f0, f1, f2, f3⟩ := HOw3.out.cells
          obtain ⟨s0, s1, s2⟩ := (HS.out.fr (HF.out.trans HFw3.out (fun _ _ e => e))).cells
          have HRt := Lib.hid (fun w => DisRight_any o b HPo.out.f HPo.out.n ⟨hb0, hb1⟩ B pc w)
          have HLd := Lib.hid (fun w => Dlaid_any o B pc w)
          have HSt : Hid (restO b t (opsO ps) = if o.Right b ∧ o.size ≤ m then restO b (m - o.size) ((opsO ps).drop (k + 1)) else none) := Lib.hid (by rw [HR.out, HD.out, restO_cons])
          have Hpos := Lib.hid (fun (h : o.Right b) => h.pos)
          obtain ⟨z, hz⟩ : ∃ z, o.size = z := ⟨_, rfl⟩
          simp only [hz] at HLd HSt Hpos
          obtain ⟨R, hR⟩ : ∃ R, o.Right b = R := ⟨_, rfl⟩
          obtain ⟨rb, hrb⟩ : ∃ rb, decide (o.Right b) = rb := ⟨_, rfl⟩
          have HRb : Hid (rb = true ↔ o.Right b) := Lib.hid (by rw [← hrb]; simp)
          simp only [hrb] at HRt
          clear hR hrb hz hk1
          have hk1 : (0 : Int) ≤ k := by omega
          cases rb
          · have HE2 : Hid (E = 2) := Lib.hid (by
              have h1 : ¬ o.Right b := fun h => by have := HRb.out.2 h; simp at this
              have h2 : restO b t (opsO ps) = none := by rw [HSt.out, if_neg (fun h => h1 h.1)]
              rw [HC.out, h2, if_neg (by simp)])
            go_wp2_with (go_at_call 121; refine (HRt.out _).mono ?_; rintro e w4 ⟨rfl, b4⟩; have HB4 := Lib.hid b4; clear b4)
            go_ret
            exact ⟨by rw [HE2.out]; rfl, HB.out.trans ((((HF.out.trans HFw3.out (fun _ _ e => e)).then_below HB4.out).below (fun _ _ e => e)).mono hs1)⟩
          · have hRt : o.Right b := HRb.out.1 rfl
            have HRt1 := Lib.hid hRt
            have hz1 := Hpos.out hRt
            clear hRt
            by_cases hzm : z ≤ m
            · have HSt2 : Hid (restO b t (opsO ps) = restO b (m - z) ((opsO ps).drop (k + 1))) := Lib.hid (by rw [HSt.out, if_pos ⟨HRt1.out, hzm⟩])
              go_wp2_with (first
                | (go_at_call 91; have _ := M3; refine (HLd.out _).mono ?_; rintro e w6 ⟨rfl, b6⟩; have HB6 := Lib.hid b6; clear b6)
                | (go_at_call 91; have _ := M2; refine (HLd.out _).mono ?_; rintro e w5 ⟨rfl, b5⟩; have HB5 := Lib.hid b5; obtain ⟨h0, h1, h2, h3⟩ := (HOw3.out.fr ((Fr.of_below HB4.out).then_below b5)).cells; clear b5; have M3 := True.intro)
                | (go_at_call 121; refine (HRt.out _).mono ?_; rintro e w4 ⟨rfl, b4⟩; have HB4 := Lib.hid b4; obtain ⟨g0, g1, g2, g3⟩ := (HOw3.out.fr (Fr.of_below b4)).cells; clear b4; have M2 := True.intro))
              go_roundw
              case rel => exact ⟨k + 1, m - z, by omega, by go_num, by first | rfl | go_num, by omega, by omega, HSt2, Lib.hid ((((HF.out.trans HFw3.out (fun _ _ e => e)).then_below HB4.out).then_below HB5.out).then_below HB6.out)⟩
              case measure => simp [intOf]; omega
            · have HE2 : Hid (E = 2) := Lib.hid (by
                have h2 : restO b t (opsO ps) = none := by rw [HSt.out, if_neg (fun h => hzm h.2)]
                rw [HC.out, h2, if_neg (by simp)])
              go_wp2_with (first
                | (go_at_call 91; have _ := M2; refine (HLd.out _).mono ?_; rintro e w5 ⟨rfl, b5⟩; have HB5 := Lib.hid b5; clear b5)
                | (go_at_call 121; refine (HRt.out _).mono ?_; rintro e w4 ⟨rfl, b4⟩; have HB4 := Lib.hid b4; obtain ⟨g0, g1, g2, g3⟩ := (HOw3.out.fr (Fr.of_below b4)).cells; clear b4; have M2 := True.intro))
              go_ret
              exact ⟨by rw [HE2.out]; rfl, HB.out.trans (((((HF.out.trans HFw3.out (fun _ _ e => e)).then_below HB4.out).then_below HB5.out).below (fun _ _ e => e)).mono hs1)⟩
        · obtain rfl : k = L := by omega
          have HEn : Hid (E = if m = 0 then 0 else 2) := Lib.hid (by
            have hdr : (opsO ps).drop k = [] := by rw [← HL.out]; simp [opsO]
            rw [HC.out, HR.out, hdr]
            by_cases h0 : m = 0
            · subst h0; simp [restO, hb0, hb1, ht0, ht1]
            · rw [if_neg h0, if_neg]; rintro ⟨-, -, h⟩; simp [restO] at h; exact h0 h)
          by_cases h0 : 0 < m
          · go_wp2_with fail
            go_ret
            exact ⟨by rw [HEn.out, if_neg (by omega)]; rfl, HB.out.trans ((HF.out.below (fun _ _ e => e)).mono hs1)⟩
          · go_wp2_with fail
            go_ret
            exact ⟨by rw [HEn.out, if_pos (by omega)]; rfl, HB.out.trans ((HF.out.below (fun _ _ e => e)).mono hs1)⟩
    · have Hdt := Lib.hid (show decide (0 ≤ t ∧ t ≤ 4000) = false by simp only [decide_eq_false_iff_not]; exact ht)
      have HE2 : Hid (E = 2) := Lib.hid (by rw [HC.out, if_neg (fun h => ht h.2.1)])
      clear ht
      go_enter Tryz.func92, Tryz.ntmps92
      go_wp2_with (first
        | (go_at_call 120; have _ := M1; refine (HLt.out _).mono ?_; rintro e w2 ⟨rfl, rfl⟩; simp only [Hdt.out])
        | (go_at_call 120; refine (HLb.out _).mono ?_; rintro e w2 ⟨rfl, rfl⟩; simp only [Hdb.out]; have M1 := True.intro))
      go_ret
      exact ⟨by rw [HE2.out]; rfl, HB.out⟩
  · have Hdb := Lib.hid (show decide (0 ≤ b ∧ b ≤ 4000) = false by simp only [decide_eq_false_iff_not]; exact hb)
    have HE2 : Hid (E = 2) := Lib.hid (by rw [HC.out, if_neg (fun h => hb h.1)])
    clear hb
    go_enter Tryz.func92, Tryz.ntmps92
    go_wp2_with (go_at_call 120; refine (HLb.out _).mono ?_; rintro e w2 ⟨rfl, rfl⟩; simp only [Hdb.out])
    go_ret
    exact ⟨by rw [HE2.out]; rfl, HB.out⟩
end Go.Proofs.YtkaeoflgnnlbeaaGreatDoor

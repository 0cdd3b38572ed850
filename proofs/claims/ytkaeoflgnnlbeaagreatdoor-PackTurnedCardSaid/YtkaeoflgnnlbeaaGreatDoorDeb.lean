/- What is proved: what the walks of this seat need of layers below, merged out of the texts Deb (of each just what is needed). Conditions: each theorem names its own. -/
import Derived.Deep.QuietTactic
import Derived.BigQuiet
import Derived.Test.YtkaeoflgnnlbeaaGreatDoorDb
import Derived.Test.YtkaeoflgnnlbeaaGreatDoorDea
/- What is proved: whether a script may be, by the program and by the document. Conditions: the ops' cells are there. -/
namespace Go.Proofs.YtkaeoflgnnlbeaaGreatDoor
open Go.RowKit
set_option linter.unusedVariables false
/-- A call that answers v and lays only blocks of its own. -/
def Ans (w : World) (v : Value) (e : Ending) (w' : World) : Prop := e = .returned v ∧ Below w.heap.size w w'
theorem DisLen_any (n : Int) (w : World) : Calls Tryz.prog 120 #[.int .i64 n] w fun e w' => e = .returned (.bool (decide (0 ≤ n ∧ n ≤ 4000))) ∧ w = w' := by
  by_cases h0 : 0 ≤ n
  · by_cases h1 : n ≤ 4000
    · go_enter Tryz.func120, Tryz.ntmps120
      go_wp2
      go_ret
      exact ⟨by simp [h0, h1], rfl⟩
    · go_enter Tryz.func120, Tryz.ntmps120
      go_wp2
      go_ret
      exact ⟨by simp [h1], rfl⟩
  · go_enter Tryz.func120, Tryz.ntmps120
    go_wp2
    go_ret
    exact ⟨by simp; omega, rfl⟩
theorem Dlaid_any (o : DOp) (B : Option Addr) (c : Nat) (w : World) : Calls Tryz.prog 91 #[.agg #[.bool o.copy, .int .i64 o.frm, .int .i64 o.n, .slice B o.b.length c]] w (Ans w (.int .i64 o.size)) := by
  unfold Ans
  obtain ⟨cp, f, n, bs⟩ := o
  obtain ⟨L, hL⟩ : ∃ L, bs.length = L := ⟨_, rfl⟩
  have HB := Lib.hid ((Below.refl w.heap.size w).alloc (Nat.le_refl _) (.cells #[.bool cp, .int .i64 f, .int .i64 n, .slice B L c] 170))
  simp only [DOp.size]
  rw [hL]
  cases cp
  · go_enter Tryz.func91, Tryz.ntmps91
    go_wp2
    go_ret
    exact ⟨by simp, HB.out⟩
  · go_enter Tryz.func91, Tryz.ntmps91
    go_wp2
    go_ret
    exact ⟨by simp, HB.out⟩
theorem QDSize_any (o : DOp) (B : Option Addr) (c : Nat) (w : World) : Calls Tryz.prog 94 #[.agg #[.bool o.copy, .int .i64 o.frm, .int .i64 o.n, .slice B o.b.length c]] w (Ans w (.int .i64 o.size)) := by
  unfold Ans
  obtain ⟨cp, f, n, bs⟩ := o
  obtain ⟨L, hL⟩ : ∃ L, bs.length = L := ⟨_, rfl⟩
  have HB := Lib.hid ((Below.refl w.heap.size w).alloc (Nat.le_refl _) (.cells #[.bool cp, .int .i64 f, .int .i64 n, .slice B L c] 142))
  simp only [DOp.size]
  rw [hL]
  cases cp
  · go_enter Tryz.func94, Tryz.ntmps94
    go_wp2
    go_ret
    exact ⟨by simp, HB.out⟩
  · go_enter Tryz.func94, Tryz.ntmps94
    go_wp2
    go_ret
    exact ⟨by simp, HB.out⟩
theorem Dlies_any (cp : Bool) (f n base : Int) (hf : I64 f) (hn : 0 ≤ n ∧ n ≤ 9223372036854775807) (hb : 0 ≤ base ∧ base ≤ 9223372036854775807) (v : Value) (hv : v.oneCell' = true) (w : World) :
    Calls Tryz.prog 142 #[.agg #[.bool cp, .int .i64 f, .int .i64 n, v], .int .i64 base] w (Ans w (.bool (decide (0 ≤ f ∧ f ≤ base - n)))) := by
  unfold Ans
  obtain ⟨hf0, hf1⟩ := hf
  obtain ⟨hn0, hn1⟩ := hn
  obtain ⟨hb0, hb1⟩ := hb
  have HB := Lib.hid ((Below.refl w.heap.size w).alloc (Nat.le_refl _) (.cells #[.bool cp, .int .i64 f, .int .i64 n, v] 170))
  have hw : IntKind.i64.wrap (base - n) = base - n := by rw [IntKind.wrap_i64]; omega
  by_cases h0 : 0 ≤ f
  · by_cases h1 : f ≤ base - n
    · go_enter Tryz.func142, Tryz.ntmps142
      go_wp2
      go_ret
      exact ⟨by simp [h0, h1], HB.out⟩
    · go_enter Tryz.func142, Tryz.ntmps142
      go_wp2
      go_ret
      exact ⟨by simp [h1], HB.out⟩
  · go_enter Tryz.func142, Tryz.ntmps142
    go_wp2
    go_ret
    exact ⟨by simp; omega, HB.out⟩
/-- An op's block. -/
structure OpAt (w : World) (g : Nat) (t : TypeId) (o : DOp) (B : Option Addr) (c : Nat) : Prop where
  whole : Whole w g t #[.bool o.copy, .int .i64 o.frm, .int .i64 o.n, .slice B o.b.length c]
theorem OpAt.new (w : World) (t : TypeId) (o : DOp) (B : Option Addr) (c : Nat) : OpAt (w.alloc (.cells #[.bool o.copy, .int .i64 o.frm, .int .i64 o.n, .slice B o.b.length c] t)) w.heap.size t o B c := ⟨Whole.new _ _ _⟩
theorem OpAt.fr {w w' : World} {g : Nat} {t : TypeId} {o : DOp} {B : Option Addr} {c : Nat} (h : OpAt w g t o B c) (f : Fr (fun _ => False) w w') : OpAt w' g t o B c := ⟨h.whole.fr f (fun e => e)⟩
theorem OpAt.cells {w : World} {g : Nat} {t : TypeId} {o : DOp} {B : Option Addr} {c : Nat} (h : OpAt w g t o B c) : w.cell? ⟨g, 0, none⟩ = some (.bool o.copy) ∧ w.cell? ⟨g, 1, none⟩ = some (.int .i64 o.frm) ∧ w.cell? ⟨g, 2, none⟩ = some (.int .i64 o.n) ∧ w.cell? ⟨g, 3, none⟩ = some (.slice B o.b.length c) :=
  ⟨by rw [h.whole.cell]; rfl, by rw [h.whole.cell]; rfl, by rw [h.whole.cell]; rfl, by rw [h.whole.cell]; rfl⟩
theorem DisRight_any (o : DOp) (base : Int) (hf : I64 o.frm) (hn : I64 o.n) (hb : 0 ≤ base ∧ base ≤ 4000) (B : Option Addr) (c : Nat) (w : World) :
    Calls Tryz.prog 121 #[.agg #[.bool o.copy, .int .i64 o.frm, .int .i64 o.n, .slice B o.b.length c], .int .i64 base] w (Ans w (.bool (decide (o.Right base)))) := by
  unfold Ans
  obtain ⟨w1, hw1⟩ : ∃ w1, w.alloc (.cells #[.bool o.copy, .int .i64 o.frm, .int .i64 o.n, .slice B o.b.length c] 170) = w1 := ⟨_, rfl⟩
  have HO : Hid (OpAt w1 w.heap.size 170 o B c) := Lib.hid (by subst hw1; exact OpAt.new w 170 o B c)
  have HB : Hid (Below w.heap.size w w1) := Lib.hid (by subst hw1; exact (Below.refl _ _).alloc (Nat.le_refl _) _)
  have hs1 : w.heap.size ≤ w1.heap.size := HB.out.size
  obtain ⟨c0, c1, c2, c3⟩ := HO.out.cells
  have HR : Hid (o.Right base ↔ (o.copy = true ∧ 1 ≤ o.n ∧ 0 ≤ o.frm ∧ o.frm ≤ base - o.n ∧ o.b.length = 0) ∨ (o.copy = false ∧ 1 ≤ o.b.length ∧ o.frm = 0 ∧ o.n = 0)) := Lib.hid Iff.rfl
  obtain ⟨cp, f, n, bs⟩ := o
  simp only at c0 c1 c2 c3 hf hn hw1
  obtain ⟨L, hL⟩ : ∃ L, bs.length = L := ⟨_, rfl⟩
  simp only [hL] at c3 HR hw1 ⊢
  obtain ⟨R, hR⟩ : ∃ R, DOp.Right base ⟨cp, f, n, bs⟩ = R := ⟨_, rfl⟩
  have HRR := Lib.hid hR
  cases cp
  · by_cases h1 : 1 ≤ L
    · by_cases h2 : f = 0
      · subst h2
        by_cases h3 : n = 0
        · subst h3
          go_enter Tryz.func121, Tryz.ntmps121
          go_wp2
          go_ret
          exact ⟨by have := HR.out; simp [this, h1], HB.out⟩
        · go_enter Tryz.func121, Tryz.ntmps121
          go_wp2
          go_ret
          exact ⟨by have := HR.out; simp [this, h3], HB.out⟩
      · go_enter Tryz.func121, Tryz.ntmps121
        go_wp2
        go_ret
        exact ⟨by have := HR.out; simp [this, h2], HB.out⟩
    · go_enter Tryz.func121, Tryz.ntmps121
      go_wp2
      go_ret
      exact ⟨by have := HR.out; simp [this]; omega, HB.out⟩
  · by_cases h1 : 1 ≤ n
    · have HL1 := Lib.hid (fun w => Dlies_any true f n base hf ⟨by omega, hn.2⟩ ⟨hb.1, by omega⟩ (.slice B L c) rfl w)
      by_cases h2 : 0 ≤ f ∧ f ≤ base - n
      · have hd : decide (0 ≤ f ∧ f ≤ base - n) = true := by simp [h2]
        have HD := Lib.hid hd
        clear hd
        by_cases h3 : L = 0
        · subst h3
          go_enter Tryz.func121, Tryz.ntmps121
          go_wp2_with (go_at_call 142; refine (HL1.out _).mono ?_; rintro e w2 ⟨rfl, hb2⟩; simp only [HD.out]; have c32 := (HO.out.fr (Fr.of_below hb2)).cells.2.2.2; simp only [hL] at c32; have HB2 := Lib.hid (HB.out.trans (hb2.mono hs1)))
          go_ret
          exact ⟨by have := HR.out; simp [this, h1, h2], HB2.out⟩
        · go_enter Tryz.func121, Tryz.ntmps121
          go_wp2_with (go_at_call 142; refine (HL1.out _).mono ?_; rintro e w2 ⟨rfl, hb2⟩; simp only [HD.out]; have c32 := (HO.out.fr (Fr.of_below hb2)).cells.2.2.2; simp only [hL] at c32; have HB2 := Lib.hid (HB.out.trans (hb2.mono hs1)))
          go_ret
          exact ⟨by have := HR.out; simp [this, h3], HB2.out⟩
      · have hd : decide (0 ≤ f ∧ f ≤ base - n) = false := by simp only [decide_eq_false_iff_not]; exact h2
        have HD := Lib.hid hd
        have H2 := Lib.hid h2
        clear hd h2
        go_enter Tryz.func121, Tryz.ntmps121
        go_wp2_with (go_at_call 142; refine (HL1.out _).mono ?_; rintro e w2 ⟨rfl, hb2⟩; simp only [HD.out]; have c32 := (HO.out.fr (Fr.of_below hb2)).cells.2.2.2; simp only [hL] at c32; have HB2 := Lib.hid (HB.out.trans (hb2.mono hs1)))
        go_ret
        exact ⟨by have := HR.out; have := H2.out; simp [HR.out]; omega, HB2.out⟩
    · go_enter Tryz.func121, Tryz.ntmps121
      go_wp2
      go_ret
      exact ⟨by have := HR.out; simp [this]; omega, HB.out⟩
end Go.Proofs.YtkaeoflgnnlbeaaGreatDoor

/- What is proved: what Burst answers where it may not be, and the walk of the law CrcBursts. Conditions: the bytes lie where they are said to lie. -/
import Derived.Test.YtfdindkagddjbaaCrv
import Derived.Test.YtfdindkagddjbaaCryJ
import Derived.Test.YtfdindkagddjbaaStr
namespace Go.Proofs.Ytfdindkagddjbaa
open Go.RowKit
set_option linter.unusedVariables false

set_option maxHeartbeats 800000 in
theorem CBurst_bad (A : Option Addr) (cap L : Nat) (p x : Int) (hL : L ≤ 2000) (h0 : -9223372036854775808 ≤ p) (h1 : p ≤ 9223372036854775807) (h : p < 0 ∨ 8 * (L : Int) - p < 32) (w : World) :
    Calls Try.prog 14 #[.slice A L cap, .int .i64 p, .int .u32 x] w fun e w' => e = .returned (.tuple #[.slice none 0 0, .int .i64 2]) ∧ w = w' := by
  go_enter Try.func14, Try.ntmps14
  by_cases hp : p < 0
  · go_wp2
    go_ret2
    exact ⟨rfl, rfl⟩
  · have h2 : 8 * (L : Int) - p < 32 := by omega
    have h3 : IntKind.i64.wrap (8 * (L : Int) - p) = 8 * (L : Int) - p := by rw [IntKind.wrap_i64]; omega
    clear h h1
    go_wp2
    go_ret2
    exact ⟨rfl, rfl⟩

set_option maxHeartbeats 800000 in
theorem QcBurst_bad (A : Option Addr) (cap L : Nat) (p x : Int) (hL : L ≤ 2000) (h0 : -9223372036854775808 ≤ p) (h1 : p ≤ 9223372036854775807) (h : p < 0 ∨ 8 * (L : Int) - p < 32) (w : World) :
    Calls Try.prog 15 #[.slice A L cap, .int .i64 p, .int .u32 x] w fun e w' => e = .returned (.tuple #[.slice none 0 0, .bool false]) ∧ w = w' := by
  go_enter Try.func15, Try.ntmps15
  by_cases hp : p < 0
  · go_wp2
    go_ret2
    exact ⟨rfl, rfl⟩
  · by_cases hq : (L : Int) ≤ p / 8
    · go_wp2
      go_ret2
      exact ⟨rfl, rfl⟩
    · have hr : 8 * ((L : Int) - p / 8) - p % 8 < 32 := by omega
      go_wp2
      go_ret2
      exact ⟨rfl, rfl⟩

theorem own_empty (w : World) : (w.alloc (.cells #[] 5)).ownsRow w.heap.size 5 1 (.slice (some ⟨w.heap.size, 0, none⟩) 0 0) 0 [] :=
  World.ownsRow_lit w #[] 0 (Nat.le_refl _) (Nat.zero_le _) rfl

set_option maxHeartbeats 1600000 in
theorem bursts_walk (A : Option Addr) (c : Nat) (l : List UInt8) (p : Int) (t : BitVec 32) (x : Int) (hx : x = rI t) (w : World) (hl : Lies w A (bytesV l)) (hc : l.length ≤ c) (h0 : -9223372036854775808 ≤ p) (h1 : p ≤ 9223372036854775807) :
    Calls Try.prog 6 #[.slice A l.length c, .int .i64 p, .int .u32 x] w fun e w' => e = .returned (.bool true) ∧ Below w.heap.size w w' := by
  obtain ⟨i0, hi, hz0, hz1, hz2⟩ := info_parts info_u8
  obtain ⟨L, hL⟩ : ∃ L, l.length = L := ⟨_, rfl⟩
  have HLn := Lib.hid hL
  have HL := Lib.hid hl
  have HX := Lib.hid hx
  rw [hL] at hc ⊢
  clear hL hl hx
  go_enter Try.func6, Try.ntmps6
  by_cases hn : (2000 : Int) < L
  · go_wp2_with (go_at_call 7; refine (works_any _).mono ?_; rintro e w4 ⟨rfl, b4⟩)
    go_ret
    exact ⟨rfl, b4⟩
  · go_wp2_with (at_builtin; refine wpList_append_row _ rfl (.tmp 16) (.tmp 17) 24 24 rfl w.heap.size 5 i0 (.int .u8 0) 1 1 Try.underlying24 hi hz0 hz1 hz2 rfl (.slice (some ⟨w.heap.size, 0, none⟩) 0 0) 0 [] rfl (own_empty w) (.slice A L c) L (bytesV l) rfl (Lies.srcB (HL.out.fr (S := fun _ => False) ((Fr.refl _ w).alloc _) (fun _ _ e => e)) HLn.out c) (by unfold maxLen; omega) (by omega) (by simp) ?_; intro v1 w1 o1 g1 at1)
    have hO : OwnB w w1 v1 l := by
      refine ⟨?_, fr_append (own_empty w) ((Fr.refl _ w).alloc _) g1⟩
      rw [HLn.out]
      simpa using o1
    clear o1 g1 at1
    obtain ⟨A1, c1, rfl, hc1, hl1, hb1⟩ := hO.slice
    have HO := Lib.hid hO
    have HL1 := Lib.hid hl1
    rw [HLn.out] at hc1 ⊢
    clear hO hl1 hb1
    by_cases hbad : p < 0 ∨ 8 * (L : Int) - p < 32
    · have HB := Lib.hid hbad
      clear hbad hi hz0 hz1 hz2
      have hS2 : ∀ w, Calls Try.prog 16 #[.slice none 0 0, .slice none 0 0] w fun e w' => e = .returned (.bool true) ∧ w = w' := fun w => Same_any none none 0 0 [] [] w (.inl rfl) (.inl rfl)
      have hS1 : Calls Try.prog 16 #[.slice A1 L c1, .slice A L c] w1 fun e w' => e = .returned (.bool true) ∧ w1 = w' := by
        have h := Same_any A1 A c1 c l l w1 HL1.out (HL.out.fr HO.out.2 (fun _ _ e => e))
        rw [HLn.out, beq_self_eq_true] at h
        exact h
      go_wp2_with (first
        | (go_at_call 14; refine (CBurst_bad A1 c1 L p x (by omega) h0 h1 HB.out _).mono ?_; rintro e w2 ⟨rfl, rfl⟩)
        | (go_at_call 15; refine (QcBurst_bad A c L p x (by omega) h0 h1 HB.out _).mono ?_; rintro e w3 ⟨rfl, rfl⟩)
        | (go_at_call 16; have _ := M1; refine hS1.mono ?_; rintro e w4 ⟨rfl, rfl⟩)
        | (go_at_call 16; refine (hS2 _).mono ?_; rintro e w4 ⟨rfl, rfl⟩; have M1 := True.intro)
        | (go_at_call 7; refine (works_any _).mono ?_; rintro e w7 ⟨rfl, b7⟩))
      go_ret
      exact ⟨rfl, (HO.out.2.then_below b7).below (fun _ _ e => e)⟩
    · obtain ⟨P, rfl⟩ : ∃ P : Nat, p = P := ⟨p.toNat, by omega⟩
      have hP : P + 32 ≤ 8 * L := by omega
      obtain ⟨B, hB⟩ : ∃ B, brs l P t 32 = B := ⟨_, rfl⟩
      have hBL : B.length = L := by rw [← hB, brs_length, HLn.out]
      have HBL := Lib.hid hBL
      have hbs := burst_sum l P t (by rw [HLn.out]; exact hP)
      rw [hB] at hbs
      have k1 : Calls Try.prog 14 #[.slice A1 L c1, .int .i64 P, .int .u32 x] w1 fun e w' => ∃ A2 c2, e = .returned (.tuple #[.slice A2 L c2, .int .i64 0]) ∧ L ≤ c2 ∧ Lies w' A2 (bytesV B) ∧ Fr (fun _ => False) w1 w' := by
        have h := CBurst_ok A1 c1 l P t x HX.out w1 HL1.out (by rw [HLn.out]; omega) (by rw [HLn.out]; exact hP)
        rw [HLn.out, hB] at h
        refine h.mono ?_
        rintro e w2 ⟨v2, rfl, o2⟩
        obtain ⟨A2, c2, rfl, hc2, l2, _⟩ := o2.slice
        rw [hBL] at hc2 ⊢
        exact ⟨A2, c2, rfl, hc2, l2, o2.2⟩
      have k2 : ∀ w2, Fr (fun _ => False) w w2 → Calls Try.prog 15 #[.slice A L c, .int .i64 P, .int .u32 x] w2 fun e w' => ∃ A3 c3, e = .returned (.tuple #[.slice A3 L c3, .bool true]) ∧ L ≤ c3 ∧ Lies w' A3 (bytesV B) ∧ Fr (fun _ => False) w2 w' := fun w2 f2 => by
        have h := QcBurst_ok A c l P t x HX.out w2 (HL.out.fr f2 (fun _ _ e => e)) (by rw [HLn.out]; omega) (by rw [HLn.out]; exact hP)
        rw [HLn.out, hB] at h
        refine h.mono ?_
        rintro e w3 ⟨v3, rfl, o3⟩
        obtain ⟨A3, c3, rfl, hc3, l3, _⟩ := o3.slice
        rw [hBL] at hc3 ⊢
        exact ⟨A3, c3, rfl, hc3, l3, o3.2⟩
      have same : ∀ (X Y : Option Addr) (cx cy : Nat) (ys : List UInt8) (wq : World), ys.length = L → Lies wq X (bytesV ys) → Lies wq Y (bytesV ys) → Calls Try.prog 16 #[.slice X L cx, .slice Y L cy] wq fun e w' => e = .returned (.bool true) ∧ wq = w' := fun X Y cx cy ys wq hy h1 h2 => by
        have h := Same_any X Y cx cy ys ys wq h1 h2
        rw [hy, beq_self_eq_true] at h
        exact h
      have one : ∀ (X : Option Addr) (cx : Nat) (ys : List UInt8) (z : Int) (wq : World), rI (more 0#32 ys) = z → ys.length = L → L ≤ cx → Lies wq X (bytesV ys) → Calls Try.prog 8 #[.slice (some ⟨wq.heap.size, 0, none⟩) 1 1] (wq.alloc (.cells #[.slice X L cx] 24)) fun e w' => e = .returned (.int .u32 z) ∧ Fr (fun _ => False) wq w' := fun X cx ys z wq hz hy hcx h1 => by
        have h := COf_one X cx ys z hz wq h1 (by rw [hy]; exact hcx) (by rw [hy]; omega)
        rw [hy] at h
        exact h
      obtain ⟨zb, hzb⟩ : ∃ z, rI (more 0#32 B) = z := ⟨_, rfl⟩
      obtain ⟨zl, hzl⟩ : ∃ z, rI (more 0#32 l) = z := ⟨_, rfl⟩
      have hzz : zb = zl ↔ x = 0 := by
        rw [← hzb, ← hzl, HX.out]
        constructor
        · intro e
          rw [hbs.1 (rI_inj e)]
          rfl
        · intro e
          rw [hbs.2 (rI_inj (a := t) (b := 0#32) (by rw [e]; rfl))]
      have HZB := Lib.hid hzb
      have HZL := Lib.hid hzl
      have K1 := Lib.hid k1
      have K2 := Lib.hid k2
      have SM := Lib.hid same
      have ON := Lib.hid one
      clear hbad hi hz0 hz1 hz2 hB hBL hbs k1 k2 same one hzb hzl h0 h1
      by_cases hx : x = 0
      · have hz := hzz.2 hx
        clear hzz
        subst hz
        subst hx
        go_wp2_with (first
          | (go_at_call 7; refine (works_any _).mono ?_; rintro e w7 ⟨rfl, b7⟩; have F7 := F6.then_below b7)
          | (go_at_call 8; refine (ON.out A c l zb w5 HZL.out HLn.out hc (HL.out.fr F5 (fun _ _ e => e))).mono ?_; rintro e w6 ⟨rfl, f6⟩; have F6 := F5.trans f6 (fun _ _ e => e))
          | (go_at_call 8; refine (ON.out A2 c2 B zb w3 HZB.out HBL.out hc2 (HL2.out.fr f3 (fun _ _ e => e))).mono ?_; rintro e w5 ⟨rfl, f5⟩; have F5 := F3.trans f5 (fun _ _ e => e))
          | (go_at_call 16; have _ := M1; refine (SM.out A1 A c1 c l w3 HLn.out (HL1.out.fr F13 (fun _ _ e => e)) (HL.out.fr F3 (fun _ _ e => e))).mono ?_; rintro e w4 ⟨rfl, rfl⟩)
          | (go_at_call 16; refine (SM.out A2 A3 c2 c3 B w3 HBL.out (HL2.out.fr f3 (fun _ _ e => e)) HL3.out).mono ?_; rintro e w4 ⟨rfl, rfl⟩; have M1 := True.intro)
          | (go_at_call 15; refine (K2.out w2 F2).mono ?_; rintro e w3 ⟨A3, c3, rfl, hc3, l3, f3⟩; have F3 := F2.trans f3 (fun _ _ e => e); have F13 := f2.trans f3 (fun _ _ e => e); have HL3 := Lib.hid l3; clear l3)
          | (go_at_call 14; refine K1.out.mono ?_; rintro e w2 ⟨A2, c2, rfl, hc2, l2, f2⟩; have F2 := HO.out.2.trans f2 (fun _ _ e => e); have HL2 := Lib.hid l2; clear l2))
        go_ret
        exact ⟨rfl, F7.below (fun _ _ e => e)⟩
      · have hz : ¬ zb = zl := fun e => hx (hzz.1 e)
        have e1 : (zb == zl) = false := by simpa using hz
        have e2 : (x == 0) = false := by simpa using hx
        clear hzz hz hx
        go_wp2_with (first
          | (go_at_call 7; refine (works_any _).mono ?_; rintro e w7 ⟨rfl, b7⟩; have F7 := F6.then_below b7)
          | (go_at_call 8; refine (ON.out A c l zl w5 HZL.out HLn.out hc (HL.out.fr F5 (fun _ _ e => e))).mono ?_; rintro e w6 ⟨rfl, f6⟩; have F6 := F5.trans f6 (fun _ _ e => e))
          | (go_at_call 8; refine (ON.out A2 c2 B zb w3 HZB.out HBL.out hc2 (HL2.out.fr f3 (fun _ _ e => e))).mono ?_; rintro e w5 ⟨rfl, f5⟩; have F5 := F3.trans f5 (fun _ _ e => e))
          | (go_at_call 16; have _ := M1; refine (SM.out A1 A c1 c l w3 HLn.out (HL1.out.fr F13 (fun _ _ e => e)) (HL.out.fr F3 (fun _ _ e => e))).mono ?_; rintro e w4 ⟨rfl, rfl⟩)
          | (go_at_call 16; refine (SM.out A2 A3 c2 c3 B w3 HBL.out (HL2.out.fr f3 (fun _ _ e => e)) HL3.out).mono ?_; rintro e w4 ⟨rfl, rfl⟩; have M1 := True.intro)
          | (go_at_call 15; refine (K2.out w2 F2).mono ?_; rintro e w3 ⟨A3, c3, rfl, hc3, l3, f3⟩; have F3 := F2.trans f3 (fun _ _ e => e); have F13 := f2.trans f3 (fun _ _ e => e); have HL3 := Lib.hid l3; clear l3)
          | (go_at_call 14; refine K1.out.mono ?_; rintro e w2 ⟨A2, c2, rfl, hc2, l2, f2⟩; have F2 := HO.out.2.trans f2 (fun _ _ e => e); have HL2 := Lib.hid l2; clear l2))
        go_ret
        exact ⟨rfl, F7.below (fun _ _ e => e)⟩
end Go.Proofs.Ytfdindkagddjbaa

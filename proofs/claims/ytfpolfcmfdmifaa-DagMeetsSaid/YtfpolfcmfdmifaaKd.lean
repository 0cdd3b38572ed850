/- What is proved: the library's BinarySearch at a list of numbers that rises. Conditions: the list's cells are there. -/
import Derived.Test.YtfpolfcmfdmifaaKc
namespace Go.Proofs.Ytfpolfcmfdmifaa
open Go.RowKit Go.Shelf
set_option linter.unusedVariables false

set_option maxHeartbeats 1600000 in
set_option maxRecDepth 100000 in
theorem GnBSearch_any (A : Option Addr) (c : Nat) (l : List Nat) (x : Nat) (hl : l.length ≤ 1000) (hr : l.Pairwise (· < ·)) (w : World) (h : Lies w A (nC l)) :
    Calls Try.prog 43 #[.slice A l.length c, .int .i64 x] w fun e w' => ∃ p, e = .returned (.tuple #[.int .i64 (p : Nat), .bool (hitB l x p)]) ∧ Half l x p ∧ w = w' := by
  have HL := Lib.hid (lies_nat h (Fr.refl _ w))
  have HRS : Hid (∀ i j, i < j → j < l.length → l.getD i 0 < l.getD j 0) := Lib.hid (fun i j h1 h2 => by
    rw [List.getD_eq_getElem?_getD, List.getD_eq_getElem?_getD, List.getElem?_eq_getElem (by omega), List.getElem?_eq_getElem h2]
    exact List.pairwise_iff_getElem.1 hr i j (by omega) h2 h1)
  obtain ⟨m, hm⟩ : ∃ m, l.length = m := ⟨_, rfl⟩
  have HM := Lib.hid hm
  rw [hm] at hl HL HRS ⊢
  clear h hr hm
  go_enter Try.func43, Try.ntmps43
  go_wp2_with fail
  go_loopg [7, 8] m (fun kx s9 s10 wr => ∃ lo hi : Nat, s9 = .int .i64 lo ∧ s10 = .int .i64 hi ∧ lo ≤ hi ∧ hi ≤ m ∧ hi - lo ≤ kx ∧ w = wr ∧ Hid ((∀ t, t < lo → l.getD t 0 < x) ∧ (∀ t, hi ≤ t → t < m → x ≤ l.getD t 0)))
  case atStart => exact ⟨0, m, rfl, rfl, by omega, by omega, by omega, rfl, Lib.hid ⟨fun t ht => by omega, fun t h1 h2 => by omega⟩⟩
  case round =>
    obtain ⟨lo, hi, rfl, rfl, hlh, him, hkx, rfl, HI⟩ := hrel
    by_cases hlt : lo < hi
    · have hltz : (lo : Int) < (hi : Int) := by omega
      obtain ⟨k, hk⟩ : ∃ k, (lo + hi) / 2 = k := ⟨_, rfl⟩
      have hkm : k < m := by omega
      have hkz : ((lo : Int) + (hi : Int)) / 2 = (k : Int) := by omega
      have hkmz : (k : Int) < (m : Int) := by omega
      have hk0 : (0 : Int) ≤ (k : Int) := by omega
      obtain ⟨b, o, rfl, hc⟩ := HL.out k hkm
      obtain ⟨y, hy⟩ : ∃ y, l.getD k 0 = y := ⟨_, rfl⟩
      rw [hy] at hc
      have HY := Lib.hid hy
      have hwk1 : IntKind.i64.wrap ((k : Int) + 1) = (k : Int) + 1 := by rw [IntKind.wrap_i64]; omega
      have hws : IntKind.i64.wrap ((lo : Int) + (hi : Int)) = (lo : Int) + (hi : Int) := by rw [IntKind.wrap_i64]; omega
      have HK1 : Hid (lo ≤ k ∧ k < hi) := Lib.hid (by omega)
      clear hy hk
      by_cases hyx : y < x
      · have HYX := Lib.hid hyx
        have hyz : (y : Int) < (x : Int) := by omega
        have hdz : decide ((y : Int) < (x : Int)) = true := decide_eq_true hyz
        go_wp2_with (go_at_call 45; refine (GnLess_any _ _ _).mono ?_; rintro e w' ⟨rfl, rfl⟩)
        go_roundg (hi - (k + 1))
        case measure => have := HK1.out; omega
        case rel => exact ⟨k + 1, hi, by go_num, rfl, by have := HK1.out; omega, him, Nat.le_refl _, rfl, Lib.hid ⟨fun t ht => (by omega : t < k ∨ t = k).elim (fun h1 => by have := HRS.out t k h1 hkm; rw [HY.out] at this; have := HYX.out; omega) (fun e => by subst e; rw [HY.out]; exact HYX.out), HI.out.2⟩⟩
      · have HYX := Lib.hid hyx
        have hyz : ¬ (y : Int) < (x : Int) := by omega
        have hdz : decide ((y : Int) < (x : Int)) = false := decide_eq_false hyz
        go_wp2_with (go_at_call 45; refine (GnLess_any _ _ _).mono ?_; rintro e w' ⟨rfl, rfl⟩)
        go_roundg (k - lo)
        case measure => have := HK1.out; omega
        case rel => exact ⟨lo, k, rfl, by go_num, by have := HK1.out; omega, by omega, Nat.le_refl _, rfl, Lib.hid ⟨HI.out.1, fun t h1 h2 => (by omega : k < t ∨ t = k).elim (fun h3 => by have := HRS.out k t h3 h2; rw [HY.out] at this; have := HYX.out; omega) (fun e => by subst e; rw [HY.out]; have := HYX.out; omega)⟩⟩
    · obtain rfl : lo = hi := by omega
      have hltz : ¬ ((lo : Int) < (lo : Int)) := by omega
      have HH : Hid (Half l x lo) := Lib.hid ⟨by rw [HM.out]; exact him, HI.out.1, fun t h1 h2 => HI.out.2 t h1 (by rw [← HM.out]; exact h2)⟩
      by_cases hlm : lo < m
      · have hlmz : (lo : Int) < (m : Int) := by omega
        have hdz : decide ((lo : Int) < (m : Int)) = true := decide_eq_true hlmz
        obtain ⟨b, o, rfl, hc⟩ := HL.out lo hlm
        obtain ⟨y, hy⟩ : ∃ y, l.getD lo 0 = y := ⟨_, rfl⟩
        rw [hy] at hc
        have HY := Lib.hid hy
        clear hy
        by_cases hyx : y = x
        · have HD : Hid (hitB l x lo = true) := Lib.hid (by unfold hitB; rw [HY.out, HM.out]; exact decide_eq_true ⟨hlm, hyx⟩)
          subst hyx
          go_wp2
          go_ret2
          exact ⟨lo, by rw [HD.out]; rfl, HH.out, rfl⟩
        · have HD : Hid (hitB l x lo = false) := Lib.hid (by unfold hitB; rw [HY.out]; exact decide_eq_false (fun h => hyx h.2))
          have hyz : ¬ ((y : Int) = (x : Int)) := by omega
          have hbz : ((y : Int) == (x : Int)) = false := by simpa using hyz
          clear hyx
          go_wp2
          go_ret2
          exact ⟨lo, by rw [HD.out]; rfl, HH.out, rfl⟩
      · have hlmz : ¬ ((lo : Int) < (m : Int)) := by omega
        have hdz : decide ((lo : Int) < (m : Int)) = false := decide_eq_false hlmz
        have HD : Hid (hitB l x lo = false) := Lib.hid (by unfold hitB; rw [HM.out]; exact decide_eq_false (fun h => hlm h.1))
        go_wp2
        go_ret2
        exact ⟨lo, by rw [HD.out]; rfl, HH.out, rfl⟩
end Go.Proofs.Ytfpolfcmfdmifaa

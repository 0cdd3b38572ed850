/- What is proved: Join's error, the document's own Join, and the walks of the laws CrcJoins and CrcParts. Conditions: the bytes lie where they are said to lie. -/
import Derived.Test.YtfdindkagddjbaaCrn
import Derived.Test.YtfdindkagddjbaaCro
import Derived.Deep.RegionWith
namespace Go.Proofs.Ytfdindkagddjbaa
open Go.RowKit
set_option linter.unusedVariables false

set_option maxHeartbeats 800000 in
theorem CJoin_bad (x y n : Int) (h : n < 0 ∨ 65536 < n) (w : World) :
    Calls Try.prog 12 #[.int .u32 x, .int .u32 y, .int .i64 n] w fun e w' => e = .returned (.tuple #[.int .u32 0, .int .i64 2]) ∧ Below w.heap.size w w' := by
  go_enter Try.func12, Try.ntmps12
  rcases h with h | h
  · go_wp2
    go_ret2
    exact ⟨rfl, Below.refl _ _⟩
  · have h0 : ¬ n < 0 := by omega
    go_wp2
    go_ret2
    exact ⟨rfl, Below.refl _ _⟩

set_option maxHeartbeats 800000 in
theorem QcJoin_any (a b : BitVec 32) (x y : Int) (hx : x = rI a) (hy : y = rI b) (n : Nat) (hn : n ≤ 65536) (w : World) :
    Calls Try.prog 13 #[.int .u32 x, .int .u32 y, .int .i64 n] w fun e w' => e = .returned (.int .u32 (rI (stpN (8 * n) a ^^^ b))) ∧ w = w' := by
  have HX := Lib.hid hx
  have HY := Lib.hid hy
  clear hx hy
  go_enter Try.func13, Try.ntmps13
  go_wp2
  go_loopw [0, 7] (fun v i wr => ∃ k : Nat, k ≤ n ∧ i = .int .i64 k ∧ v = .int .u32 (rI (stpN (8 * k) a)) ∧ wr = w) (fun _ i _ => n - (intOf i).toNat)
  case atStart => exact ⟨0, by omega, rfl, by rw [HX.out]; rfl, rfl⟩
  case round =>
    obtain ⟨k, hk, rfl, rfl, rfl⟩ := hrel
    have hst : stpN (8 * (k + 1)) a = tk (stpN (8 * k) a) 0 := by
      unfold tk
      rw [show bv 0 = 0#32 from rfl, BitVec.xor_zero, ← stpN_add, Nat.mul_add, Nat.add_comm 8]
    obtain ⟨q, hq⟩ : ∃ q, stpN (8 * k) a = q := ⟨_, rfl⟩
    rw [hq] at hst ⊢
    obtain ⟨z, hz⟩ : ∃ z, rI q = z := ⟨_, rfl⟩
    rw [hz]
    have HST := Lib.hid hst
    have HQ := Lib.hid hq
    have HZ := Lib.hid hz
    clear hst hq hz
    by_cases hlt : k < n
    · go_wp2_with (go_at_call 18; refine (Qctake_any q 0 z 0 HZ.out.symm rfl _).mono ?_; rintro e w' ⟨rfl, rfl⟩)
      go_roundw
      case rel => exact ⟨k + 1, by omega, by go_num, by rw [HST.out], trivial⟩
      case measure => simp [intOf]; omega
    · obtain rfl : k = n := by omega
      have hx := xor_rI q b
      rw [HZ.out, ← HY.out] at hx
      have HXQ := Lib.hid hx
      clear hx
      go_wp2_with fail
      go_ret
      exact ⟨by rw [HQ.out, ← HXQ.out]; rfl, rfl⟩

set_option maxHeartbeats 800000 in
theorem joins_walk (a b : BitVec 32) (x y : Int) (hx : x = rI a) (hy : y = rI b) (n : Int) (h0 : -9223372036854775808 ≤ n) (h1 : n ≤ 9223372036854775807) (w : World) :
    Calls Try.prog 4 #[.int .u32 x, .int .u32 y, .int .i64 n] w fun e w' => e = .returned (.bool true) ∧ Below w.heap.size w w' := by
  have HX := Lib.hid hx
  have HY := Lib.hid hy
  clear hx hy
  by_cases hb : n < 0 ∨ 65536 < n
  · have HB := Lib.hid hb
    go_enter Try.func4, Try.ntmps4
    rcases hb with hb | hb
    · go_wp2_with (first
        | (go_at_call 12; refine (CJoin_bad _ _ _ HB.out _).mono ?_; rintro e w2 ⟨rfl, b2⟩)
        | (go_at_call 7; refine (works_any _).mono ?_; rintro e w4 ⟨rfl, b4⟩))
      go_ret
      exact ⟨rfl, ((Fr.of_below (S := fun _ => False) b2).then_below b4).below (fun _ _ e => e)⟩
    · have hb0 : ¬ n < 0 := by omega
      go_wp2_with (first
        | (go_at_call 12; refine (CJoin_bad _ _ _ HB.out _).mono ?_; rintro e w2 ⟨rfl, b2⟩)
        | (go_at_call 7; refine (works_any _).mono ?_; rintro e w4 ⟨rfl, b4⟩))
      go_ret
      exact ⟨rfl, ((Fr.of_below (S := fun _ => False) b2).then_below b4).below (fun _ _ e => e)⟩
  · obtain ⟨m, rfl⟩ : ∃ m : Nat, n = m := ⟨n.toNat, by omega⟩
    have hm : m ≤ 65536 := by omega
    have hb0 : ¬ (m : Int) < 0 := by omega
    have hb1 : ¬ 65536 < (m : Int) := by omega
    clear hb
    obtain ⟨z, hz⟩ : ∃ z, rI (stpN (8 * m) a ^^^ b) = z := ⟨_, rfl⟩
    have HZ := Lib.hid hz
    clear hz
    go_enter Try.func4, Try.ntmps4
    go_wp2_with (first
      | (go_at_call 12; refine Calls.mono (by have h := CJoin_any a b x y HX.out HY.out m hm w; rw [HZ.out] at h; exact h) ?_; rintro e w2 ⟨rfl, b2⟩)
      | (go_at_call 13; refine Calls.mono (by have h := QcJoin_any a b x y HX.out HY.out m hm w2; rw [HZ.out] at h; exact h) ?_; rintro e w3 ⟨rfl, rfl⟩)
      | (go_at_call 7; refine (works_any _).mono ?_; rintro e w4 ⟨rfl, b4⟩))
    go_ret
    exact ⟨rfl, ((Fr.of_below (S := fun _ => False) b2).then_below b4).below (fun _ _ e => e)⟩

/-- The sum of one text, of two texts, handed on as a list that the call itself lays. -/
theorem COf_one (A : Option Addr) (c : Nat) (xs : List UInt8) (z : Int) (hz : rI (more 0#32 xs) = z) (w : World) (hl : Lies w A (bytesV xs)) (hc : xs.length ≤ c) (hn : xs.length ≤ 9223372036854775807) :
    Calls Try.prog 8 #[.slice (some ⟨w.heap.size, 0, none⟩) 1 1] (w.alloc (.cells #[.slice A xs.length c] 24)) fun e w' => e = .returned (.int .u32 z) ∧ Fr (fun _ => False) w w' := by
  have hF : Fr (fun _ => False) w (w.alloc (.cells #[.slice A xs.length c] 24)) := (Fr.refl _ w).alloc _
  have hP : Parts (w.alloc (.cells #[.slice A xs.length c] 24)) (some ⟨w.heap.size, 0, none⟩) [xs] := .inr ⟨w.heap.size, 0, rfl, fun i p hi => by
    match i, hi with
    | 0, hi =>
      simp at hi
      subst hi
      exact ⟨A, c, by rw [Nat.add_zero, (Whole.new w 24 #[.slice A xs.length c]).cell]; rfl, hc, hl.fr hF (fun _ _ e => e)⟩⟩
  have h := COf_any (some ⟨w.heap.size, 0, none⟩) 1 [xs] _ hP (by simp) (by simpa using hn)
  rw [show [xs].flatten = xs by simp, hz] at h
  exact h.mono fun e w' ⟨he, hb⟩ => ⟨he, hF.then_below hb⟩
theorem COf_two (A B : Option Addr) (c d : Nat) (xs ys : List UInt8) (z : Int) (hz : rI (more (more 0#32 xs) ys) = z) (w : World) (hl : Lies w A (bytesV xs)) (hm : Lies w B (bytesV ys)) (hc : xs.length ≤ c) (hd : ys.length ≤ d) (hn : xs.length + ys.length ≤ 9223372036854775807) :
    Calls Try.prog 8 #[.slice (some ⟨w.heap.size, 0, none⟩) 2 2] (w.alloc (.cells #[.slice A xs.length c, .slice B ys.length d] 24)) fun e w' => e = .returned (.int .u32 z) ∧ Fr (fun _ => False) w w' := by
  have hF : Fr (fun _ => False) w (w.alloc (.cells #[.slice A xs.length c, .slice B ys.length d] 24)) := (Fr.refl _ w).alloc _
  have hP : Parts (w.alloc (.cells #[.slice A xs.length c, .slice B ys.length d] 24)) (some ⟨w.heap.size, 0, none⟩) [xs, ys] := .inr ⟨w.heap.size, 0, rfl, fun i p hi => by
    match i, hi with
    | 0, hi =>
      simp at hi
      subst hi
      exact ⟨A, c, by rw [Nat.add_zero, (Whole.new w 24 #[.slice A xs.length c, .slice B ys.length d]).cell]; rfl, hc, hl.fr hF (fun _ _ e => e)⟩
    | 1, hi =>
      simp at hi
      subst hi
      exact ⟨B, d, by rw [Nat.zero_add, (Whole.new w 24 #[.slice A xs.length c, .slice B ys.length d]).cell]; rfl, hd, hm.fr hF (fun _ _ e => e)⟩⟩
  have h := COf_any (some ⟨w.heap.size, 0, none⟩) 2 [xs, ys] _ hP (by simp) (by simpa using hn)
  rw [show [xs, ys].flatten = xs ++ ys by simp, more_append, hz] at h
  exact h.mono fun e w' ⟨he, hb⟩ => ⟨he, hF.then_below hb⟩

set_option maxHeartbeats 1600000 in
theorem parts_walk (A B : Option Addr) (c d : Nat) (xs ys : List UInt8) (w : World) (hx : Lies w A (bytesV xs)) (hy : Lies w B (bytesV ys)) (hc : xs.length ≤ c) (hd : ys.length ≤ d) :
    Calls Try.prog 5 #[.slice A xs.length c, .slice B ys.length d] w fun e w' => e = .returned (.bool true) ∧ Below w.heap.size w w' := by
  have HX := Lib.hid hx
  have HY := Lib.hid hy
  clear hx hy
  go_enter Try.func5, Try.ntmps5
  by_cases hn : (2000 : Int) < xs.length
  · go_wp2_with (go_at_call 7; refine (works_any _).mono ?_; rintro e w4 ⟨rfl, b4⟩)
    go_ret
    exact ⟨rfl, b4⟩
  · by_cases hm : (2000 : Int) < ys.length
    · go_wp2_with (go_at_call 7; refine (works_any _).mono ?_; rintro e w4 ⟨rfl, b4⟩)
      go_ret
      exact ⟨rfl, b4⟩
    · obtain ⟨z1, hz1⟩ : ∃ z, rI (more 0#32 xs) = z := ⟨_, rfl⟩
      obtain ⟨z2, hz2⟩ : ∃ z, rI (more 0#32 ys) = z := ⟨_, rfl⟩
      obtain ⟨z3, hz3⟩ : ∃ z, rI (more (more 0#32 xs) ys) = z := ⟨_, rfl⟩
      have HZ1 := Lib.hid hz1
      have HZ2 := Lib.hid hz2
      have HZ3 := Lib.hid hz3
      have HM := Lib.hid (more_join (more 0#32 xs) ys)
      clear hz1 hz2 hz3
      go_wp2_with (first
        | (go_at_call 7; refine (works_any _).mono ?_; rintro e w7 ⟨rfl, b7⟩; have F7 := F6.then_below b7)
        | (go_at_call 10; refine Calls.mono (by have h := CMore_any (more 0#32 xs) z1 HZ1.out.symm B d ys w5 (HY.out.fr F5 (fun _ _ e => e)) (by omega); rw [HZ3.out] at h; exact h) ?_; rintro e w6 ⟨rfl, b6⟩; have F6 := F5.then_below b6)
        | (go_at_call 8; refine (COf_one A c xs z1 HZ1.out w4 (HX.out.fr F4 (fun _ _ e => e)) hc (by omega)).mono ?_; rintro e w5 ⟨rfl, f5⟩; have F5 := F4.trans f5 (fun _ _ e => e))
        | (go_at_call 8; refine (COf_two A B c d xs ys z3 HZ3.out w3 (HX.out.fr F3 (fun _ _ e => e)) (HY.out.fr F3 (fun _ _ e => e)) hc hd (by omega)).mono ?_; rintro e w4 ⟨rfl, f4⟩; have F4 := F3.trans f4 (fun _ _ e => e))
        | (go_at_call 12; refine Calls.mono (by have h := CJoin_any (more 0#32 xs) (more 0#32 ys) z1 z2 HZ1.out.symm HZ2.out.symm ys.length (by omega) w2; rw [← HM.out, HZ3.out] at h; exact h) ?_; rintro e w3 ⟨rfl, b3⟩; have F3 := F2.then_below b3)
        | (go_at_call 8; refine (COf_one B d ys z2 HZ2.out w1 (HY.out.fr f1 (fun _ _ e => e)) hd (by omega)).mono ?_; rintro e w2 ⟨rfl, f2⟩; have F2 := f1.trans f2 (fun _ _ e => e))
        | (go_at_call 8; refine (COf_one A c xs z1 HZ1.out w HX.out hc (by omega)).mono ?_; rintro e w1 ⟨rfl, f1⟩))
      go_ret
      exact ⟨rfl, F7.below (fun _ _ e => e)⟩
end Go.Proofs.Ytfdindkagddjbaa

/- What is proved: what the walks of this seat need of layers below, merged out of the texts Cra Crb (of each just what is needed). Conditions: each theorem names its own. -/
import Derived.Test.YtkaeoflgnnlbeaaGreatDoorRows
import Derived.Laws.BitsAllLaws
import Derived.Deep.DeepFit
import Derived.WalkSpells
import Derived.WalkLawsBesides
import Derived.Test.YtkaeoflgnnlbeaaGreatDoorDa
/- What is proved: plain facts on registers of 32 bits: the step is linear and loses nothing; what taking bytes makes; what turning bits makes of it. Conditions: none; no program is named. -/
namespace Go.Proofs.YtkaeoflgnnlbeaaGreatDoor
open Go.RowKit
set_option linter.unusedVariables false
/-- One step of the register. -/
def stp (r : BitVec 32) : BitVec 32 := (r >>> 1) ^^^ (if r.getLsbD 0 then 0xedb88320#32 else 0#32)
/-- n steps. -/
def stpN : Nat → BitVec 32 → BitVec 32
  | 0, r => r
  | n + 1, r => stpN n (stp r)
theorem stp_xor (a b : BitVec 32) : stp (a ^^^ b) = stp a ^^^ stp b := by
  unfold stp
  rw [BitVec.getLsbD_xor, BitVec.ushiftRight_xor_distrib]
  generalize a >>> 1 = x
  generalize b >>> 1 = y
  cases a.getLsbD 0 <;> cases b.getLsbD 0 <;> simp only [Bool.xor_false, Bool.xor_true, Bool.not_true, Bool.not_false, if_true, if_false, Bool.false_eq_true, BitVec.xor_zero]
  · rw [BitVec.xor_assoc]
  · rw [BitVec.xor_assoc, BitVec.xor_assoc, BitVec.xor_comm y]
  · rw [BitVec.xor_comm y, ← BitVec.xor_assoc, BitVec.xor_assoc x, BitVec.xor_self, BitVec.xor_zero]
theorem stp_zero : stp 0#32 = 0#32 := by decide
theorem stp_top (r : BitVec 32) : (stp r).getLsbD 31 = r.getLsbD 0 := by
  unfold stp
  rw [BitVec.getLsbD_xor, BitVec.getLsbD_ushiftRight]
  cases h : r.getLsbD 0 <;> simp
theorem stp_ne (r : BitVec 32) (h : stp r = 0#32) : r = 0#32 := by
  have h0 : r.getLsbD 0 = false := by rw [← stp_top, h]; simp
  unfold stp at h
  rw [h0] at h
  simp at h
  apply BitVec.eq_of_getLsbD_eq
  intro i hi
  rcases Nat.eq_zero_or_pos i with rfl | hp
  · rw [h0]; simp
  · have := congrArg (fun x => x.getLsbD (i - 1)) h
    simp [BitVec.getLsbD_ushiftRight] at this
    rw [show 1 + (i - 1) = i by omega] at this
    rw [this]; simp
theorem stpN_xor (n : Nat) (a b : BitVec 32) : stpN n (a ^^^ b) = stpN n a ^^^ stpN n b := by
  induction n generalizing a b with
  | zero => rfl
  | succ n ih => rw [stpN, stpN, stpN, stp_xor, ih]
theorem stpN_zero (n : Nat) : stpN n 0#32 = 0#32 := by
  induction n with
  | zero => rfl
  | succ n ih => rw [stpN, stp_zero, ih]
theorem stpN_add (m n : Nat) (r : BitVec 32) : stpN (m + n) r = stpN m (stpN n r) := by
  induction n generalizing r with
  | zero => rfl
  | succ n ih => rw [← Nat.add_assoc, stpN, ih, stpN]
theorem stpN_succ (n : Nat) (r : BitVec 32) : stpN (n + 1) r = stp (stpN n r) := by rw [Nat.add_comm, stpN_add]; rfl
theorem stpN_ne (n : Nat) (r : BitVec 32) (h : stpN n r = 0#32) : r = 0#32 := by
  induction n generalizing r with
  | zero => exact h
  | succ n ih => exact stp_ne r (ih _ h)
/-- A byte as a register. -/
def bv (b : UInt8) : BitVec 32 := BitVec.ofNat 32 b.toNat
/-- The register behind a byte, behind bytes. -/
def tk (r : BitVec 32) (b : UInt8) : BitVec 32 := stpN 8 (r ^^^ bv b)
def tks (r : BitVec 32) (l : List UInt8) : BitVec 32 := l.foldl tk r
/-- The sum of a text whose sum is c, with l behind it. -/
def more (c : BitVec 32) (l : List UInt8) : BitVec 32 := (tks (c ^^^ 0xffffffff#32) l) ^^^ 0xffffffff#32
theorem tks_append (r : BitVec 32) (l m : List UInt8) : tks r (l ++ m) = tks (tks r l) m := by unfold tks; rw [List.foldl_append]
theorem tk_xor (a r : BitVec 32) (b : UInt8) : tk (a ^^^ r) b = stpN 8 a ^^^ tk r b := by
  unfold tk
  rw [BitVec.xor_assoc, stpN_xor]
theorem tks_xor (a r : BitVec 32) (l : List UInt8) : tks (a ^^^ r) l = stpN (8 * l.length) a ^^^ tks r l := by
  induction l generalizing a r with
  | nil => rfl
  | cons b l ih =>
    show tks (tk (a ^^^ r) b) l = _ ^^^ tks (tk r b) l
    rw [tk_xor, ih, ← stpN_add, List.length_cons]
    congr 2
theorem all_self (x : BitVec 32) : x ^^^ 0xffffffff#32 ^^^ 0xffffffff#32 = x := by rw [BitVec.xor_assoc, BitVec.xor_self, BitVec.xor_zero]
theorem more_append (c : BitVec 32) (l m : List UInt8) : more c (l ++ m) = more (more c l) m := by
  unfold more
  rw [all_self, tks_append]
theorem more_nil (c : BitVec 32) : more c [] = c := all_self c
/-- What a byte that is turned makes of the register. -/
theorem bv_xor (a b : UInt8) : bv (a ^^^ b) = bv a ^^^ bv b := by
  unfold bv
  rw [UInt8.toNat_xor, BitVec.ofNat_xor]
theorem tks_set (l : List UInt8) (r : BitVec 32) (i : Nat) (v : UInt8) (hi : i < l.length) : tks r (l.set i (l.getD i 0 ^^^ v)) = tks r l ^^^ stpN (8 * (l.length - i)) (bv v) := by
  induction l generalizing r i with
  | nil => simp at hi
  | cons b l ih =>
    cases i with
    | zero =>
      show tks (tk r (b ^^^ v)) l = tks (tk r b) l ^^^ _
      have e : tk r (b ^^^ v) = stpN 8 (bv v) ^^^ tk r b := by
        unfold tk
        rw [bv_xor, ← BitVec.xor_assoc, stpN_xor, BitVec.xor_comm]
      rw [e, tks_xor, ← stpN_add, BitVec.xor_comm, List.length_cons]
      congr 2
    | succ i =>
      show tks (tk r b) (l.set i (l.getD i 0 ^^^ v)) = _
      rw [ih _ _ (by simpa using hi), List.length_cons]
      show tks r (b :: l) ^^^ _ = _
      congr 3
      omega
/-- A single bit steps down to the lowest place. -/
theorem stp_bit (k : Nat) (hk : k < 31) : stp (BitVec.twoPow 32 (k + 1)) = BitVec.twoPow 32 k := by
  unfold stp
  rw [BitVec.getLsbD_twoPow]
  simp only [Nat.add_eq_zero_iff, Nat.succ_ne_self, and_false, decide_false, Bool.and_false, Bool.false_eq_true, if_false, BitVec.xor_zero]
  apply BitVec.eq_of_getLsbD_eq
  intro i hi
  rw [BitVec.getLsbD_ushiftRight, BitVec.getLsbD_twoPow, BitVec.getLsbD_twoPow]
  have e : decide (k + 1 < 32) = true := by simp; omega
  have e' : decide (k < 32) = true := by simp; omega
  rw [e, e']
  simp only [Bool.true_and, decide_eq_decide]
  omega
theorem stpN_bit (k : Nat) (hk : k < 32) : stpN k (BitVec.twoPow 32 k) = 1#32 := by
  induction k with
  | zero => rfl
  | succ k ih => rw [stpN, stp_bit k (by omega), ih (by omega)]
/-- The number of a register. -/
def rI (r : BitVec 32) : Int := (r.toNat : Int)
theorem rI_lo (r : BitVec 32) : 0 ≤ rI r := Int.natCast_nonneg _
theorem rI_hi (r : BitVec 32) : rI r < 4294967296 := by have := r.isLt; unfold rI; omega
theorem xor_rI (a b : BitVec 32) : bits .xor .u32 (rI a) (rI b) = rI (a ^^^ b) := by
  unfold rI
  rw [u32_xor_nat _ _ a.isLt b.isLt, BitVec.toNat_xor]
theorem and1 (x : Int) (h0 : 0 ≤ x) (h1 : x < 4294967296) : bits .and .u32 x 1 = x % 2 := by
  rw [u32_and x 1 h0 h1 (by decide) (by decide)]
  show ((x.toNat &&& 1 : Nat) : Int) = _
  rw [Nat.and_one_is_mod]
  omega
theorem rI_shift (r : BitVec 32) : rI (r >>> 1) = rI r / 2 := by
  unfold rI
  rw [BitVec.toNat_ushiftRight, Nat.shiftRight_eq_div_pow]
  omega
theorem bit0 (r : BitVec 32) : r.getLsbD 0 = decide (rI r % 2 = 1) := by
  rw [← BitVec.testBit_toNat, Nat.testBit_zero]
  unfold rI
  rw [decide_eq_decide]
  omega
theorem stp_odd (r : BitVec 32) (h : rI r % 2 = 1) : bits .xor .u32 (rI r / 2) 3988292384 = rI (stp r) := by
  have e : (3988292384 : Int) = rI 0xedb88320#32 := rfl
  rw [← rI_shift, e, xor_rI]
  unfold stp
  rw [bit0, h]
  rfl
theorem stp_even (r : BitVec 32) (h : rI r % 2 ≠ 1) : rI r / 2 = rI (stp r) := by
  rw [← rI_shift]
  unfold stp
  rw [bit0, decide_eq_false h]
  simp
theorem stp_even0 (r : BitVec 32) (h : rI r % 2 ≠ 1) : bits .xor .u32 (rI r / 2) 0 = rI (stp r) := by
  rw [← stp_even r h, ← rI_shift]
  have e : (0 : Int) = rI 0#32 := rfl
  rw [e, xor_rI, BitVec.xor_zero]
theorem not_rI (r : BitVec 32) : bits .xor .u32 4294967295 (rI r) = rI (r ^^^ 0xffffffff#32) := by
  have e : (4294967295 : Int) = rI 0xffffffff#32 := rfl
  rw [e, xor_rI, BitVec.xor_comm]
theorem bv_rI (b : UInt8) : rI (bv b) = (b.toNat : Int) := by
  have := b.toNat_lt
  unfold rI bv
  rw [BitVec.toNat_ofNat, Nat.mod_eq_of_lt (by omega)]
end Go.Proofs.YtkaeoflgnnlbeaaGreatDoor
/- What is proved: what taking one byte makes of the register, by the program and by the document. Conditions: none. -/
namespace Go.Proofs.YtkaeoflgnnlbeaaGreatDoor
open Go.RowKit
set_option linter.unusedVariables false
set_option maxHeartbeats 800000 in
theorem Ctaken_any (r : BitVec 32) (b : UInt8) (x y : Int) (hx : x = rI r) (hy : y = (b.toNat : Int)) (w : World) :
    Calls Tryz.prog 110 #[.int .u32 x, .int .u8 y] w fun e w' => e = .returned (.int .u32 (rI (tk r b))) ∧ w = w' := by
  have hb := b.toNat_lt
  have hy0 : 0 ≤ y := by omega
  have hy1 : y < 256 := by omega
  have hx0 : 0 ≤ x := by rw [hx]; exact rI_lo r
  have hx1 : x < 4294967296 := by rw [hx]; exact rI_hi r
  have HX := Lib.hid hx
  have HY := Lib.hid hy
  clear hx hy hb
  go_enter Tryz.func110, Tryz.ntmps110
  go_wp2
  have h0 : bits .xor .u32 x y = rI (stpN 0 (r ^^^ bv b)) := by rw [HX.out, HY.out, ← bv_rI, xor_rI]; rfl
  rw [h0]
  clear h0
  go_loopw [0, 9] (fun v i wr => ∃ k : Nat, k ≤ 8 ∧ i = .int .i64 k ∧ v = .int .u32 (rI (stpN k (r ^^^ bv b))) ∧ wr = w) (fun _ i _ => 8 - (intOf i).toNat)
  case atStart => exact ⟨0, by omega, rfl, rfl, rfl⟩
  case round =>
    obtain ⟨k, hk, rfl, rfl, rfl⟩ := hrel
    have HN := Lib.hid (stpN_succ k (r ^^^ bv b))
    have HE := Lib.hid (show tk r b = stpN 8 (r ^^^ bv b) from rfl)
    obtain ⟨q, hq⟩ : ∃ q, stpN k (r ^^^ bv b) = q := ⟨_, rfl⟩
    rw [hq] at HN ⊢
    have HQ := Lib.hid hq
    clear hq
    have q0 := rI_lo q
    have q1 := rI_hi q
    have M1 := stp_odd q
    have M0 := stp_even0 q
    obtain ⟨z, hz⟩ : ∃ z, rI q = z := ⟨_, rfl⟩
    rw [hz] at q0 q1 M1 M0 ⊢
    have HZ := Lib.hid hz
    have M1 := Lib.hid M1
    have M0 := Lib.hid M0
    clear hz
    have qa := and1 z q0 q1
    by_cases hlt : k < 8
    · by_cases hodd : z % 2 = 1
      · have HM := Lib.hid (M1.out hodd)
        rw [hodd] at qa
        go_wp2_with fail
        go_roundw
        case rel => exact ⟨k + 1, by omega, by go_num, by rw [HN.out, ← HM.out], trivial⟩
        case measure => simp [intOf]; omega
      · have hev : z % 2 = 0 := by omega
        rw [hev] at qa
        have HM := Lib.hid (M0.out hodd)
        go_wp2_with fail
        go_roundw
        case rel => exact ⟨k + 1, by omega, by go_num, by rw [HN.out, ← HM.out], trivial⟩
        case measure => simp [intOf]; omega
    · obtain rfl : k = 8 := by omega
      go_wp2_with fail
      go_ret
      exact ⟨by rw [HE.out, HQ.out, HZ.out]; rfl, rfl⟩
set_option maxHeartbeats 800000 in
theorem Qctake_any (r : BitVec 32) (b : UInt8) (x y : Int) (hx : x = rI r) (hy : y = (b.toNat : Int)) (w : World) :
    Calls Tryz.prog 84 #[.int .u32 x, .int .u8 y] w fun e w' => e = .returned (.int .u32 (rI (tk r b))) ∧ w = w' := by
  have hb := b.toNat_lt
  have hy0 : 0 ≤ y := by omega
  have hy1 : y < 256 := by omega
  have hx0 : 0 ≤ x := by rw [hx]; exact rI_lo r
  have hx1 : x < 4294967296 := by rw [hx]; exact rI_hi r
  have HX := Lib.hid hx
  have HY := Lib.hid hy
  clear hx hy hb
  go_enter Tryz.func84, Tryz.ntmps84
  go_wp2
  have h0 : bits .xor .u32 x y = rI (stpN 0 (r ^^^ bv b)) := by rw [HX.out, HY.out, ← bv_rI, xor_rI]; rfl
  rw [h0]
  clear h0
  go_loopw [0, 5] (fun v i wr => ∃ k : Nat, k ≤ 8 ∧ i = .int .i64 k ∧ v = .int .u32 (rI (stpN k (r ^^^ bv b))) ∧ wr = w) (fun _ i _ => 8 - (intOf i).toNat)
  case atStart => exact ⟨0, by omega, rfl, rfl, rfl⟩
  case round =>
    obtain ⟨k, hk, rfl, rfl, rfl⟩ := hrel
    have HN := Lib.hid (stpN_succ k (r ^^^ bv b))
    have HE := Lib.hid (show tk r b = stpN 8 (r ^^^ bv b) from rfl)
    obtain ⟨q, hq⟩ : ∃ q, stpN k (r ^^^ bv b) = q := ⟨_, rfl⟩
    rw [hq] at HN ⊢
    have HQ := Lib.hid hq
    clear hq
    have q0 := rI_lo q
    have q1 := rI_hi q
    have M1 := stp_odd q
    have M0 := stp_even q
    obtain ⟨z, hz⟩ : ∃ z, rI q = z := ⟨_, rfl⟩
    rw [hz] at q0 q1 M1 M0 ⊢
    have HZ := Lib.hid hz
    have M1 := Lib.hid M1
    have M0 := Lib.hid M0
    clear hz
    by_cases hlt : k < 8
    · by_cases hodd : z % 2 = 1
      · have HM := Lib.hid (M1.out hodd)
        go_wp2_with fail
        go_roundw
        case rel => exact ⟨k + 1, by omega, by go_num, by rw [HN.out, ← HM.out], trivial⟩
        case measure => simp [intOf]; omega
      · have HM := Lib.hid (M0.out hodd)
        go_wp2_with fail
        go_roundw
        case rel => exact ⟨k + 1, by omega, by go_num, by rw [HN.out, ← HM.out], trivial⟩
        case measure => simp [intOf]; omega
    · obtain rfl : k = 8 := by omega
      go_wp2_with fail
      go_ret
      exact ⟨by rw [HE.out, HQ.out, HZ.out]; rfl, rfl⟩
end Go.Proofs.YtkaeoflgnnlbeaaGreatDoor

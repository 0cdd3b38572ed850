/- What is proved: what taking one byte makes of the register, by the program and by the document. Conditions: none. -/
import Derived.Test.YtfdindkagddjbaaCra
import Derived.Deep.DeepFit
import Derived.WalkSpells
import Derived.WalkLawsBesides
namespace Go.Proofs.Ytfdindkagddjbaa
open Go.RowKit
set_option linter.unusedVariables false

set_option maxHeartbeats 800000 in
theorem Ctaken_any (r : BitVec 32) (b : UInt8) (x y : Int) (hx : x = rI r) (hy : y = (b.toNat : Int)) (w : World) :
    Calls Try.prog 17 #[.int .u32 x, .int .u8 y] w fun e w' => e = .returned (.int .u32 (rI (tk r b))) ∧ w = w' := by
  have hb := b.toNat_lt
  have hy0 : 0 ≤ y := by omega
  have hy1 : y < 256 := by omega
  have hx0 : 0 ≤ x := by rw [hx]; exact rI_lo r
  have hx1 : x < 4294967296 := by rw [hx]; exact rI_hi r
  have HX := Lib.hid hx
  have HY := Lib.hid hy
  clear hx hy hb
  go_enter Try.func17, Try.ntmps17
  go_wp2
  have h0 : bits .xor .u32 x y = rI (stpN 0 (r ^^^ bv b)) := by rw [HX.out, HY.out, ← bv_rI, xor_rI]; rfl
  rw [h0]
  clear h0
  go_loopw [0, 9] (fun v i wr => ∃ k : Nat, k ≤ 8 ∧ i = .int .i64 k ∧ v = .int .u32 (rI (stpN k (r ^^^ bv b))) ∧ wr = w) (fun _ i _ => 8 - (intOf i).toNat)
  case atStart => exact ⟨0, by omega, rfl, rfl, rfl⟩
  case round =>
    obtain ⟨k, hk, rfl, rfl, rfl⟩ := hrel
    have HN := Lib.hid (stpN_succ k (r ^^^ bv b))
    have HE := Lib.hid (show tk r b = stpN 8 (r ^^^ bv b) from rfl)
    obtain ⟨q, hq⟩ : ∃ q, stpN k (r ^^^ bv b) = q := ⟨_, rfl⟩
    rw [hq] at HN ⊢
    have HQ := Lib.hid hq
    clear hq
    have q0 := rI_lo q
    have q1 := rI_hi q
    have M1 := stp_odd q
    have M0 := stp_even0 q
    obtain ⟨z, hz⟩ : ∃ z, rI q = z := ⟨_, rfl⟩
    rw [hz] at q0 q1 M1 M0 ⊢
    have HZ := Lib.hid hz
    have M1 := Lib.hid M1
    have M0 := Lib.hid M0
    clear hz
    have qa := and1 z q0 q1
    by_cases hlt : k < 8
    · by_cases hodd : z % 2 = 1
      · have HM := Lib.hid (M1.out hodd)
        rw [hodd] at qa
        go_wp2_with fail
        go_roundw
        case rel => exact ⟨k + 1, by omega, by go_num, by rw [HN.out, ← HM.out], trivial⟩
        case measure => simp [intOf]; omega
      · have hev : z % 2 = 0 := by omega
        rw [hev] at qa
        have HM := Lib.hid (M0.out hodd)
        go_wp2_with fail
        go_roundw
        case rel => exact ⟨k + 1, by omega, by go_num, by rw [HN.out, ← HM.out], trivial⟩
        case measure => simp [intOf]; omega
    · obtain rfl : k = 8 := by omega
      go_wp2_with fail
      go_ret
      exact ⟨by rw [HE.out, HQ.out, HZ.out]; rfl, rfl⟩

set_option maxHeartbeats 800000 in
theorem Qctake_any (r : BitVec 32) (b : UInt8) (x y : Int) (hx : x = rI r) (hy : y = (b.toNat : Int)) (w : World) :
    Calls Try.prog 18 #[.int .u32 x, .int .u8 y] w fun e w' => e = .returned (.int .u32 (rI (tk r b))) ∧ w = w' := by
  have hb := b.toNat_lt
  have hy0 : 0 ≤ y := by omega
  have hy1 : y < 256 := by omega
  have hx0 : 0 ≤ x := by rw [hx]; exact rI_lo r
  have hx1 : x < 4294967296 := by rw [hx]; exact rI_hi r
  have HX := Lib.hid hx
  have HY := Lib.hid hy
  clear hx hy hb
  go_enter Try.func18, Try.ntmps18
  go_wp2
  have h0 : bits .xor .u32 x y = rI (stpN 0 (r ^^^ bv b)) := by rw [HX.out, HY.out, ← bv_rI, xor_rI]; rfl
  rw [h0]
  clear h0
  go_loopw [0, 5] (fun v i wr => ∃ k : Nat, k ≤ 8 ∧ i = .int .i64 k ∧ v = .int .u32 (rI (stpN k (r ^^^ bv b))) ∧ wr = w) (fun _ i _ => 8 - (intOf i).toNat)
  case atStart => exact ⟨0, by omega, rfl, rfl, rfl⟩
  case round =>
    obtain ⟨k, hk, rfl, rfl, rfl⟩ := hrel
    have HN := Lib.hid (stpN_succ k (r ^^^ bv b))
    have HE := Lib.hid (show tk r b = stpN 8 (r ^^^ bv b) from rfl)
    obtain ⟨q, hq⟩ : ∃ q, stpN k (r ^^^ bv b) = q := ⟨_, rfl⟩
    rw [hq] at HN ⊢
    have HQ := Lib.hid hq
    clear hq
    have q0 := rI_lo q
    have q1 := rI_hi q
    have M1 := stp_odd q
    have M0 := stp_even q
    obtain ⟨z, hz⟩ : ∃ z, rI q = z := ⟨_, rfl⟩
    rw [hz] at q0 q1 M1 M0 ⊢
    have HZ := Lib.hid hz
    have M1 := Lib.hid M1
    have M0 := Lib.hid M0
    clear hz
    by_cases hlt : k < 8
    · by_cases hodd : z % 2 = 1
      · have HM := Lib.hid (M1.out hodd)
        go_wp2_with fail
        go_roundw
        case rel => exact ⟨k + 1, by omega, by go_num, by rw [HN.out, ← HM.out], trivial⟩
        case measure => simp [intOf]; omega
      · have HM := Lib.hid (M0.out hodd)
        go_wp2_with fail
        go_roundw
        case rel => exact ⟨k + 1, by omega, by go_num, by rw [HN.out, ← HM.out], trivial⟩
        case measure => simp [intOf]; omega
    · obtain rfl : k = 8 := by omega
      go_wp2_with fail
      go_ret
      exact ⟨by rw [HE.out, HQ.out, HZ.out]; rfl, rfl⟩
end Go.Proofs.Ytfdindkagddjbaa

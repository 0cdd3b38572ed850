/- What is proved: the program's numbers turned right (RotateLeft32, right, turned; the document's own right) answer what the definitions below say. Conditions: a turn by 1 to 31. -/
import Derived.Test.YtbbjappmaigobaaDoorRows
import Derived.Test.YtbbjappmaigobaaDoorMem
import Derived.Deep.DeepFit
import Derived.WalkSpells
import Derived.WalkLawsBesides
namespace Go.Proofs.YtbbjappmaigobaaDoor
open Go.RowKit
set_option linter.unusedVariables false

/-- x turned right by n. -/
def rotR (x : Int) (n : Nat) : Int := bits .or .u32 (x / 2 ^ n) (x * 2 ^ (32 - n) % 4294967296)
theorem bits_or_comm (k : IntKind) (a b : Int) : bits .or k a b = bits .or k b a := by
  unfold bits
  simp only []
  rw [BitVec.or_comm]

theorem neg_mask (n : Nat) (h1 : 1 ≤ n) (h2 : n < 32) : bits .and .u64 (IntKind.u64.wrap (-(n : Int))) 31 = 32 - n := by
  rw [IntKind.wrap_u64]
  rw [u64_and _ 31 (by omega) (by omega) (by omega) (by omega)]
  have e : ∀ m : Nat, m &&& 31 = m % 2 ^ 5 := fun m => Nat.and_two_pow_sub_one_eq_mod m 5
  show (((_ : Nat) &&& 31 : Nat) : Int) = _
  rw [e]
  omega

theorem Rotl_any (x : Int) (n : Nat) (h1 : 1 ≤ n) (h2 : n < 32) (w : World) :
    Calls Tryd.prog 29 #[.int .u32 x, .int .i64 (-n)] w fun e w' => e = .returned (.int .u32 (rotR x n)) ∧ w = w' := by
  have hm := neg_mask n h1 h2
  obtain ⟨s, hs⟩ : ∃ s : Int, 32 - (n : Int) = s := ⟨_, rfl⟩
  rw [hs] at hm
  have hs0 : 0 ≤ s := by omega
  have hs1 : s ≤ 32 := by omega
  have hs2 : IntKind.u64.wrap (32 - s) = 32 - s := by rw [IntKind.wrap_u64]; omega
  have hs3 : 0 ≤ 32 - s := by omega
  have hs4 : 32 - s ≤ 32 := by omega
  have e1 : s.toNat = 32 - n := by omega
  have e2 : (32 - s).toNat = n := by omega
  clear hs
  go_enter Tryd.func29, Tryd.ntmps29
  go_wp2
  go_ret
  exact ⟨ret_num (by unfold rotR; rw [bits_or_comm]), rfl⟩

theorem Sright_any (x : Int) (n : Nat) (h1 : 1 ≤ n) (h2 : n < 32) (w : World) :
    Calls Tryd.prog 28 #[.int .u32 x, .int .i64 n] w fun e w' => e = .returned (.int .u32 (rotR x n)) ∧ w = w' := by
  have hn : IntKind.i64.wrap (-(n : Int)) = -(n : Int) := by simp only [IntKind.wrap_i64]; omega
  go_enter Tryd.func28, Tryd.ntmps28
  go_wp2_with (go_at_call 29; refine (Rotl_any x n h1 h2 _).mono ?_; rintro e w' ⟨rfl, rfl⟩)
  go_ret
  exact ⟨rfl, rfl⟩

theorem Qright_any (x : Int) (n : Nat) (h1 : 1 ≤ n) (h2 : n < 32) (w : World) :
    Calls Tryd.prog 24 #[.int .u32 x, .int .u64 n] w fun e w' => e = .returned (.int .u32 (rotR x n)) ∧ w = w' := by
  obtain ⟨s, hs⟩ : ∃ s : Int, (n : Int) = s := ⟨_, rfl⟩
  rw [hs]
  have hs0 : 0 ≤ s := by omega
  have hs1 : s ≤ 32 := by omega
  have hs2 : IntKind.u64.wrap (32 - s) = 32 - s := by rw [IntKind.wrap_u64]; omega
  have hs3 : 0 ≤ 32 - s := by omega
  have hs4 : 32 - s ≤ 32 := by omega
  have e1 : s.toNat = n := by omega
  have e2 : (32 - s).toNat = 32 - n := by omega
  clear hs
  go_enter Tryd.func24, Tryd.ntmps24
  go_wp2
  go_ret
  exact ⟨rfl, rfl⟩

/-- x turned right by each of three numbers, in one. -/
def rot3 (x : Int) (i j l : Nat) : Int := bits .xor .u32 (bits .xor .u32 (rotR x i) (rotR x j)) (rotR x l)

theorem Sturned_any (x : Int) (i j l : Nat) (hi : 1 ≤ i ∧ i < 32) (hj : 1 ≤ j ∧ j < 32) (hl : 1 ≤ l ∧ l < 32) (w : World) :
    Calls Tryd.prog 27 #[.int .u32 x, .int .i64 i, .int .i64 j, .int .i64 l] w fun e w' => e = .returned (.int .u32 (rot3 x i j l)) ∧ w = w' := by
  go_enter Tryd.func27, Tryd.ntmps27
  obtain ⟨hi1, hi2⟩ := hi
  obtain ⟨hj1, hj2⟩ := hj
  obtain ⟨hl1, hl2⟩ := hl
  go_wp2_with (go_at_call 28; refine (Sright_any _ _ (by assumption) (by assumption) _).mono ?_; rintro e w' ⟨rfl, rfl⟩)
  go_ret
  exact ⟨rfl, rfl⟩
end Go.Proofs.YtbbjappmaigobaaDoor

/- What is proved: the words of the kinds, by the program and by the document. Conditions: none. -/
import Derived.Test.YtnnafiajfapenaaGreatDoorBd
namespace Go.Proofs.YtnnafiajfapenaaGreatDoor
open Go.RowKit
set_option linter.unusedVariables false

/-- A kind's word. -/
def wordB (k : Int) : List UInt8 := if k = 1 then [98, 108, 111, 98] else if k = 2 then [116, 114, 101, 101] else if k = 3 then [99, 111, 109, 109, 105, 116] else if k = 4 then [116, 97, 103] else []
/-- Whose word it is. -/
def kindB (s : List UInt8) : Int := if s = [98, 108, 111, 98] then 1 else if s = [116, 114, 101, 101] then 2 else if s = [99, 111, 109, 109, 105, 116] then 3 else if s = [116, 97, 103] then 4 else 0
theorem wordB_none {k : Int} (h : k < 1 ∨ 4 < k) : wordB k = [] := by
  rw [wordB, if_neg (by omega), if_neg (by omega), if_neg (by omega), if_neg (by omega)]
theorem kind_cases (k : Int) : k = 1 ∨ k = 2 ∨ k = 3 ∨ k = 4 ∨ ((k < 1 ∨ 4 < k) ∧ (k == 1) = false ∧ (k == 2) = false ∧ (k == 3) = false ∧ (k == 4) = false) := by
  by_cases h : k < 1 ∨ 4 < k
  · exact .inr (.inr (.inr (.inr ⟨h, by simp; omega, by simp; omega, by simp; omega, by simp; omega⟩)))
  · omega
theorem wordB_len (k : Int) : (wordB k).length ≤ 6 := by
  rcases kind_cases k with rfl | rfl | rfl | rfl | ⟨h, _⟩
  · decide
  · decide
  · decide
  · decide
  · rw [wordB_none h]; decide
theorem kindB_wordB {k : Int} (h1 : 1 ≤ k) (h4 : k ≤ 4) : kindB (wordB k) = k := by
  have : k = 1 ∨ k = 2 ∨ k = 3 ∨ k = 4 := by omega
  rcases this with rfl | rfl | rfl | rfl <;> decide
theorem kindB_range (s : List UInt8) : 0 ≤ kindB s ∧ kindB s ≤ 4 := by
  unfold kindB
  repeat' split
  all_goals omega
theorem wordB_kindB {s : List UInt8} (h : kindB s ≠ 0) : wordB (kindB s) = s := by
  unfold kindB at h ⊢
  split
  · rename_i e; rw [e]; rfl
  · split
    · rename_i e; rw [e]; rfl
    · split
      · rename_i e; rw [e]; rfl
      · split
        · rename_i e; rw [e]; rfl
        · rename_i a b c d; rw [if_neg a, if_neg b, if_neg c, if_neg d] at h; exact absurd rfl h

set_option maxHeartbeats 1600000 in
set_option maxRecDepth 100000 in
theorem ObWord_any (k : Int) (w : World) : Calls Tryz.prog 13 #[.int .i64 k] w fun e w' => e = .returned (.string (strB (wordB k))) ∧ w = w' := by
  rcases kind_cases k with rfl | rfl | rfl | rfl | ⟨h, h1, h2, h3, h4⟩
  · go_enter Tryz.func13, Tryz.ntmps13
    go_wp2
    go_ret
    exact ⟨rfl, rfl⟩
  · go_enter Tryz.func13, Tryz.ntmps13
    go_wp2
    go_ret
    exact ⟨rfl, rfl⟩
  · go_enter Tryz.func13, Tryz.ntmps13
    go_wp2
    go_ret
    exact ⟨rfl, rfl⟩
  · go_enter Tryz.func13, Tryz.ntmps13
    go_wp2
    go_ret
    exact ⟨rfl, rfl⟩
  · rw [wordB_none h]
    go_enter Tryz.func13, Tryz.ntmps13
    go_wp2
    go_ret
    exact ⟨rfl, rfl⟩

/-- The row of the four words. -/
def wordV : Array Value := #[.string ⟨#[98, 108, 111, 98]⟩, .string ⟨#[116, 114, 101, 101]⟩, .string ⟨#[99, 111, 109, 109, 105, 116]⟩, .string ⟨#[116, 97, 103]⟩]
theorem wordV_at (j : Nat) (h : j < 4) : wordV[j]? = some (.string (strB (wordB ((j : Nat) + 1 : Int)))) := by
  match j, h with
  | 0, _ => rfl
  | 1, _ => rfl
  | 2, _ => rfl
  | 3, _ => rfl
set_option maxHeartbeats 1600000 in
set_option maxRecDepth 100000 in
theorem QbWords_any (w : World) : Calls Tryz.prog 30 #[] w fun e w' => e = .returned (.slice (some ⟨w.heap.size, 0, none⟩) 4 4) ∧ w' = w.alloc (.cells wordV 9) := by
  go_enter Tryz.func30, Tryz.ntmps30
  go_wp2
  go_ret
  exact ⟨rfl, rfl⟩
set_option maxHeartbeats 1600000 in
set_option maxRecDepth 100000 in
theorem QbWord_any (k : Int) (w : World) : Calls Tryz.prog 14 #[.int .i64 k] w fun e w' => e = .returned (.string (strB (wordB k))) ∧ Below w.heap.size w w' := by
  by_cases hk : k < 1 ∨ 4 < k
  · rw [wordB_none hk]
    by_cases hk1 : k < 1
    · go_enter Tryz.func14, Tryz.ntmps14
      go_wp2
      go_ret
      exact ⟨rfl, Below.refl _ _⟩
    · have hk4 : 4 < k := by omega
      go_enter Tryz.func14, Tryz.ntmps14
      go_wp2
      go_ret
      exact ⟨rfl, Below.refl _ _⟩
  · have hk1 : ¬ k < 1 := by omega
    have hk4 : ¬ 4 < k := by omega
    obtain ⟨j, rfl⟩ : ∃ j : Nat, k = (j : Int) + 1 := ⟨(k - 1).toNat, by omega⟩
    have hj : j < 4 := by omega
    have hat := wordV_at j hj
    obtain ⟨w1, hw1⟩ : ∃ w1, w.alloc (.cells wordV 9) = w1 := ⟨_, rfl⟩
    have hF : Fr (fun _ => False) w w1 := by subst hw1; exact (Fr.refl _ w).alloc _
    have hW : Whole w1 w.heap.size 9 wordV := by subst hw1; exact Whole.new w _ _
    have HC := Lib.hid (QbWords_any w)
    have hc := hW.cell j
    rw [hat] at hc
    obtain ⟨S, hS⟩ : ∃ S, strB (wordB ((j : Int) + 1)) = S := ⟨_, rfl⟩
    rw [hS] at hc ⊢
    clear hat hS hW
    go_enter Tryz.func14, Tryz.ntmps14
    go_wp2_with (go_at_call 30; refine HC.out.mono ?_; rintro e w' ⟨rfl, rfl⟩; rw [hw1])
    go_ret
    exact ⟨rfl, hF.below (fun _ _ e => e)⟩
end Go.Proofs.YtnnafiajfapenaaGreatDoor

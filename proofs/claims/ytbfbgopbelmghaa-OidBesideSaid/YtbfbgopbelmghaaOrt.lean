/- What is proved: plain facts for the document's Short: how many digits are alike, one after the other; whether all others differ, one after the other. Conditions: none; no program is walked. -/
import Derived.Test.YtbfbgopbelmghaaOrs
namespace Go.Proofs.Ytbfbgopbelmghaa
open Go.RowKit
set_option linter.unusedVariables false

/-- The first j digits are alike, and the two are not one. -/
def sameTo (x y j : Nat) : Bool := !(y == x) && alikeB x y j
theorem sameTo_succ (x y j : Nat) (hx : x < big) (hy : y < big) (hj : j < 64) (h : sameTo x y j = true) : sameTo x y (j + 1) = decide (dgt x j = dgt y j) := by
  rw [sameTo, Bool.and_eq_true] at h
  rw [sameTo, h.1, Bool.true_and, Bool.eq_iff_iff, alikeB, decide_eq_true_eq, decide_eq_true_eq, ← alike_iff x y hx hy (j + 1) (by omega)]
  have h2 := h.2
  rw [alikeB, decide_eq_true_eq, ← alike_iff x y hx hy j (by omega)] at h2
  constructor
  · intro h3; exact h3 j (by omega)
  · intro h3 k hk
    rcases (by omega : k < j ∨ k = j) with c | rfl
    · exact h2 k c
    · exact h3
theorem sameTo_mono (x y j n : Nat) (hjn : j ≤ n) (hn : n ≤ 64) (h : sameTo x y j = false) : sameTo x y n = false := by
  cases hs : sameTo x y n with
  | false => rfl
  | true =>
    rw [sameTo, Bool.and_eq_true] at hs
    rw [sameTo, hs.1, Bool.true_and, alike_mono hn hjn hs.2] at h
    exact h
theorem sameTo_zero (x y : Nat) (hx : x < big) (hy : y < big) : sameTo x y 0 = !(y == x) := by
  rw [sameTo, alike_zero hx hy, Bool.and_true]
theorem alone_iff (ns : List Nat) (x n : Nat) : aloneB ns x n = (ns.all fun y => !sameTo x y n) := by
  unfold aloneB sameTo
  congr 1
  funext y
  rw [Bool.not_and, Bool.not_not]
theorem alone_take (ns : List Nat) (x n k : Nat) (hk : k < ns.length) : aloneB (ns.take (k + 1)) x n = (aloneB (ns.take k) x n && !sameTo x (gt ns k) n) := by
  rw [alone_iff, alone_iff, List.take_add_one, gt_some ns k hk, List.all_append]
  simp
theorem short_no (ns : List Nat) (x : Nat) (least : Int) (h : fHas ns x = false) : shortN ns x least = 0 := by
  rw [shortN, h]; rfl
end Go.Proofs.Ytbfbgopbelmghaa

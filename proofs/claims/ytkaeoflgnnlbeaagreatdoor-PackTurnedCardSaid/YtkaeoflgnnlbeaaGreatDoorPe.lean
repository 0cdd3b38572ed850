/- What is proved: what the walks of this seat need of layers below, merged out of the texts Crj Cru (of each just what is needed). Conditions: each theorem names its own. -/
import Derived.Deep.WholeRow
import Derived.Deep.QuietTactic
import Derived.Deep.RegionHeld3
import Derived.Test.YtkaeoflgnnlbeaaGreatDoorDa
import Derived.Test.YtkaeoflgnnlbeaaGreatDoorDba
import Derived.Test.YtkaeoflgnnlbeaaGreatDoorPb
/- What is proved: what the program's tables hold: a step's table, how it is applied, squared, and laid for one byte. Conditions: none. -/
namespace Go.Proofs.YtkaeoflgnnlbeaaGreatDoor
open Go.RowKit
set_option linter.unusedVariables false
/-- The lowest k bits of a register. -/
def low (r : BitVec 32) (k : Nat) : BitVec 32 := r &&& (BitVec.ofNat 32 (2 ^ k - 1))
theorem low_get (r : BitVec 32) (k i : Nat) : (low r k).getLsbD i = (r.getLsbD i && decide (i < k)) := by
  unfold low
  rw [BitVec.getLsbD_and, BitVec.getLsbD_ofNat, Nat.testBit_two_pow_sub_one]
  by_cases h : i < 32
  · simp [h]
  · simp [BitVec.getLsbD_of_ge r i (by omega)]
theorem low_zero (r : BitVec 32) : low r 0 = 0#32 := by
  apply BitVec.eq_of_getLsbD_eq
  intro i hi
  rw [low_get]; simp
theorem low_all (r : BitVec 32) : low r 32 = r := by
  apply BitVec.eq_of_getLsbD_eq
  intro i hi
  rw [low_get]; simp [hi]
theorem low_succ (r : BitVec 32) (k : Nat) (hk : k < 32) : low r (k + 1) = low r k ^^^ (if r.getLsbD k then BitVec.twoPow 32 k else 0#32) := by
  apply BitVec.eq_of_getLsbD_eq
  intro i hi
  rw [BitVec.getLsbD_xor, low_get, low_get]
  by_cases h : i = k
  · subst h
    cases r.getLsbD i <;> simp [hi]
  · have e : decide (i < k + 1) = decide (i < k) := by rw [decide_eq_decide]; omega
    have e2 : (if r.getLsbD k then BitVec.twoPow 32 k else 0#32).getLsbD i = false := by
      split
      · rw [BitVec.getLsbD_twoPow]; simp; omega
      · simp
    rw [e, e2, Bool.xor_false]
end Go.Proofs.YtkaeoflgnnlbeaaGreatDoor
/- What is proved: plain facts on turned bits: what a burst makes of bytes, and of their sum. Conditions: none. -/
namespace Go.Proofs.YtkaeoflgnnlbeaaGreatDoor
open Go.RowKit
set_option linter.unusedVariables false
/-- Bit p of bytes is turned. -/
def flip1 (l : List UInt8) (p : Nat) : List UInt8 := l.set (p / 8) (l.getD (p / 8) 0 ^^^ UInt8.ofNat (2 ^ (p % 8)))
/-- The bytes behind k rounds. -/
def brs (l : List UInt8) (at' : Nat) (t : BitVec 32) : Nat → List UInt8
  | 0 => l
  | k + 1 => if t.getLsbD k then flip1 (brs l at' t k) (at' + k) else brs l at' t k
theorem brs_length (l : List UInt8) (at' : Nat) (t : BitVec 32) (k : Nat) : (brs l at' t k).length = l.length := by
  induction k with
  | zero => rfl
  | succ k ih =>
    unfold brs
    split
    · unfold flip1; rw [List.length_set, ih]
    · exact ih
theorem bv_pow (m : Nat) (h : m < 8) : bv (UInt8.ofNat (2 ^ m)) = BitVec.twoPow 32 m := by
  have h2 : m = 0 ∨ m = 1 ∨ m = 2 ∨ m = 3 ∨ m = 4 ∨ m = 5 ∨ m = 6 ∨ m = 7 := by omega
  rcases h2 with rfl | rfl | rfl | rfl | rfl | rfl | rfl | rfl <;> rfl
theorem tks_flip (l : List UInt8) (r : BitVec 32) (p : Nat) (h : p < 8 * l.length) : tks r (flip1 l p) = tks r l ^^^ stpN (8 * l.length - p) 1#32 := by
  unfold flip1
  rw [tks_set l r (p / 8) _ (by omega), bv_pow _ (Nat.mod_lt _ (by decide))]
  have e : 8 * (l.length - p / 8) = (8 * l.length - p) + p % 8 := by omega
  rw [e, stpN_add, stpN_bit _ (by omega)]
theorem tks_brs (l : List UInt8) (r : BitVec 32) (at' : Nat) (t : BitVec 32) (k : Nat) (hk : k ≤ 32) (h : at' + 32 ≤ 8 * l.length) :
    tks r (brs l at' t k) = tks r l ^^^ stpN (8 * l.length - at') (low t k) := by
  induction k with
  | zero => rw [low_zero, stpN_zero, BitVec.xor_zero]; rfl
  | succ k ih =>
    have ih := ih (by omega)
    have hb : brs l at' t (k + 1) = if t.getLsbD k then flip1 (brs l at' t k) (at' + k) else brs l at' t k := rfl
    rw [hb, low_succ t k (by omega), stpN_xor, ← BitVec.xor_assoc, ← ih]
    split
    · rw [tks_flip _ _ _ (by rw [brs_length]; omega), brs_length]
      congr 1
      have e : 8 * l.length - at' = (8 * l.length - (at' + k)) + k := by omega
      rw [e, stpN_add, stpN_bit _ (by omega)]
    · rw [stpN_zero, BitVec.xor_zero]
/-- A burst changes the sum, if a bit is turned, and else not. -/
theorem burst_sum (l : List UInt8) (at' : Nat) (t : BitVec 32) (h : at' + 32 ≤ 8 * l.length) : more 0#32 (brs l at' t 32) = more 0#32 l ↔ t = 0#32 := by
  unfold more
  rw [tks_brs l _ at' t 32 (Nat.le_refl _) h, low_all]
  constructor
  · intro e
    have e2 := congrArg (fun x => x ^^^ 0xffffffff#32) e
    simp only [all_self] at e2
    have e3 := congrArg (fun x => tks (0#32 ^^^ 4294967295#32) l ^^^ x) e2
    simp only [← BitVec.xor_assoc, BitVec.xor_self, BitVec.zero_xor] at e3
    exact stpN_ne _ _ e3
  · rintro rfl
    rw [stpN_zero, BitVec.xor_zero]
/-- The cells of a row of bytes that is the call's own: a byte is read, a byte is laid. -/
theorem OwnB.at {w0 w : World} {g n c : Nat} {l : List UInt8} (h : OwnB w0 w (.slice (some ⟨g, 0, none⟩) n c) l) (i : Nat) (hi : i < l.length) : w.cell? ⟨g, i, none⟩ = some (.int .u8 ((l.getD i 0).toNat : Int)) ∧ w.frozen? ⟨g, i, none⟩ = false := by
  have hn : n = l.length := by
    obtain ⟨A, c', hv, _⟩ := own_slice h.1
    injection hv
  subst hn
  refine ⟨?_, World.ownsRow.frozenAt h.1 i⟩
  rw [World.ownsRow.cellAt h.1 i (by omega)]
  unfold bytesV
  rw [List.getElem?_map, List.getElem?_eq_getElem hi, List.getD_eq_getElem?_getD, List.getElem?_eq_getElem hi]
  rfl
theorem OwnB.put {w0 w : World} {g n c : Nat} {l : List UInt8} (h : OwnB w0 w (.slice (some ⟨g, 0, none⟩) n c) l) (i : Nat) (b : UInt8) (x : Int) (hx : x = (b.toNat : Int)) : OwnB w0 (w.setCell ⟨g, i, none⟩ (.int .u8 x)) (.slice (some ⟨g, 0, none⟩) n c) (l.set i b) := by
  subst hx
  have hn : n = l.length := by
    obtain ⟨A, c', hv, _⟩ := own_slice h.1
    injection hv
  subst hn
  obtain ⟨h1, h2⟩ := World.ownsRow.stored h.1 i (.int .u8 (b.toNat : Int))
  refine ⟨?_, h.2.grown h2 (fun k hk hlt => ?_)⟩
  · rw [List.length_set]
    have e : bytesV (l.set i b) = (bytesV l).set i (.int .u8 (b.toNat : Int)) := by
      unfold bytesV
      rw [List.map_set]
      rfl
    rw [e]
    exact h1
  · injection hk with hk
    subst hk
    have := (World.ownsRow.lt h.1 g rfl).1
    omega
end Go.Proofs.YtkaeoflgnnlbeaaGreatDoor

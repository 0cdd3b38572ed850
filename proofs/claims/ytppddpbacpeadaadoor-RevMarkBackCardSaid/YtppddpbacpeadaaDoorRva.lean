/- What is proved: plain facts on decimal digits; what the library's table asks of a world. Conditions: none. -/
import Derived.Test.YtppddpbacpeadaaDoorRvb
import Derived.Test.YtppddpbacpeadaaDoorIde
import Derived.Test.YtppddpbacpeadaaDoorItoa
import Derived.Lib.ItoaNum
import Derived.Deep.LoopGhost
import Derived.Deep.RegionWith
import Derived.Deep.CutBlock
import Derived.Deep.DeepCutAuto
import Derived.OwnWalk
import Derived.BigQuiet
import Derived.OrdersHeld
import Derived.Lib.Hide
import Derived.Lib.ItoaLen
namespace Go.Proofs.YtppddpbacpeadaaDoor
open Go.RowKit Go.Sort Go.Shelf
set_option linter.unusedVariables false

/-! The table of powers. -/
def Tab10 (w : World) : Prop := Lib.TabIs Tryd.prog w "internal/strconv.uint64pow10" .u64 Lib.pow10Tab
theorem Tab10.fr {w w' : World} (h : Tab10 w) (f : Fr (fun _ => False) w w') : Tab10 w' := by
  unfold Tab10 Lib.TabIs World.var? at *
  cases hg : Tryd.prog.globalNamed "internal/strconv.uint64pow10" with
  | none => simp [hg] at h
  | some g =>
    simp only [hg, Option.bind_some] at h ⊢
    by_cases hlt : g < w.heap.size
    · rw [f.block g hlt (fun e => e)]; exact h
    · rw [Array.getElem?_eq_none (by omega)] at h
      simp at h
theorem grow_below (w : World) (n : Nat) (os : Array Obj) : Below w.heap.size w (grow (w.drewN n) os) := by
  refine ⟨rfl, rfl, rfl, ?_, fun k hk => ?_⟩
  · show w.heap.size ≤ (w.heap ++ os).size
    rw [Array.size_append]; exact Nat.le_add_right _ _
  · show (w.heap ++ os)[k]? = _
    rw [Array.getElem?_append_left hk]

/-! Digits. -/
def digS (n : Int) : List UInt8 := if n < 0 then [] else Lib.decDigits n.toNat
def isDig (c : UInt8) : Bool := decide (48 ≤ c.toNat) && decide (c.toNat ≤ 57)
def valN (l : List UInt8) : Nat := l.foldl (fun a c => 10 * a + (c.toNat - 48)) 0
def badN (l : List UInt8) : Bool := decide (l.length < 1) || decide (15 < l.length) || (decide (1 < l.length) && l.getD 0 0 == 48)
def numW (l : List UInt8) : Int × Int := if badN l = true then (0, 12) else if l.all isDig = true then ((valN l : Nat), 0) else (0, 12)
theorem numW_bad {l : List UInt8} (h : badN l = true) : numW l = (0, 12) := by rw [numW, if_pos h]
theorem numW_not {l : List UInt8} (h : l.all isDig = false) : numW l = (0, 12) := by
  rw [numW]
  split
  · rfl
  · rw [if_neg (by rw [h]; decide)]
theorem numW_ok {l : List UInt8} (h : badN l = false) (h2 : l.all isDig = true) : numW l = (((valN l : Nat) : Int), (0 : Int)) := by rw [numW, if_neg (by rw [h]; decide), if_pos h2]
theorem valN_snoc (l : List UInt8) (c : UInt8) : valN (l ++ [c]) = 10 * valN l + (c.toNat - 48) := by simp [valN, List.foldl_append]
theorem fold_lt : ∀ (l : List UInt8) (a : Nat), l.all isDig = true → l.foldl (fun a c => 10 * a + (c.toNat - 48)) a < (a + 1) * 10 ^ l.length
  | [], a, _ => by simp
  | c :: l, a, h => by
    rw [List.all_cons, Bool.and_eq_true] at h
    have h2 := h.1
    simp only [isDig, Bool.and_eq_true, decide_eq_true_eq] at h2
    have h1 := fold_lt l (10 * a + (c.toNat - 48)) h.2
    rw [List.foldl_cons, List.length_cons, Nat.pow_succ]
    refine Nat.lt_of_lt_of_le h1 ?_
    rw [Nat.mul_comm (10 ^ l.length) 10, ← Nat.mul_assoc]
    exact Nat.mul_le_mul_right _ (by omega)
theorem valN_lt (l : List UInt8) (h : l.all isDig = true) : valN l < 10 ^ l.length := by
  have := fold_lt l 0 h
  simpa [valN] using this
theorem valN_small {l : List UInt8} (h : l.all isDig = true) (hl : l.length ≤ 14) : valN l < 100000000000000 :=
  Nat.lt_of_lt_of_le (valN_lt l h) (Nat.pow_le_pow_right (by decide) hl)
theorem valN_range {l : List UInt8} (h : l.all isDig = true) (hl : l.length ≤ 15) : valN l < 1000000000000000 :=
  Nat.lt_of_lt_of_le (valN_lt l h) (Nat.pow_le_pow_right (by decide) hl)
theorem all_take_step {l : List UInt8} {k : Nat} (hk : k < l.length) (h : (l.take k).all isDig = true) (hc : isDig (l.getD k 0) = true) : (l.take (k + 1)).all isDig = true := by
  rw [take_snoc l k hk, List.all_append, h]; simp; simpa using hc
theorem not_all {l : List UInt8} {k : Nat} (hk : k < l.length) (hc : isDig (l.getD k 0) = false) : l.all isDig = false := by
  cases h : l.all isDig with
  | false => rfl
  | true =>
    rw [List.all_eq_true] at h
    have := h (l.getD k 0) (by rw [List.getD_eq_getElem?_getD, List.getElem?_eq_getElem hk]; exact List.getElem_mem _)
    rw [hc] at this; cases this
/-- As far as the document's loop has come. -/
theorem dec_step (N m : Nat) (acc : List UInt8) (h : Lib.decDigits N = if m = 0 ∧ acc ≠ [] then acc else Lib.decDigits m ++ acc) (hgo : 0 < m ∨ acc = []) :
    Lib.decDigits N = if m / 10 = 0 ∧ (UInt8.ofNat (48 + m % 10) :: acc) ≠ [] then (UInt8.ofNat (48 + m % 10) :: acc) else Lib.decDigits (m / 10) ++ (UInt8.ofNat (48 + m % 10) :: acc) := by
  have h1 : ¬ (m = 0 ∧ acc ≠ []) := by
    rintro ⟨a, b⟩
    rcases hgo with e | e
    · omega
    · exact b e
  rw [if_neg h1] at h
  by_cases h10 : m < 10
  · rw [if_pos ⟨by omega, by simp⟩, h, Lib.decDigits_one h10, show m % 10 = m by omega]; rfl
  · rw [if_neg (by rintro ⟨a, _⟩; omega), h]
    conv => lhs; rw [Lib.decDigits, dif_neg h10]
    simp
end Go.Proofs.YtppddpbacpeadaaDoor

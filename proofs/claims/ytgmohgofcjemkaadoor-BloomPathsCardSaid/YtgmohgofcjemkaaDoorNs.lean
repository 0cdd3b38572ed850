/- What is proved: a filter's bits, plainly: what one more bit turns, and that its bits tell its bytes. Conditions: none; no function is named. -/
import Derived.Test.YtgmohgofcjemkaaDoorNf
namespace Go.Proofs.YtgmohgofcjemkaaDoor
open Go.RowKit Go.Shelf
set_option linter.unusedVariables false

theorem bitB_test (f : List UInt8) (n : Nat) : bitB f n = (f.getD (n / 8) 0).toNat.testBit (n % 8) := by
  rw [Nat.testBit_eq_decide_div_mod_eq]; rfl
theorem cB_test (st : Nat → Bool) (base : Nat) : ∀ t, t ≤ 8 → ∀ s, s < t → (cB st base t).testBit s = st (base + (8 - t + s))
  | 0, _, s, h => by omega
  | t + 1, ht, 0, _ => by
    rw [Nat.testBit_zero, cB]
    have e : base + (8 - (t + 1) + 0) = base + (7 - t) := by omega
    rw [e]
    cases st (base + (7 - t)) <;> simp <;> omega
  | t + 1, ht, s + 1, h => by
    have ih := cB_test st base t (by omega) s (by omega)
    rw [Nat.testBit_succ, cB]
    have e : (2 * cB st base t + (if st (base + (7 - t)) = true then 1 else 0)) / 2 = cB st base t := by split <;> omega
    rw [e, ih]
    congr 1
    omega
theorem fltB_bit (st : Nat → Bool) (k n : Nat) (h : n < 8 * k) : bitB (fltB st k) n = st n := by
  rw [bitB_test]
  have hk : n / 8 < k := by omega
  have e : (fltB st k).getD (n / 8) 0 = UInt8.ofNat (cB st (8 * (n / 8)) 8) := by
    unfold fltB
    rw [List.getD_eq_getElem?_getD, List.getElem?_map, List.getElem?_range hk, Option.map_some, Option.getD_some]
  have hl := cB_lt st (8 * (n / 8)) 8
  rw [e, UInt8.toNat_ofNat_of_lt' (by simpa [UInt8.size] using hl), cB_test st _ 8 (by omega) _ (by omega)]
  congr 1
  omega
/-- Bytes are told by their bits. -/
theorem bits_ext {f g : List UInt8} (hl : f.length = g.length) (h : ∀ n, n < 8 * f.length → bitB f n = bitB g n) : f = g := by
  refine List.ext_getElem hl (fun i h1 h2 => ?_)
  apply UInt8.toNat_inj.1
  apply Nat.eq_of_testBit_eq
  intro s
  by_cases hs : s < 8
  · have := h (8 * i + s) (by omega)
    rw [bitB_test, bitB_test, show (8 * i + s) / 8 = i from by omega, show (8 * i + s) % 8 = s from by omega, List.getD_eq_getElem?_getD, List.getD_eq_getElem?_getD, List.getElem?_eq_getElem h1, List.getElem?_eq_getElem h2] at this
    exact this
  · have b1 := f[i].toNat_lt
    have b2 := g[i].toNat_lt
    have hp : 2 ^ 8 ≤ 2 ^ s := Nat.pow_le_pow_right (by omega) (by omega)
    rw [Nat.testBit_lt_two_pow (by omega), Nat.testBit_lt_two_pow (by omega)]
/-- One more bit. -/
def setB (f : List UInt8) (n : Nat) : List UInt8 := f.set (n / 8) (UInt8.ofNat ((f.getD (n / 8) 0).toNat ||| 2 ^ (n % 8)))
theorem setB_len (f : List UInt8) (n : Nat) : (setB f n).length = f.length := by simp [setB]
theorem or_lt256 (x r : Nat) (hx : x < 256) (hr : r < 8) : x ||| 2 ^ r < 256 :=
  Nat.or_lt_two_pow (n := 8) hx (Nat.pow_lt_pow_right (by omega) hr)
theorem setB_bit (f : List UInt8) (n j : Nat) (hn : n < 8 * f.length) : bitB (setB f n) j = (bitB f j || decide (j = n)) := by
  rw [bitB_test, bitB_test]
  have hx := (f.getD (n / 8) 0).toNat_lt
  have hor := or_lt256 (f.getD (n / 8) 0).toNat (n % 8) hx (by omega)
  by_cases e : j / 8 = n / 8
  · have e1 : (setB f n).getD (j / 8) 0 = UInt8.ofNat ((f.getD (n / 8) 0).toNat ||| 2 ^ (n % 8)) := by
      unfold setB
      rw [List.getD_eq_getElem?_getD, e, List.getElem?_set_self (by omega)]
      rfl
    rw [e1, UInt8.toNat_ofNat_of_lt' (by simpa [UInt8.size] using hor), Nat.testBit_or, Nat.testBit_two_pow, e]
    congr 1
    rw [decide_eq_decide]
    omega
  · have e1 : (setB f n).getD (j / 8) 0 = f.getD (j / 8) 0 := by
      unfold setB
      rw [List.getD_eq_getElem?_getD, List.getElem?_set_ne (by omega), List.getD_eq_getElem?_getD]
    rw [e1, decide_eq_false (by intro e2; subst e2; exact e rfl), Bool.or_false]
theorem zero_bit (n j : Nat) : bitB (List.replicate n 0) j = false := by
  rw [bitB_test]
  have : (List.replicate n (0 : UInt8)).getD (j / 8) 0 = 0 := by
    rw [List.getD_eq_getElem?_getD, List.getElem?_replicate]
    split <;> rfl
  rw [this]
  simp
end Go.Proofs.YtgmohgofcjemkaaDoor

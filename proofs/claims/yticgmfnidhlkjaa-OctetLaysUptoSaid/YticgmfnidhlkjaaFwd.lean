/- What is proved: plain facts on numbers and lists: what is laid is what the reader's definitions read again. Conditions: none beyond each fact's own premises. -/
import Derived.Test.YticgmfnidhlkjaaVar
import Derived.Test.YticgmfnidhlkjaaLay
namespace Go.Proofs.Yticgmfnidhlkjaa
open Go.RowKit
set_option linter.unusedVariables false

theorem toB_toNat {c : Int} (h0 : 0 ≤ c) (h1 : c ≤ 255) : (toB c).toNat = c.toNat := by
  unfold toB
  rw [UInt8.toNat_ofNat', Nat.mod_eq_of_lt (by omega)]
theorem hiB_big (m : Int) (size : Nat) (h0 : 0 ≤ m) (h1 : m < 2 ^ (8 * size)) (k : Nat) (hk : k ≤ size) : (bigV (hiB m size k) : Int) = m / 2 ^ (8 * (size - k)) := by
  induction k with
  | zero =>
    rw [Nat.sub_zero, Int.ediv_eq_zero_of_lt h0 h1]
    rfl
  | succ k ih =>
    have hr := ih (by omega)
    obtain ⟨q, hq⟩ : ∃ q, m / 2 ^ (8 * (size - 1 - k)) = q := ⟨_, rfl⟩
    have hd : m / 2 ^ (8 * (size - k)) = q / 256 := by
      rw [show 8 * (size - k) = 8 * (size - 1 - k) + 8 by omega, Int.pow_add, ← Int.ediv_ediv_of_nonneg (Int.le_of_lt (Int.pow_pos (by decide))), hq]
      rfl
    rw [hiB_succ, bigV_snoc, hq, toB_toNat (by omega) (by omega), show size - (k + 1) = size - 1 - k by omega, hq]
    rw [hd] at hr
    omega
theorem hiB_big4 (m : Int) (h0 : 0 ≤ m) (h1 : m < 4294967296) : (bigV (hiB m 4 4) : Int) = m := by
  have := hiB_big m 4 h0 (by simpa using h1) 4 (by omega)
  simpa using this
theorem hiB_big8 (m : Int) (h0 : 0 ≤ m) (h1 : m < 18446744073709551616) : (bigV (hiB m 8 8) : Int) = m := by
  have := hiB_big m 8 h0 (by simpa using h1) 8 (by omega)
  simpa using this

theorem ofNat_toNat {m : Nat} (h : m < 256) : (UInt8.ofNat m).toNat = m := by rw [UInt8.toNat_ofNat', Nat.mod_eq_of_lt h]
theorem scan_fwd (f k a m : Nat) (rest : List UInt8) (hk : k + f = 9) (hm : m < 128 ^ (f + 1)) (h9 : f = 0 → m ≤ 1) (h0 : 0 < k → m ≠ 0) (hz : m * 128 ^ k < 18446744073709551616) :
    scan (f + 1) k a (varF f m ++ rest) = (a + m * 128 ^ k, k + (varF f m).length, 0) := by
  induction f generalizing k a m with
  | zero =>
    have hm1 := h9 rfl
    have e : varF 0 m = [UInt8.ofNat m] := rfl
    rw [e, List.singleton_append, scan_last, ofNat_toNat (by omega), Nat.mod_eq_of_lt (by omega)]
    · rfl
    · rw [ofNat_toNat (by omega)]; omega
    · rw [ofNat_toNat (by omega)]; omega
  | succ f ih =>
    by_cases hs : m < 128
    · rw [varF_small _ _ hs, List.singleton_append, scan_last, ofNat_toNat (by omega), Nat.mod_eq_of_lt hs]
      · rfl
      · rw [ofNat_toNat (by omega)]; omega
      · rw [ofNat_toNat (by omega)]; omega
    · rw [varF, if_neg hs, List.cons_append, scan_more]
      · rw [ofNat_toNat (by omega), ih (k + 1) _ (m / 128) (by omega) (pow128 _ _ hm)]
        · have e1 : (m % 128 + 128) % 128 = m % 128 := by omega
          rw [e1, List.length_cons]
          have e2 : m % 128 * 128 ^ k + m / 128 * 128 ^ (k + 1) = m * 128 ^ k := by
            rw [Nat.pow_succ, Nat.mul_comm (128 ^ k) 128, ← Nat.mul_assoc, ← Nat.add_mul]
            congr 1
            omega
          rw [Nat.add_assoc, e2]
          congr 2
          omega
        · intro hf
          subst hf
          have hk8 : k = 8 := by omega
          subst hk8
          omega
        · intro _
          omega
        · rw [Nat.pow_succ, Nat.mul_comm (128 ^ k) 128, ← Nat.mul_assoc]
          have : m / 128 * 128 * 128 ^ k ≤ m * 128 ^ k := Nat.mul_le_mul_right _ (by omega)
          omega
      · rw [ofNat_toNat (by omega)]; omega
      · rw [ofNat_toNat (by omega)]; omega
theorem varR_fwd (m : Nat) (rest : List UInt8) (h : m < 18446744073709551616) : varR (varB m ++ rest) = (m, (varB m).length, 0) := by
  have := scan_fwd 9 0 0 m rest rfl (by omega) (by intro h; omega) (by intro h; omega) (by omega)
  unfold varR varB
  rw [this]
  simp

/-- The bytes behind a place. -/
theorem at_bytes {X ys rest : List UInt8} {p : Nat} (h : X.drop p = ys ++ rest) (hp : p ≤ X.length) : (X.drop p).take ys.length = ys ∧ p + ys.length ≤ X.length := by
  refine ⟨by rw [h, List.take_left], ?_⟩
  have := congrArg List.length h
  rw [List.length_drop, List.length_append] at this
  omega
theorem byte_fwd {X rest : List UInt8} {p : Nat} {b : UInt8} (h : X.drop p = [b] ++ rest) (hp : p ≤ X.length) : byteAt X p 0 = b ∧ stepAt X.length p 0 1 = p + 1 ∧ hasErr X.length p 0 1 = 0 := by
  obtain ⟨h1, h2⟩ := at_bytes h hp
  simp only [List.length_singleton] at h2
  refine ⟨?_, by unfold stepAt; rw [if_pos ⟨rfl, h2⟩], hasErr_ok (by omega)⟩
  have := drop_byte (bs := X) (q := p) (by omega)
  rw [this] at h
  simpa using (List.cons.inj h).1
theorem num_fwd {X ys rest : List UInt8} {p : Nat} (h : X.drop p = ys ++ rest) (hp : p ≤ X.length) : numV X p 0 ys.length = bigV ys ∧ stepAt X.length p 0 ys.length = p + ys.length ∧ hasErr X.length p 0 ys.length = 0 := by
  obtain ⟨h1, h2⟩ := at_bytes h hp
  have he : hasErr X.length p 0 ys.length = 0 := hasErr_ok (by omega)
  exact ⟨by unfold numV; rw [if_pos he, h1], by unfold stepAt; rw [if_pos ⟨rfl, h2⟩], he⟩
theorem var_fwd {X rest : List UInt8} {p m : Nat} {most : Int} (h : X.drop p = varB m ++ rest) (hm : m < 18446744073709551616) (hmost : (m : Int) ≤ most) : varO X p 0 most = (m, p + (varB m).length, 0) := by
  have hd : digR X p 0 = (m, (varB m).length, 0) := by unfold digR; rw [if_pos rfl, h, varR_fwd m rest hm]
  unfold varO
  rw [hd, if_neg (by simp), if_neg (by simp only; omega)]
theorem raw_fwd {X ys rest : List UInt8} {p : Nat} (h : X.drop p = ys ++ rest) (hp : p ≤ X.length) : rawB X p 0 ys.length = ys ∧ rawAt X.length p 0 ys.length = p + ys.length ∧ rawErr X.length p 0 ys.length = 0 := by
  obtain ⟨h1, h2⟩ := at_bytes h hp
  have he : hasErr X.length p 0 ys.length = 0 := hasErr_ok (by omega)
  exact ⟨by unfold rawB; rw [if_neg (by omega), if_pos he, Int.toNat_natCast, h1], by unfold rawAt stepAt; rw [if_neg (by omega), Int.toNat_natCast, if_pos ⟨rfl, h2⟩], by unfold rawErr; rw [if_neg (by omega), he]⟩
theorem text_fwd {X s rest : List UInt8} {p : Nat} (h : X.drop p = textB s ++ rest) (hp : p ≤ X.length) (hs : s.length < 18446744073709551616) : textO X p 0 s.length = (s, p + (textB s).length, 0) := by
  unfold textB at h ⊢
  rw [List.append_assoc] at h
  have hv := var_fwd (most := 18446744073709551615) h hs (by omega)
  have hp2 := (at_bytes h hp).2
  have h2 : X.drop (p + (varB s.length).length) = s ++ rest := by rw [← List.drop_drop, h, List.drop_left]
  obtain ⟨r1, r2, r3⟩ := raw_fwd h2 hp2
  unfold textO textF
  rw [hv, if_neg (by simp only; omega)]
  simp only
  rw [r1, r2, r3, List.length_append]
  unfold backAt
  rw [if_pos rfl, Nat.add_assoc]
end Go.Proofs.Yticgmfnidhlkjaa

/- What is proved: the Reader's digits to the base 128 (digits): what a number of any size is read as, or the error. Conditions: a reader that the caller holds. -/
import Derived.Test.YticgmfnidhlkjaaRaw
namespace Go.Proofs.Yticgmfnidhlkjaa
open Go.RowKit
set_option linter.unusedVariables false

/-- A number of any size off the bytes: its value, how many bytes it took, the error (f: rounds left; k: the round; a: so far). -/
def scan : Nat → Nat → Nat → List UInt8 → Nat × Nat × Int
  | 0, _, _, _ => (0, 0, 12)
  | _ + 1, _, _, [] => (0, 0, 10)
  | f + 1, k, a, c :: t =>
    if (k = 9 ∧ 1 < c.toNat) ∨ (0 < k ∧ c.toNat = 0) then (0, 0, 12)
    else if c.toNat < 128 then (a + c.toNat % 128 * 128 ^ k, k + 1, 0)
    else scan f (k + 1) (a + c.toNat % 128 * 128 ^ k) t
def varR (l : List UInt8) : Nat × Nat × Int := scan 10 0 0 l
def digR (bs : List UInt8) (p : Nat) (er : Int) : Nat × Nat × Int := if er = 0 then varR (bs.drop p) else (0, 0, er)

theorem scan_size (f k a : Nat) (l : List UInt8) : (scan f k a l).2.2 = 0 → k + 1 ≤ (scan f k a l).2.1 ∧ (scan f k a l).2.1 ≤ k + l.length ∧ (scan f k a l).2.1 ≤ k + f := by
  induction f generalizing k a l with
  | zero => intro h; simp [scan] at h
  | succ f ih =>
    cases l with
    | nil => intro h; simp [scan] at h
    | cons c t =>
      unfold scan
      split
      · intro h; simp at h
      · split
        · intro _; simp
        · intro h
          have := ih _ _ _ h
          simp only [List.length_cons]
          omega
theorem scan_err (f k a : Nat) (l : List UInt8) : (scan f k a l).2.2 = 0 ∨ ((scan f k a l).1 = 0 ∧ ((scan f k a l).2.2 = 10 ∨ (scan f k a l).2.2 = 12)) := by
  induction f generalizing k a l with
  | zero => simp [scan]
  | succ f ih =>
    cases l with
    | nil => simp [scan]
    | cons c t =>
      unfold scan
      split
      · simp
      · split
        · simp
        · exact ih _ _ _
theorem scan_lt (f k a : Nat) (l : List UInt8) (ha : a < 128 ^ k) (hk : k + f = 10) : (scan f k a l).1 < 18446744073709551616 := by
  induction f generalizing k a l with
  | zero => simp [scan]
  | succ f ih =>
    cases l with
    | nil => simp [scan]
    | cons c t =>
      have hlt : a + c.toNat % 128 * 128 ^ k < 128 ^ (k + 1) := by
        rw [Nat.pow_succ]
        have h1 : c.toNat % 128 * 128 ^ k ≤ 127 * 128 ^ k := Nat.mul_le_mul_right _ (by omega)
        omega
      unfold scan
      split
      · simp
      · rename_i hn
        split
        · by_cases h9 : k = 9
          · subst h9
            have : c.toNat ≤ 1 := by omega
            have h1 : c.toNat % 128 * 128 ^ 9 ≤ 1 * 128 ^ 9 := Nat.mul_le_mul_right _ (by omega)
            simp only
            omega
          · have : 128 ^ (k + 1) ≤ 128 ^ 9 := Nat.pow_le_pow_right (by decide) (by omega)
            simp only
            omega
        · exact ih _ _ _ hlt (by omega)
theorem varR_lt (l : List UInt8) : (varR l).1 < 18446744073709551616 := scan_lt 10 0 0 l (by decide) rfl
theorem digR_lt (bs : List UInt8) (p : Nat) (er : Int) : (digR bs p er).1 < 18446744073709551616 := by
  unfold digR; split
  · exact varR_lt _
  · show 0 < 18446744073709551616
    decide

theorem pow128_le {k : Nat} (h : k ≤ 9) : (128 : Nat) ^ k ≤ 9223372036854775808 := by
  have := Nat.pow_le_pow_right (show 0 < 128 by decide) h
  simpa using this
theorem u8_and127 (c : Int) (h0 : 0 ≤ c) (h1 : c ≤ 255) : bits .and .u8 c 127 = c % 128 := by
  rw [u8_and c 127 h0 (by omega) (by omega) (by omega)]
  have e : c.toNat &&& 127 = c.toNat % 2 ^ 7 := Nat.and_two_pow_sub_one_eq_mod c.toNat 7
  show ((c.toNat &&& 127 : Nat) : Int) = _
  rw [e]
  omega
theorem shl_or (m c : Int) (k : Nat) (h0 : 0 ≤ m) (hm : m.toNat < 128 ^ k) (hk : k ≤ 9) (hc0 : 0 ≤ c) (hc1 : c ≤ 255) (h9 : k = 9 → c ≤ 1) :
    bits .or .u64 m (IntKind.u64.wrap (IntKind.u64.wrap (bits .and .u8 c 127) * 2 ^ (7 * k))) = ((m.toNat + c.toNat % 128 * 128 ^ k : Nat) : Int) := by
  rw [u8_and127 c hc0 hc1, IntKind.wrap_u64, IntKind.wrap_u64]
  have e1 : c % 128 % 18446744073709551616 = ((c.toNat % 128 : Nat) : Int) := by omega
  have e2 : (128 : Nat) ^ k = 2 ^ (7 * k) := by rw [Nat.pow_mul]
  have hb : c.toNat % 128 * 2 ^ (7 * k) < 18446744073709551616 := by
    rw [← e2]
    by_cases h : k = 9
    · subst h
      have := h9 rfl
      have h1 : c.toNat % 128 * 128 ^ 9 ≤ 1 * 128 ^ 9 := Nat.mul_le_mul_right _ (by omega)
      omega
    · have h2 : (128 : Nat) ^ k ≤ 128 ^ 8 := Nat.pow_le_pow_right (by decide) (by omega)
      have h3 : c.toNat % 128 * 128 ^ k ≤ 127 * 128 ^ 8 := Nat.mul_le_mul (by omega) h2
      omega
  have hm64 : m.toNat < 18446744073709551616 := by have := pow128_le hk; omega
  rw [e1]
  have e3 : ((c.toNat % 128 : Nat) : Int) * 2 ^ (7 * k) = ((c.toNat % 128 * 2 ^ (7 * k) : Nat) : Int) := by push_cast; rfl
  rw [e3]
  have e4 : ((c.toNat % 128 * 2 ^ (7 * k) : Nat) : Int) % 18446744073709551616 = ((c.toNat % 128 * 2 ^ (7 * k) : Nat) : Int) := by omega
  rw [e4, u64_or m _ h0 (by omega) (by omega) (by omega), Int.toNat_natCast, Nat.or_comm, ← Nat.shiftLeft_eq, ← Nat.shiftLeft_add_eq_or_of_lt (by rw [← e2]; exact hm), Nat.shiftLeft_eq, ← e2, Nat.add_comm]

def DigPost (w : World) (g : Nat) (v : Value) (bs : List UInt8) (p : Nat) (er : Int) (e : Ending) (w' : World) : Prop :=
  ∃ q, e = .returned (.int .u64 (digR bs p er).1) ∧ Rd w' g v bs q (digR bs p er).2.2 ∧ RFr g w w' ∧ ((digR bs p er).2.2 = 0 → q = p + (digR bs p er).2.1)
def DigRel (w : World) (g : Nat) (v : Value) (bs : List UInt8) (p k : Nat) (m : Int) (wr : World) : Prop :=
  Rd wr g v bs (p + k) 0 ∧ RFr g w wr ∧ m.toNat < 128 ^ k ∧ scan (10 - k) k m.toNat (bs.drop (p + k)) = varR (bs.drop p)

theorem drop_byte {bs : List UInt8} {q : Nat} (h : q < bs.length) : bs.drop q = byteAt bs q 0 :: bs.drop (q + 1) := by
  rw [List.drop_eq_getElem_cons h]
  unfold byteAt
  rw [if_pos rfl, List.getD_eq_getElem?_getD, List.getElem?_eq_getElem h]
  rfl
theorem scan_bad {f k a : Nat} {c : UInt8} {t : List UInt8} (h : (k = 9 ∧ 1 < c.toNat) ∨ (0 < k ∧ c.toNat = 0)) : scan (f + 1) k a (c :: t) = (0, 0, 12) := by
  rw [scan, if_pos h]
theorem scan_last {f k a : Nat} {c : UInt8} {t : List UInt8} (h : ¬ ((k = 9 ∧ 1 < c.toNat) ∨ (0 < k ∧ c.toNat = 0))) (hc : c.toNat < 128) : scan (f + 1) k a (c :: t) = (a + c.toNat % 128 * 128 ^ k, k + 1, 0) := by
  rw [scan, if_neg h, if_pos hc]
theorem scan_more {f k a : Nat} {c : UInt8} {t : List UInt8} (h : ¬ ((k = 9 ∧ 1 < c.toNat) ∨ (0 < k ∧ c.toNat = 0))) (hc : ¬ c.toNat < 128) : scan (f + 1) k a (c :: t) = scan f (k + 1) (a + c.toNat % 128 * 128 ^ k) t := by
  rw [scan, if_neg h, if_neg hc]

theorem dig_fail {w wr w2 : World} {g : Nat} {v : Value} {bs : List UInt8} {p k : Nat} {m : Int} (h : DigRel w g v bs p k m wr) (hk : k ≤ 9) (hlt : p + k < bs.length)
    (hb : (k = 9 ∧ 1 < ((byteAt bs (p + k) 0).toNat : Int)) ∨ (0 < k ∧ ((byteAt bs (p + k) 0).toNat : Int) = 0)) {q : Nat} (h2 : Rd w2 g v bs q 12) (f2 : RFr g wr w2) :
    DigPost w g v bs p 0 (.returned (.int .u64 0)) w2 := by
  obtain ⟨f, hf⟩ : ∃ f, 10 - k = f + 1 := ⟨9 - k, by omega⟩
  have hs := h.2.2.2
  rw [hf, drop_byte hlt, scan_bad (by omega)] at hs
  have e : digR bs p 0 = (0, 0, 12) := by unfold digR; rw [if_pos rfl]; exact hs.symm
  exact ⟨q, by rw [e]; rfl, by rw [e]; exact h2, h.2.1.trans f2, by rw [e]; intro h; simp at h⟩
theorem dig_end {w wr w2 : World} {g : Nat} {v : Value} {bs : List UInt8} {p k : Nat} {m : Int} (h : DigRel w g v bs p k m wr) (hk : k ≤ 9) (hlt : ¬ p + k < bs.length) {q : Nat} (h2 : Rd w2 g v bs q 10) (f2 : RFr g wr w2) :
    DigPost w g v bs p 0 (.returned (.int .u64 0)) w2 := by
  obtain ⟨f, hf⟩ : ∃ f, 10 - k = f + 1 := ⟨9 - k, by omega⟩
  have hs := h.2.2.2
  rw [hf, List.drop_of_length_le (by omega)] at hs
  have e : digR bs p 0 = (0, 0, 10) := by unfold digR; rw [if_pos rfl]; exact hs.symm
  exact ⟨q, by rw [e]; rfl, by rw [e]; exact h2, h.2.1.trans f2, by rw [e]; intro h; simp at h⟩
theorem dig_last {w wr w2 : World} {g : Nat} {v : Value} {bs : List UInt8} {p k : Nat} {m : Int} (h : DigRel w g v bs p k m wr) (hk : k ≤ 9) (hlt : p + k < bs.length)
    (hb : ¬ ((k = 9 ∧ 1 < ((byteAt bs (p + k) 0).toNat : Int)) ∨ (0 < k ∧ ((byteAt bs (p + k) 0).toNat : Int) = 0))) (hc : ((byteAt bs (p + k) 0).toNat : Int) < 128) {n : Int}
    (hn : n = ((m.toNat + (byteAt bs (p + k) 0).toNat % 128 * 128 ^ k : Nat) : Int)) (h2 : Rd w2 g v bs (p + k + 1) 0) (f2 : RFr g wr w2) :
    DigPost w g v bs p 0 (.returned (.int .u64 n)) w2 := by
  obtain ⟨f, hf⟩ : ∃ f, 10 - k = f + 1 := ⟨9 - k, by omega⟩
  have hs := h.2.2.2
  rw [hf, drop_byte hlt, scan_last (by omega) (by omega)] at hs
  have e : digR bs p 0 = (m.toNat + (byteAt bs (p + k) 0).toNat % 128 * 128 ^ k, k + 1, 0) := by unfold digR; rw [if_pos rfl]; exact hs.symm
  exact ⟨p + k + 1, by rw [e, hn], by rw [e]; exact h2, h.2.1.trans f2, by rw [e]; intro _; simp only; omega⟩
theorem dig_more {w wr w2 : World} {g : Nat} {v : Value} {bs : List UInt8} {p k : Nat} {m : Int} (h : DigRel w g v bs p k m wr) (hk : k < 9) (hlt : p + k < bs.length)
    (hb : ¬ (0 < k ∧ ((byteAt bs (p + k) 0).toNat : Int) = 0)) (hc : 128 ≤ ((byteAt bs (p + k) 0).toNat : Int)) {n : Int}
    (hn : n = ((m.toNat + (byteAt bs (p + k) 0).toNat % 128 * 128 ^ k : Nat) : Int)) (h2 : Rd w2 g v bs (p + k + 1) 0) (f2 : RFr g wr w2) :
    0 ≤ n ∧ n < 9223372036854775809 ∧ DigRel w g v bs p (k + 1) n w2 := by
  obtain ⟨f, hf⟩ : ∃ f, 10 - k = f + 1 := ⟨9 - k, by omega⟩
  have hs := h.2.2.2
  rw [hf, drop_byte hlt, scan_more (by omega) (by omega)] at hs
  have hp : m.toNat + (byteAt bs (p + k) 0).toNat % 128 * 128 ^ k < 128 ^ (k + 1) := by
    have h1 : (byteAt bs (p + k) 0).toNat % 128 * 128 ^ k ≤ 127 * 128 ^ k := Nat.mul_le_mul_right _ (by omega)
    have := h.2.2.1
    rw [Nat.pow_succ]
    omega
  have hq := pow128_le (show k + 1 ≤ 9 by omega)
  subst hn
  refine ⟨by omega, by omega, h2, h.2.1.trans f2, by rw [Int.toNat_natCast]; exact hp, ?_⟩
  rw [Int.toNat_natCast, show 10 - (k + 1) = f by omega]
  exact hs

set_option maxHeartbeats 4000000 in
theorem Rdigits_ok (g : Nat) (v : Value) (bs : List UInt8) (p : Nat) (w : World) (h : Rd w g v bs p 0) :
    Calls Try.prog 45 #[.pointer (some ⟨g, 0, none⟩)] w (DigPost w g v bs p 0) := by
  have hst : DigRel w g v bs p 0 0 w := ⟨h, RFr.refl _ _, by decide, rfl⟩
  go_enter Try.func45, Try.ntmps45
  go_wp2_with fail
  go_loopw [2, 3, 4, 5, 6, 7, 8] (fun _ n _ _ _ _ i wr => ∃ (k : Nat) (m : Int), k ≤ 9 ∧ i = .int .i64 k ∧ n = .int .u64 m ∧ 0 ≤ m ∧ m < 9223372036854775809 ∧ DigRel w g v bs p k m wr) (fun _ _ _ _ _ _ i _ => 10 - (intOf i).toNat)
  case atStart => exact ⟨0, 0, by omega, rfl, rfl, by omega, by omega, hst⟩
  case round =>
    obtain ⟨k, m, hk, rfl, rfl, hm0, hm1, hr⟩ := hrel
    have hR := hr.1
    obtain ⟨c, hcb, hc0, hc1⟩ : ∃ c : Int, ((byteAt bs (p + k) 0).toNat : Int) = c ∧ 0 ≤ c ∧ c ≤ 255 := ⟨_, rfl, by omega, by have := (byteAt bs (p + k) 0).toNat_lt; omega⟩
    have HC := Lib.hid hcb
    by_cases hlt : p + k < bs.length
    · have HE : Hid (hasErr bs.length (p + k) 0 1 = 0) := Lib.hid (hasErr_ok (by omega))
      have HS : Hid (stepAt bs.length (p + k) 0 1 = p + k + 1) := Lib.hid (by unfold stepAt; rw [if_pos ⟨rfl, by omega⟩])
      by_cases hbad : (k = 9 ∧ 1 < c) ∨ (0 < k ∧ c = 0)
      · have hcase : ((((k : Int) == 9) = true ∧ 9 ≤ k) ∧ 1 < c ∧ (c == 0) = false) ∨ ((((k : Int) == 9) = true ∧ 9 ≤ k) ∧ ¬ 1 < c ∧ (c == 0) = true) ∨ (((k : Int) == 9) = false ∧ 0 < k ∧ ¬ 1 < c ∧ (c == 0) = true) := by
          by_cases h9 : k = 9
          · subst h9
            by_cases h1 : 1 < c
            · exact .inl ⟨⟨rfl, by omega⟩, h1, by simp; omega⟩
            · exact .inr (.inl ⟨⟨rfl, by omega⟩, h1, by simp; omega⟩)
          · exact .inr (.inr ⟨by simp; omega, by omega, by omega, by simp; omega⟩)
        have HB := Lib.hid hbad
        clear hbad hcb
        rcases hcase with ⟨⟨h1, h2⟩, h3, h4⟩ | ⟨⟨h1, h2⟩, h3, h4⟩ | ⟨h1, h2, h3, h4⟩
        all_goals
          go_wp2_with (first
            | (go_at_call 17; refine (RByte_any g v bs _ _ _ hR).mono ?_; rintro e w1 ⟨rfl, r1, f1⟩; rw [HC.out]; rw [HE.out, HS.out] at r1)
            | (go_at_call 24; refine (RErr_any g v bs _ _ _ r1).mono ?_; rintro e w' ⟨rfl, rfl⟩)
            | (go_at_call 46; refine (Rfail_any g v bs _ _ _ _ r1).mono ?_; rintro e w2 ⟨rfl, r2, f2⟩))
          go_ret
          exact dig_fail hr hk hlt (by rw [HC.out]; exact HB.out) r2 (f1.trans f2)
      · have HO : Hid (bits .or .u64 m (IntKind.u64.wrap (IntKind.u64.wrap (bits .and .u8 c 127) * 2 ^ (7 * k))) = ((m.toNat + (byteAt bs (p + k) 0).toNat % 128 * 128 ^ k : Nat) : Int)) :=
          Lib.hid (by have := shl_or m c k hm0 hr.2.2.1 hk hc0 hc1 (fun e => by omega); rw [this]; congr 3; omega)
        have HB := Lib.hid hbad
        by_cases hc : c < 128
        · have hcase : ((((k : Int) == 9) = true ∧ 9 ≤ k) ∧ ¬ 1 < c ∧ (c == 0) = false) ∨ (((k : Int) == 9) = false ∧ 0 < k ∧ (c == 0) = false) ∨ (((k : Int) == 9) = false ∧ ¬ 0 < k) := by
            by_cases h9 : k = 9
            · subst h9
              exact .inl ⟨⟨rfl, by omega⟩, by omega, by simp; omega⟩
            · by_cases h0 : 0 < k
              · exact .inr (.inl ⟨by simp; omega, h0, by simp; omega⟩)
              · exact .inr (.inr ⟨by simp; omega, h0⟩)
          clear hbad hcb
          rcases hcase with ⟨⟨h1, h2⟩, h3, h4⟩ | ⟨h1, h2, h4⟩ | ⟨h1, h2⟩
          all_goals
            go_wp2_with (first
              | (go_at_call 17; refine (RByte_any g v bs _ _ _ hR).mono ?_; rintro e w1 ⟨rfl, r1, f1⟩; rw [HC.out]; rw [HE.out, HS.out] at r1)
              | (go_at_call 24; refine (RErr_any g v bs _ _ _ r1).mono ?_; rintro e w' ⟨rfl, rfl⟩))
            go_ret
            exact dig_last hr hk hlt (by rw [HC.out]; exact HB.out) (by rw [HC.out]; exact hc) HO.out r1 f1
        · have hcase : (((k : Int) == 9) = false ∧ 0 < k ∧ (c == 0) = false) ∨ (((k : Int) == 9) = false ∧ ¬ 0 < k) := by
            by_cases h0 : 0 < k
            · exact .inl ⟨by simp; omega, h0, by simp; omega⟩
            · exact .inr ⟨by simp; omega, h0⟩
          have hk9 : k < 9 := by omega
          have HB2 : Hid (¬ (0 < k ∧ c = 0)) := Lib.hid (by omega)
          clear hbad hcb
          rcases hcase with ⟨h1, h2, h4⟩ | ⟨h1, h2⟩
          all_goals
            go_wp2_with (first
              | (go_at_call 17; refine (RByte_any g v bs _ _ _ hR).mono ?_; rintro e w1 ⟨rfl, r1, f1⟩; rw [HC.out]; rw [HE.out, HS.out] at r1)
              | (go_at_call 24; refine (RErr_any g v bs _ _ _ r1).mono ?_; rintro e w' ⟨rfl, rfl⟩))
            have hmore := dig_more hr hk9 hlt (by rw [HC.out]; exact HB2.out) (by rw [HC.out]; omega) HO.out r1 f1
            go_roundw
            case rel => exact ⟨k + 1, _, by omega, by go_num, rfl, hmore.1, hmore.2.1, hmore.2.2⟩
            case measure => simp [intOf]; omega
    · have HE : Hid (hasErr bs.length (p + k) 0 1 = 10) := Lib.hid (hasErr_end (by omega))
      clear hcb
      go_wp2_with (first
        | (go_at_call 17; refine (RByte_any g v bs _ _ _ hR).mono ?_; rintro e w1 ⟨rfl, r1, f1⟩; rw [HC.out]; rw [HE.out] at r1)
        | (go_at_call 24; refine (RErr_any g v bs _ _ _ r1).mono ?_; rintro e w' ⟨rfl, rfl⟩))
      go_ret
      exact dig_end hr hk hlt r1 f1
end Go.Proofs.Yticgmfnidhlkjaa

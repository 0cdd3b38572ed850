/- What is proved: the Reader's numbers of four and eight bytes (takeHighFirst, number, U32, U64). Conditions: a reader that the caller holds, or a nil one. -/
import Derived.Test.YticgmfnidhlkjaaRea
namespace Go.Proofs.Yticgmfnidhlkjaa
open Go.RowKit
set_option linter.unusedVariables false

/-- Bytes as a number, the highest first. -/
def bigV (l : List UInt8) : Nat := l.foldl (fun a b => a * 256 + b.toNat) 0
theorem bigV_snoc (l : List UInt8) (b : UInt8) : bigV (l ++ [b]) = bigV l * 256 + b.toNat := by simp [bigV]
theorem bigV_acc (l : List UInt8) (a : Nat) : l.foldl (fun a b => a * 256 + b.toNat) a < (a + 1) * 256 ^ l.length := by
  induction l generalizing a with
  | nil => simp
  | cons b l ih =>
    have h := ih (a * 256 + b.toNat)
    have hb := b.toNat_lt
    refine Nat.lt_of_lt_of_le h ?_
    rw [List.length_cons, Nat.pow_succ, Nat.mul_comm (256 ^ l.length) 256, ← Nat.mul_assoc]
    exact Nat.mul_le_mul_right _ (by omega)
theorem bigV_lt (l : List UInt8) : bigV l < 256 ^ l.length := by simpa [bigV] using bigV_acc l 0
theorem or_byte (m c : Int) (h0 : 0 ≤ m) (h1 : m < 72057594037927936) (h2 : 0 ≤ c) (h3 : c < 256) : bits .or .u64 (m * 256) c = m * 256 + c := by
  rw [u64_or (m * 256) c (by omega) (by omega) (by omega) (by omega)]
  have e : (m * 256).toNat = m.toNat <<< 8 := by rw [Nat.shiftLeft_eq]; omega
  rw [e, ← Nat.shiftLeft_add_eq_or_of_lt (by omega), Nat.shiftLeft_eq]
  omega
theorem pow256 {k : Nat} (h : k ≤ 7) : (256 : Nat) ^ k ≤ 72057594037927936 := by
  have := Nat.pow_le_pow_right (show 0 < 256 by decide) h
  simpa using this

theorem hasErr_ok {len p : Nat} {n : Int} (h : n ≤ len - p) : hasErr len p 0 n = 0 := by unfold hasErr; rw [if_pos rfl, if_pos h]
theorem hasErr_end {len p : Nat} {n : Int} (h : ¬ n ≤ len - p) : hasErr len p 0 n = 10 := by unfold hasErr; rw [if_pos rfl, if_neg h]
theorem hasErr_err {len p : Nat} {er n : Int} (h : er ≠ 0) : hasErr len p er n = er := by unfold hasErr; rw [if_neg h]
theorem hasErr_next {len p q : Nat} {er : Int} {k : Nat} (hq : hasErr len p er k = 0 → q = p + k) : hasErr len q (hasErr len p er k) 1 = hasErr len p er ((k + 1 : Nat) : Int) := by
  by_cases he : er = 0
  · subst he
    by_cases h1 : (k : Int) ≤ len - p
    · rw [hasErr_ok h1] at hq ⊢
      have := hq rfl
      subst this
      by_cases h2 : ((k + 1 : Nat) : Int) ≤ len - p
      · rw [hasErr_ok h2, hasErr_ok (by omega)]
      · rw [hasErr_end h2, hasErr_end (by omega)]
    · rw [hasErr_end h1, hasErr_end (by omega : ¬ ((k + 1 : Nat) : Int) ≤ len - p)]
      exact hasErr_err (by decide)
  · rw [hasErr_err he, hasErr_err he, hasErr_err he]
theorem hasErr_back {len p : Nat} {er : Int} {k : Nat} (h : hasErr len p er ((k + 1 : Nat) : Int) = 0) : hasErr len p er k = 0 ∧ er = 0 ∧ p + k < len := by
  unfold hasErr at h ⊢
  by_cases he : er = 0
  · simp only [if_pos he] at h ⊢
    by_cases h2 : ((k + 1 : Nat) : Int) ≤ len - p
    · rw [if_pos (by omega)]; exact ⟨rfl, he, by omega⟩
    · rw [if_neg h2] at h; omega
  · rw [if_neg he] at h; exact absurd h he
theorem hasErr_zero {len p : Nat} {er n : Int} (h : hasErr len p er n = 0) : er = 0 ∧ n ≤ len - p := by
  unfold hasErr at h
  by_cases he : er = 0
  · rw [if_pos he] at h
    by_cases h2 : n ≤ len - p
    · exact ⟨he, h2⟩
    · rw [if_neg h2] at h; omega
  · rw [if_neg he] at h; exact absurd h he

def TakePost (w : World) (g : Nat) (v : Value) (bs : List UInt8) (p : Nat) (er : Int) (size : Nat) (e : Ending) (w' : World) : Prop :=
  ∃ (q : Nat) (m : Int), e = .returned (.int .u64 m) ∧ Rd w' g v bs q (hasErr bs.length p er size) ∧ RFr g w w' ∧
    (hasErr bs.length p er size = 0 → q = p + size ∧ m = bigV ((bs.drop p).take size))

/-- What stands at the head of a round. -/
def TakeRel (w : World) (g : Nat) (v : Value) (bs : List UInt8) (p : Nat) (er : Int) (k q : Nat) (m : Int) (wr : World) : Prop :=
  Rd wr g v bs q (hasErr bs.length p er k) ∧ RFr g w wr ∧ m.toNat < 256 ^ k ∧ (hasErr bs.length p er k = 0 → q = p + k ∧ m = bigV ((bs.drop p).take k))

theorem take_rel_next {w : World} {g : Nat} {v : Value} {bs : List UInt8} {p : Nat} {er : Int} {k q : Nat} {m : Int} {wr w2 : World} (h : TakeRel w g v bs p er k q m wr) (hm0 : 0 ≤ m)
    (h2 : Rd w2 g v bs (stepAt bs.length q (hasErr bs.length p er k) 1) (hasErr bs.length q (hasErr bs.length p er k) 1)) (f2 : RFr g wr w2) :
    TakeRel w g v bs p er (k + 1) (stepAt bs.length q (hasErr bs.length p er k) 1) (m * 256 + ((byteAt bs q (hasErr bs.length p er k)).toNat : Int)) w2 := by
  obtain ⟨hr, hf, hm, hok⟩ := h
  have hn := hasErr_next (fun e => (hok e).1)
  have hb := (byteAt bs q (hasErr bs.length p er k)).toNat_lt
  refine ⟨by rw [hn] at h2; exact h2, hf.trans f2, ?_, fun he => ?_⟩
  · rw [Nat.pow_succ]; omega
  · obtain ⟨h0, he0, hlt⟩ := hasErr_back he
    obtain ⟨hq, hmv⟩ := hok h0
    subst hq
    refine ⟨?_, ?_⟩
    · unfold stepAt; rw [if_pos ⟨h0, by omega⟩]; omega
    · have hd : p + k < bs.length := hlt
      rw [List.take_succ_eq_append_getElem (by rw [List.length_drop]; omega), bigV_snoc, hmv]
      have : byteAt bs (p + k) (hasErr bs.length p er k) = (bs.drop p)[k]'(by rw [List.length_drop]; omega) := by
        unfold byteAt
        rw [if_pos h0, List.getD_eq_getElem?_getD, List.getElem?_eq_getElem hd, List.getElem_drop]
        rfl
      rw [this]
      omega

set_option maxHeartbeats 800000 in
theorem takeHi_any (g : Nat) (v : Value) (bs : List UInt8) (p : Nat) (er : Int) (size : Nat) (w : World) (h : Rd w g v bs p er) (hs : size ≤ 8) :
    Calls Try.prog 49 #[.func (.func 17) #[.pointer (some ⟨g, 0, none⟩)] #[], .int .i64 size] w (TakePost w g v bs p er size) := by
  have hst : TakeRel w g v bs p er 0 p 0 w := by
    refine ⟨?_, RFr.refl _ _, by decide, fun _ => ⟨rfl, rfl⟩⟩
    have : hasErr bs.length p er ((0 : Nat) : Int) = er := by
      unfold hasErr
      split
      · rw [if_pos (by have := h.le; omega)]; omega
      · rfl
    rw [this]; exact h
  go_enter Try.func49, Try.ntmps49
  go_wp2_with fail
  go_loopw [5, 7] (fun n i wr => ∃ (k q : Nat) (m : Int), k ≤ size ∧ i = .int .i64 k ∧ n = .int .u64 m ∧ 0 ≤ m ∧ m < 18446744073709551616 ∧ TakeRel w g v bs p er k q m wr) (fun _ i _ => size - (intOf i).toNat)
  case atStart => exact ⟨0, p, 0, Nat.zero_le _, rfl, rfl, by omega, by omega, hst⟩
  case round =>
    obtain ⟨k, q, m, hk, rfl, rfl, hm0, hm1, hr⟩ := hrel
    by_cases hlt : k < size
    · have hm2 : m < 72057594037927936 := by
        have := hr.2.2.1
        have := pow256 (show k ≤ 7 by omega)
        omega
      have hb0 : (0 : Int) ≤ ((byteAt bs q (hasErr bs.length p er k)).toNat : Int) := by omega
      have hb1 : ((byteAt bs q (hasErr bs.length p er k)).toNat : Int) < 256 := by have := (byteAt bs q (hasErr bs.length p er k)).toNat_lt; omega
      have HO := Lib.hid (or_byte m _ hm0 hm2 hb0 hb1)
      go_wp2_with (go_at_call 17; refine (RByte_any g v bs _ _ _ hr.1).mono ?_; rintro e w' ⟨rfl, h2, f2⟩)
      go_roundw
      case rel => exact ⟨k + 1, _, _, by omega, by go_num, by rw [HO.out], by omega, by omega, take_rel_next hr hm0 h2 f2⟩
      case measure => simp [intOf]; omega
    · obtain rfl : k = size := by omega
      go_wp2_with fail
      go_ret
      exact ⟨q, m, rfl, hr.1, hr.2.1, hr.2.2.2⟩

theorem takeHi_nil (size : Nat) (w : World) (hs : size ≤ 8) :
    Calls Try.prog 49 #[.func (.func 17) #[.pointer none] #[], .int .i64 size] w fun e w' => e = .returned (.int .u64 0) ∧ w = w' := by
  go_enter Try.func49, Try.ntmps49
  go_wp2_with fail
  go_loopw [5, 7] (fun n i wr => ∃ k : Nat, k ≤ size ∧ i = .int .i64 k ∧ n = .int .u64 0 ∧ w = wr) (fun _ i _ => size - (intOf i).toNat)
  case atStart => exact ⟨0, Nat.zero_le _, rfl, rfl, rfl⟩
  case round =>
    obtain ⟨k, hk, rfl, rfl, rfl⟩ := hrel
    by_cases hlt : k < size
    · go_wp2_with (go_at_call 17; refine (RByte_nil _).mono ?_; rintro e w' ⟨rfl, rfl⟩)
      go_roundw
      case rel => exact ⟨k + 1, by omega, by go_num, by first | rfl | simp [bits], trivial⟩
      case measure => simp [intOf]; omega
    · obtain rfl : k = size := by omega
      go_wp2_with fail
      go_ret
      exact ⟨rfl, rfl⟩
end Go.Proofs.Yticgmfnidhlkjaa

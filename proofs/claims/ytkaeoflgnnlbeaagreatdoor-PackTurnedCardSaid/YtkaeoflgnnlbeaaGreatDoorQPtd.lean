/- What is proved: texts that stand one behind the other: Pta Ptb Ptd. Conditions: each theorem names its own. -/
import Derived.Test.YtkaeoflgnnlbeaaGreatDoorQPga
import Derived.Test.YtkaeoflgnnlbeaaGreatDoorQPgc
import Derived.Test.YtkaeoflgnnlbeaaGreatDoorPe
import Derived.Test.YtkaeoflgnnlbeaaGreatDoorQPrm
import Derived.Test.YtkaeoflgnnlbeaaGreatDoorQPwg
/- What is proved: an entry that is laid is read so, plainly; one whose load is another one has a wrong sum. Conditions: each names its own. -/
namespace Go.Proofs.YtkaeoflgnnlbeaaGreatDoor
open Go.RowKit
set_option linter.unusedVariables false

theorem toB_nat {c : Int} (h0 : 0 ≤ c) (h1 : c ≤ 255) : (toB c).toNat = c.toNat := by
  unfold toB
  rw [UInt8.toNat_ofNat', Nat.mod_eq_of_lt (by omega)]
theorem hiB_bigP (m : Int) (size : Nat) (h0 : 0 ≤ m) (h1 : m < 2 ^ (8 * size)) (k : Nat) (hk : k ≤ size) : (bigV (hiB m size k) : Int) = m / 2 ^ (8 * (size - k)) := by
  induction k with
  | zero =>
    rw [Nat.sub_zero, Int.ediv_eq_zero_of_lt h0 h1]
    rfl
  | succ k ih =>
    have hr := ih (by omega)
    obtain ⟨q, hq⟩ : ∃ q, m / 2 ^ (8 * (size - 1 - k)) = q := ⟨_, rfl⟩
    have hd : m / 2 ^ (8 * (size - k)) = q / 256 := by
      rw [show 8 * (size - k) = 8 * (size - 1 - k) + 8 by omega, Int.pow_add, ← Int.ediv_ediv_of_nonneg (Int.le_of_lt (Int.pow_pos (by decide))), hq]
      rfl
    rw [hiB_succ, bigV_snoc, hq, toB_nat (by omega) (by omega), show size - (k + 1) = size - 1 - k by omega, hq]
    rw [hd] at hr
    omega
theorem hiB_bigP4 (m : Int) (h0 : 0 ≤ m) (h1 : m < 4294967296) : (bigV (hiB m 4 4) : Int) = m := by
  have := hiB_bigP m 4 h0 (by simpa using h1) 4 (by omega)
  simpa using this
theorem ofNat_toNatP {m : Nat} (h : m < 256) : (UInt8.ofNat m).toNat = m := by rw [UInt8.toNat_ofNat', Nat.mod_eq_of_lt h]
theorem scan_fwdP (f k a m : Nat) (rest : List UInt8) (hk : k + f = 9) (hm : m < 128 ^ (f + 1)) (h9 : f = 0 → m ≤ 1) (h0 : 0 < k → m ≠ 0) (hz : m * 128 ^ k < 18446744073709551616) :
    scan (f + 1) k a (varF f m ++ rest) = (a + m * 128 ^ k, k + (varF f m).length, 0) := by
  induction f generalizing k a m with
  | zero =>
    have hm1 := h9 rfl
    have e : varF 0 m = [UInt8.ofNat m] := rfl
    rw [e, List.singleton_append, scan_last, ofNat_toNatP (by omega), Nat.mod_eq_of_lt (by omega)]
    · rfl
    · rw [ofNat_toNatP (by omega)]; omega
    · rw [ofNat_toNatP (by omega)]; omega
  | succ f ih =>
    by_cases hs : m < 128
    · rw [varF_small _ _ hs, List.singleton_append, scan_last, ofNat_toNatP (by omega), Nat.mod_eq_of_lt hs]
      · rfl
      · rw [ofNat_toNatP (by omega)]; omega
      · rw [ofNat_toNatP (by omega)]; omega
    · rw [varF, if_neg hs, List.cons_append, scan_more]
      · rw [ofNat_toNatP (by omega), ih (k + 1) _ (m / 128) (by omega) (pow128 _ _ hm)]
        · have e1 : (m % 128 + 128) % 128 = m % 128 := by omega
          rw [e1, List.length_cons]
          have e2 : m % 128 * 128 ^ k + m / 128 * 128 ^ (k + 1) = m * 128 ^ k := by
            rw [Nat.pow_succ, Nat.mul_comm (128 ^ k) 128, ← Nat.mul_assoc, ← Nat.add_mul]
            congr 1
            omega
          rw [Nat.add_assoc, e2]
          congr 2
          omega
        · intro hf
          subst hf
          have hk8 : k = 8 := by omega
          subst hk8
          omega
        · intro _
          omega
        · rw [Nat.pow_succ, Nat.mul_comm (128 ^ k) 128, ← Nat.mul_assoc]
          have : m / 128 * 128 * 128 ^ k ≤ m * 128 ^ k := Nat.mul_le_mul_right _ (by omega)
          omega
      · rw [ofNat_toNatP (by omega)]; omega
      · rw [ofNat_toNatP (by omega)]; omega
theorem varR_fwdP (m : Nat) (rest : List UInt8) (h : m < 18446744073709551616) : varR (varB m ++ rest) = (m, (varB m).length, 0) := by
  have := scan_fwdP 9 0 0 m rest rfl (by omega) (by intro h; omega) (by intro h; omega) (by omega)
  unfold varR varB
  rw [this]
  simp

theorem var_fwdP {X rest : List UInt8} {p m : Nat} {most : Int} (h : X.drop p = varB m ++ rest) (hm : m < 18446744073709551616) (hmost : (m : Int) ≤ most) : varO X p 0 most = (m, p + (varB m).length, 0) := by
  have hd : digR X p 0 = (m, (varB m).length, 0) := by unfold digR; rw [if_pos rfl, h, varR_fwdP m rest hm]
  unfold varO
  rw [hd, if_neg (by simp), if_neg (by simp only; omega)]
theorem at_ok {D xs rest : List UInt8} {p : Nat} (h : D.drop p = xs ++ rest) (hp : p ≤ D.length) : p + xs.length ≤ D.length ∧ (D.drop p).take xs.length = xs ∧ D.drop (p + xs.length) = rest := by
  refine ⟨?_, by rw [h, List.take_left], by rw [← List.drop_drop, h, List.drop_left]⟩
  have := congrArg List.length h
  rw [List.length_drop, List.length_append] at this
  omega
theorem has_ok {len p n : Nat} (h : p + n ≤ len) : hasErr len p 0 n = 0 := by unfold hasErr; rw [if_pos rfl, if_pos (by omega)]
theorem step_ok {len p n : Nat} (h : p + n ≤ len) : stepAt len p 0 n = p + n := by unfold stepAt; rw [if_pos ⟨rfl, h⟩]
theorem num_ok {D xs rest : List UInt8} {p n : Nat} (h : D.drop p = xs ++ rest) (hx : xs.length = n) (hp : p ≤ D.length) : numV D p 0 n = bigV xs := by
  obtain ⟨a, b, _⟩ := at_ok h hp
  unfold numV
  rw [if_pos (has_ok (by omega)), ← hx, b]
theorem raw_ok {D xs rest : List UInt8} {p n : Nat} (h : D.drop p = xs ++ rest) (hx : xs.length = n) (hp : p ≤ D.length) : rawErr D.length p 0 n = 0 ∧ rawB D p 0 n = xs ∧ rawAt D.length p 0 n = p + n := by
  obtain ⟨a, b, _⟩ := at_ok h hp
  have hh := has_ok (len := D.length) (p := p) (n := n) (by omega)
  refine ⟨by unfold rawErr; rw [if_neg (by omega), hh], by unfold rawB; rw [if_neg (by omega), if_pos hh, Int.toNat_natCast, ← hx, b], by unfold rawAt; rw [if_neg (by omega), Int.toNat_natCast, step_ok (by omega)]⟩
/-- The rest of an entry: its sum, its load. -/
theorem opnT_at {D y rest : List UInt8} {p : Nat} {s : Int} (k base : Int) (hs : 0 ≤ s ∧ s < 4294967296) (h : D.drop p = hiB s 4 4 ++ (y ++ rest)) (hp : p ≤ D.length) :
    opnT D k base y.length p 0 = if crcI y ≠ s then zE 13 else ((k, base, p + 4 + y.length, s, y), 0) := by
  obtain ⟨a, _, d⟩ := at_ok h hp
  rw [hiB_length] at a d
  have hn := num_ok (n := 4) h (hiB_length _ _ _) hp
  obtain ⟨r1, r2, r3⟩ := raw_ok (n := y.length) d rfl a
  unfold opnT
  have e1 : hasErr D.length p 0 4 = 0 := has_ok a
  rw [step_ok a, e1, r1, if_neg (by simp), r2, r3, hn, hiB_bigP4 s hs.1 hs.2]
  rfl
/-- A whole entry, at its place. -/
theorem opnD_whole {D y rest : List UInt8} {p : Nat} {k s over : Int} (hk : 1 ≤ k ∧ k ≤ 4) (hs : 0 ≤ s ∧ s < 4294967296) (hy : y.length ≤ 4000) (h : D.drop p = [toB k] ++ (varB y.length ++ (hiB s 4 4 ++ (y ++ rest)))) (hp : p ≤ D.length) :
    opnD D p over = if crcI y ≠ s then zE 13 else ((k, 0, p + 1 + (varB y.length).length + 4 + y.length, s, y), 0) := by
  obtain ⟨a, _, d⟩ := at_ok h hp
  simp only [List.length_cons, List.length_nil, Nat.zero_add] at a d
  have hn := num_ok (n := 1) h rfl hp
  have hb : (bigV [toB k] : Int) = k := by
    have := toB_nat (c := k) (by omega) (by omega)
    simp [bigV, this]
    omega
  have e1 : hasErr D.length p 0 1 = 0 := has_ok a
  have hv := var_fwdP (most := 4000) d (by omega) (by omega)
  obtain ⟨a2, _, d2⟩ := at_ok d a
  unfold opnD
  rw [Int.toNat_natCast, step_ok a, e1, hv, hn, hb]
  unfold opnK
  rw [if_neg (by omega), if_neg (by omega)]
  exact opnT_at k 0 hs d2 a2
/-- An entry that lies on another one. -/
theorem opnD_lies {D y rest : List UInt8} {p m : Nat} {s over : Int} (hm : 1 ≤ m ∧ m + 12 ≤ p) (hp2 : p ≤ 1048576) (ho : over ≠ 8) (hs : 0 ≤ s ∧ s < 4294967296) (hy : y.length ≤ 4000) (h : D.drop p = [toB 5] ++ (varB y.length ++ (varB m ++ (hiB s 4 4 ++ (y ++ rest))))) (hp : p ≤ D.length) :
    opnD D p over = if crcI y ≠ s then zE 13 else ((5, (p : Int) - m, p + 1 + (varB y.length).length + (varB m).length + 4 + y.length, s, y), 0) := by
  obtain ⟨a, _, d⟩ := at_ok h hp
  simp only [List.length_cons, List.length_nil, Nat.zero_add] at a d
  have hn := num_ok (n := 1) h rfl hp
  have hb : (bigV [toB 5] : Int) = 5 := by decide
  have e1 : hasErr D.length p 0 1 = 0 := has_ok a
  have hv := var_fwdP (most := 4000) d (by omega) (by omega)
  obtain ⟨a2, _, d2⟩ := at_ok d a
  have hv2 := var_fwdP (most := 1048576) d2 (by omega) (by omega)
  obtain ⟨a3, _, d3⟩ := at_ok d2 a2
  unfold opnD
  rw [Int.toNat_natCast, step_ok a, e1, hv, hn, hb]
  unfold opnK
  simp only [hv2]
  rw [if_neg (by omega), if_pos trivial, if_neg (by omega), if_neg (by omega)]
  exact opnT_at 5 _ hs d3 a3
end Go.Proofs.YtkaeoflgnnlbeaaGreatDoor
/- What is proved: plain facts on four bytes that are turned: the bytes' sum is another one. Conditions: there are four bytes; a bit is turned. -/
namespace Go.Proofs.YtkaeoflgnnlbeaaGreatDoor
open Go.RowKit
set_option linter.unusedVariables false

/-- The m-th byte of a burst, the lowest first. -/
def tB (t m : Nat) : UInt8 := UInt8.ofNat (t / 2 ^ (8 * m) % 256)
/-- Bytes from P on, the first m turned. -/
def xorP (t : Nat) (l : List UInt8) (P : Nat) : Nat → List UInt8
  | 0 => l
  | m + 1 => (xorP t l P m).set (P + m) ((xorP t l P m).getD (P + m) 0 ^^^ tB t m)
theorem xorP_len (t : Nat) (l : List UInt8) (P m : Nat) : (xorP t l P m).length = l.length := by
  induction m with
  | zero => rfl
  | succ m ih => rw [xorP, List.length_set, ih]
theorem xorP_at (t : Nat) (l : List UInt8) (P m i : Nat) (h : P + m ≤ l.length) : (xorP t l P m).getD i 0 = if P ≤ i ∧ i < P + m then l.getD i 0 ^^^ tB t (i - P) else l.getD i 0 := by
  induction m generalizing i with
  | zero => rw [if_neg (by omega)]; rfl
  | succ m ih =>
    have hl := xorP_len t l P m
    rw [xorP, List.getD_eq_getElem?_getD, List.getElem?_set]
    by_cases e : P + m = i
    · subst e
      rw [if_pos rfl, if_pos (by omega), if_pos (by omega), Option.getD_some, ih (P + m) (by omega), if_neg (by omega), Nat.add_sub_cancel_left]
    · rw [if_neg e, ← List.getD_eq_getElem?_getD, ih i (by omega)]
      by_cases h2 : P ≤ i ∧ i < P + m
      · rw [if_pos h2, if_pos (by omega)]
      · rw [if_neg h2, if_neg (by omega)]
/-- A bit of what k rounds of a burst make. -/
theorem brs_bit (l : List UInt8) (t : BitVec 32) (k i b : Nat) (hb : b < 8) (hi : i < l.length) (hk : k ≤ 8 * l.length) : ((brs l 0 t k).getD i 0).toBitVec.getLsbD b = ((l.getD i 0).toBitVec.getLsbD b ^^ (decide (8 * i + b < k) && t.getLsbD (8 * i + b))) := by
  induction k with
  | zero => simp [brs]
  | succ k ih =>
    have ih := ih (by omega)
    have hl := brs_length l 0 t k
    have hrest : 8 * i + b ≠ k → (decide (8 * i + b < k + 1) && t.getLsbD (8 * i + b)) = (decide (8 * i + b < k) && t.getLsbD (8 * i + b)) := fun h => by
      congr 1
      exact decide_eq_decide.2 (by omega)
    unfold brs
    by_cases ht : t.getLsbD k
    · rw [if_pos ht, Nat.zero_add]
      unfold flip1
      rw [List.getD_eq_getElem?_getD, List.getElem?_set]
      by_cases e : k / 8 = i
      · rw [if_pos e, if_pos (by omega), Option.getD_some, UInt8.toBitVec_xor, BitVec.getLsbD_xor, e, ih]
        have hp : (UInt8.ofNat (2 ^ (k % 8))).toBitVec.getLsbD b = decide (b = k % 8) := by
          have h8 : k % 8 < 8 := Nat.mod_lt _ (by decide)
          have h1 : ∀ m : Fin 8, ∀ c : Fin 8, (UInt8.ofNat (2 ^ m.val)).toBitVec.getLsbD c.val = decide (c.val = m.val) := by decide
          exact h1 ⟨k % 8, h8⟩ ⟨b, hb⟩
        rw [hp]
        by_cases e2 : b = k % 8
        · have e3 : 8 * i + b = k := by omega
          rw [e3, ht]
          simp [e2]
        · rw [hrest (by omega)]
          simp [e2]
      · rw [if_neg e, ← List.getD_eq_getElem?_getD, ih, hrest (by omega)]
    · rw [if_neg ht, ih]
      by_cases e : 8 * i + b = k
      · rw [e]
        simp [ht]
      · rw [hrest e]
theorem tB_bit (t m b : Nat) (hb : b < 8) : (tB t m).toBitVec.getLsbD b = t.testBit (8 * m + b) := by
  unfold tB
  rw [show (UInt8.ofNat (t / 2 ^ (8 * m) % 256)).toBitVec = BitVec.ofNat 8 (t / 2 ^ (8 * m) % 256) from rfl, BitVec.getLsbD_ofNat, show (256 : Nat) = 2 ^ 8 from rfl, Nat.testBit_mod_two_pow, Nat.testBit_div_two_pow]
  simp [hb, Nat.add_comm]
/-- Four bytes turned, as a burst. -/
theorem xorP_brs (t : Nat) (ht : t < 4294967296) (l : List UInt8) (h : 4 ≤ l.length) : xorP t l 0 4 = brs l 0 (BitVec.ofNat 32 t) 32 := by
  refine List.ext_getElem (by rw [xorP_len, brs_length]) (fun i h1 h2 => ?_)
  rw [xorP_len] at h1
  have e1 : (xorP t l 0 4)[i] = (xorP t l 0 4).getD i 0 := by rw [List.getD_eq_getElem?_getD, List.getElem?_eq_getElem]; rfl
  have e2 : (brs l 0 (BitVec.ofNat 32 t) 32)[i] = (brs l 0 (BitVec.ofNat 32 t) 32).getD i 0 := by rw [List.getD_eq_getElem?_getD, List.getElem?_eq_getElem]; rfl
  rw [e1, e2]
  apply UInt8.toBitVec_inj.1
  apply BitVec.eq_of_getLsbD_eq
  intro b hb
  rw [brs_bit l _ 32 i b hb h1 (by omega), xorP_at t l 0 4 i (by omega)]
  by_cases hi : i < 4
  · rw [if_pos (by omega), UInt8.toBitVec_xor, BitVec.getLsbD_xor, Nat.sub_zero, tB_bit t i b hb, BitVec.getLsbD_ofNat]
    have h32 : 8 * i + b < 32 := by omega
    simp [h32]
  · rw [if_neg (by omega)]
    have h32 : ¬ 8 * i + b < 32 := by omega
    simp [h32]
/-- Its sum is another one. -/
theorem xorP_sum (t : Nat) (h0 : t ≠ 0) (ht : t < 4294967296) (l : List UInt8) (h : 4 ≤ l.length) : more 0#32 (xorP t l 0 4) ≠ more 0#32 l := by
  rw [xorP_brs t ht l h]
  intro e
  have := (burst_sum l 0 (BitVec.ofNat 32 t) (by omega)).1 e
  have h2 := congrArg BitVec.toNat this
  simp at h2
  omega
end Go.Proofs.YtkaeoflgnnlbeaaGreatDoor
/- What is proved: a pack of whole objects, plainly: where each entry lies; where a load's bytes are turned, its entry has a wrong sum. Conditions: each names its own. -/
namespace Go.Proofs.YtkaeoflgnnlbeaaGreatDoor
open Go.RowKit
set_option linter.unusedVariables false

theorem candL_zero (ps : List PIt) (ds : List Int) (kk : Int) (n s : Nat) (h : ∀ d ∈ ds, 0 ≤ d) : candL ps ds kk 0 n s = [] := by
  apply List.eq_nil_iff_forall_not_mem.2
  intro c hc
  have h1 := (candL_lt ps ds kk 0 n s c hc).2.2
  rw [List.getD_eq_getElem?_getD] at h1
  cases e : ds[c]? with
  | none => rw [e] at h1; simp at h1
  | some d =>
    rw [e] at h1
    have := h d (List.mem_of_getElem? e)
    simp at h1
    omega
/-- An entry's head. -/
def hdE (k : Int) (b : List UInt8) : List UInt8 := [toB k] ++ varB b.length ++ hiB (crcI b) 4 4
theorem layE_none (xs : List UInt8) (k : Int) (b : List UInt8) : layE xs k b none = xs ++ (hdE k b ++ b) := by simp [layE, hdE]
section
variable (dl : List UInt8 → List UInt8 → List UInt8 × Int) (ps : List PIt) (hdl : ∀ p ∈ ps, ∀ q ∈ ps, (dl p.b q.b).2 = 0)
include hdl
theorem wrN_whole (k : Nat) (p : PIt) (hp : ps[k]? = some p) : wrN dl ps 0 (k + 1) = ((wrN dl ps 0 k).1 ++ (hdE p.k p.b ++ p.b), (wrN dl ps 0 k).2.1 ++ [((wrN dl ps 0 k).1.length, crcI p.b)], (wrN dl ps 0 k).2.2 ++ [0]) := by
  have hk := (List.getElem?_eq_some_iff.1 hp).1
  obtain ⟨m, hm⟩ : ∃ m, ∀ p ∈ ps, p.b.length ≤ m := by
    clear hdl hp hk
    induction ps with
    | nil => exact ⟨0, by simp⟩
    | cons q ps ih =>
      obtain ⟨m, hm⟩ := ih
      refine ⟨max m q.b.length, fun p hp => ?_⟩
      rcases List.mem_cons.1 hp with e | e
      · rw [e]; omega
      · have := hm p e; omega
  obtain ⟨_, _, _, _, _, hds⟩ := wrN_len dl ps 0 m hm hdl (by omega) k (by omega)
  have e : wrN dl ps 0 (k + 1) = stepW dl ps 0 k p (wrN dl ps 0 k) := by rw [wrN, hp]
  rw [e, stepW_best dl ps 0 k p _ (fun q hq => hdl q hq p (List.mem_of_getElem? hp)) (by omega), candL_zero ps _ p.k k 4 (fun d hd => (hds d hd).1)]
  simp only [bestL, Option.map_none, layE_none]
theorem wrN_front (k n : Nat) (h : k ≤ n) (hn : n ≤ ps.length) : ∃ r q, (wrN dl ps 0 n).1 = (wrN dl ps 0 k).1 ++ r ∧ (wrN dl ps 0 n).2.1 = (wrN dl ps 0 k).2.1 ++ q := by
  induction n with
  | zero => obtain rfl : k = 0 := by omega
            exact ⟨[], [], by simp, by simp⟩
  | succ n ih =>
    by_cases e : k = n + 1
    · subst e; exact ⟨[], [], by simp, by simp⟩
    · obtain ⟨r, q, h1, h2⟩ := ih (by omega) (by omega)
      obtain ⟨p, hp⟩ : ∃ p, ps[n]? = some p := ⟨_, List.getElem?_eq_getElem (by omega)⟩
      rw [wrN_whole dl ps hdl n p hp]
      exact ⟨r ++ (hdE p.k p.b ++ p.b), q ++ [((wrN dl ps 0 n).1.length, crcI p.b)], by rw [h1]; simp, by rw [h2]; simp⟩
/-- An object's entry in all. -/
theorem wrN_at (k : Nat) (p : PIt) (hp : ps[k]? = some p) : ∃ r, (wrN dl ps 0 ps.length).1 = (wrN dl ps 0 k).1 ++ (hdE p.k p.b ++ (p.b ++ r)) ∧ (wrN dl ps 0 (k + 1)).1.length = (wrN dl ps 0 k).1.length + (hdE p.k p.b).length + p.b.length ∧ (wrN dl ps 0 ps.length).2.1[k]? = some ((wrN dl ps 0 k).1.length, crcI p.b) := by
  have hk := (List.getElem?_eq_some_iff.1 hp).1
  obtain ⟨r, q, h1, h2⟩ := wrN_front dl ps hdl (k + 1) ps.length (by omega) (Nat.le_refl _)
  have hw := wrN_whole dl ps hdl k p hp
  refine ⟨r, ?_, ?_, ?_⟩
  · rw [h1, hw]; simp
  · rw [hw]; simp only [List.length_append]; omega
  · have hlk : (wrN dl ps 0 k).2.1.length = k := by
      clear h1 h2 hw hp
      induction k with
      | zero => rfl
      | succ k ih =>
        obtain ⟨p', hp'⟩ : ∃ p, ps[k]? = some p := ⟨_, List.getElem?_eq_getElem (by omega)⟩
        rw [wrN_whole dl ps hdl k p' hp']
        simp [ih (by omega)]
    rw [h2, hw, List.getElem?_append_left (by simp [hlk]), List.getElem?_append_right (by omega)]
    simp [hlk]
end
theorem xorP_mid (t : Nat) (U b V : List UInt8) (m : Nat) (h : m ≤ b.length) : xorP t (U ++ (b ++ V)) U.length m = U ++ (xorP t b 0 m ++ V) := by
  induction m with
  | zero => rfl
  | succ m ih =>
    have hl := xorP_len t b 0 m
    rw [xorP, ih (by omega), xorP, Nat.zero_add]
    have e1 : (U ++ (xorP t b 0 m ++ V)).getD (U.length + m) 0 = (xorP t b 0 m).getD m 0 := by
      rw [List.getD_eq_getElem?_getD, List.getElem?_append_right (by omega), Nat.add_sub_cancel_left, List.getElem?_append_left (by omega), ← List.getD_eq_getElem?_getD]
    rw [e1, List.set_append, if_neg (by omega), Nat.add_sub_cancel_left, List.set_append, if_pos (by omega)]
theorem crcI_ne {a b : List UInt8} (h : more 0#32 a ≠ more 0#32 b) : crcI a ≠ crcI b := fun e => h (by
  unfold crcI rI at e
  exact BitVec.eq_of_toNat_eq (by omega))
/-- Where four bytes of a load are turned, the entry has a wrong sum. -/
theorem turned_opn (X b r T : List UInt8) (k : Int) (t : Nat) (hk : 1 ≤ k ∧ k ≤ 4) (hb : 4 ≤ b.length ∧ b.length ≤ 4000) (hX : 12 ≤ X.length) (h0 : t ≠ 0) (ht : t < 4294967296) (hT : T.length = 32) (over : Int) :
    opnE (xorP t (X ++ (hdE k b ++ (b ++ (r ++ T)))) (X.length + (hdE k b).length) 4) X.length over = zE 13 := by
  have e : X ++ (hdE k b ++ (b ++ (r ++ T))) = (X ++ hdE k b) ++ (b ++ (r ++ T)) := by simp
  have e2 : X.length + (hdE k b).length = (X ++ hdE k b).length := by simp
  have hyl := xorP_len t b 0 4
  rw [e, e2, xorP_mid t _ b _ 4 hb.1]
  have hh : 6 ≤ (hdE k b).length := by
    have := (varB_length b.length).1
    unfold hdE
    simp only [List.length_append, hiB_length, List.length_cons, List.length_nil]
    omega
  obtain ⟨y, hy⟩ : ∃ y, xorP t b 0 4 = y := ⟨_, rfl⟩
  have hs := crcI_ne (xorP_sum t h0 ht b hb.1)
  rw [hy] at hs hyl ⊢
  have hl : ((X ++ hdE k b) ++ (y ++ (r ++ T))).length = X.length + (hdE k b).length + y.length + r.length + 32 := by simp [hT]; omega
  have htk : ((X ++ hdE k b) ++ (y ++ (r ++ T))).take (((X ++ hdE k b) ++ (y ++ (r ++ T))).length - 32) = X ++ ([toB k] ++ (varB y.length ++ (hiB (crcI b) 4 4 ++ (y ++ r)))) := by
    have : (X ++ hdE k b) ++ (y ++ (r ++ T)) = (X ++ ([toB k] ++ (varB y.length ++ (hiB (crcI b) 4 4 ++ (y ++ r))))) ++ T := by simp [hdE, hyl]
    rw [this, List.length_append, hT, Nat.add_sub_cancel, List.take_left]
  unfold opnE
  rw [if_neg (by omega), if_neg (by omega), htk]
  rw [opnD_whole (D := X ++ ([toB k] ++ (varB y.length ++ (hiB (crcI b) 4 4 ++ (y ++ r))))) (y := y) (rest := r) (p := X.length) (k := k) (s := crcI b) (over := over) hk ⟨rI_lo _, rI_hi _⟩ (by omega) (by rw [List.drop_left]) (by rw [List.length_append]; omega), if_pos hs]
theorem bad_read (rd : List UInt8 → (Int × Int × List DOp) × Int) (ap : List UInt8 → Int → Int → List DOp → List UInt8 × Int) (bs : List UInt8) (at' e : Int) (he : e ≠ 0) (h : opnE bs at' 0 = zE e) : readP rd ap bs 8 at' = ((0, []), e) ∧ Says rd ap bs at' := by
  have e0 : (8 - ((7 : Nat) + 1 : Int)) = 0 := by decide
  have hc : chP bs 8 at' = ([], e) := by
    unfold chP
    simp only [e0, h]
    rw [if_pos (show (zE e).2 ≠ 0 from he)]
    rfl
  refine ⟨?_, fun x hx => by rw [hc] at hx; simp at hx, fun hne => absurd (by rw [hc]; rfl) hne⟩
  unfold readP
  simp only [e0, h]
  rw [if_pos (show (zE e).2 ≠ 0 from he)]
  rfl
end Go.Proofs.YtkaeoflgnnlbeaaGreatDoor

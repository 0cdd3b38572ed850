/- What is proved: plain facts on numbers that are laid and read; what bytes tell as a script, plainly. Conditions: none; no program is named. -/
import Derived.Test.YthjfkeploofblaaDd
import Derived.Test.YthjfkeploofblaaDb
import Derived.Test.YthjfkeploofblaaDe
import Derived.Test.YthjfkeploofblaaDeg
namespace Go.Proofs.Ythjfkeploofblaa
open Go.RowKit
set_option linter.unusedVariables false

theorem toNat_val (c : UInt8) : UInt8.ofNat c.toNat = c := by simp
theorem scan_inv (f k a : Nat) (l : List UInt8) (v s : Nat) (h : scan (f + 1) k a l = (v, s, 0)) :
    ∃ m rest, v = a + m * 128 ^ k ∧ l = varF f m ++ rest ∧ s = k + (varF f m).length ∧ (0 < k → m ≠ 0) := by
  induction f generalizing k a l with
  | zero =>
    cases l with
    | nil => simp [scan] at h
    | cons c t =>
      rw [scan] at h
      split at h
      · simp at h
      · rename_i hb
        split at h
        · rename_i hc
          simp only [Prod.mk.injEq] at h
          refine ⟨c.toNat, t, by rw [← h.1, Nat.mod_eq_of_lt hc], by simp [varF], by simp [varF]; omega, by omega⟩
        · simp [scan] at h
  | succ f ih =>
    cases l with
    | nil => simp [scan] at h
    | cons c t =>
      rw [scan] at h
      split at h
      · simp at h
      · rename_i hb
        split at h
        · rename_i hc
          simp only [Prod.mk.injEq] at h
          refine ⟨c.toNat, t, by rw [← h.1, Nat.mod_eq_of_lt hc], ?_, ?_, by omega⟩
          · rw [varF_small _ _ hc]; simp
          · rw [varF_small _ _ hc]; simp; omega
        · rename_i hc
          obtain ⟨m, rest, h1, h2, h3, h4⟩ := ih _ _ _ h
          have hm := h4 (by omega)
          have hct := c.toNat_lt
          refine ⟨c.toNat % 128 + 128 * m, rest, ?_, ?_, ?_, by omega⟩
          · rw [h1, Nat.pow_succ, Nat.add_mul, Nat.add_assoc]
            congr 2
            rw [Nat.mul_comm (128 ^ k) 128, ← Nat.mul_assoc, Nat.mul_comm m 128]
          · rw [varF, if_neg (by omega)]
            have e1 : (c.toNat % 128 + 128 * m) % 128 + 128 = c.toNat := by omega
            have e2 : (c.toNat % 128 + 128 * m) / 128 = m := by omega
            rw [e1, e2, toNat_val, h2]
            rfl
          · rw [varF, if_neg (by omega), List.length_cons]
            have e2 : (c.toNat % 128 + 128 * m) / 128 = m := by omega
            rw [e2]
            omega

theorem varR_inv {l : List UInt8} {v s : Nat} (h : varR l = (v, s, 0)) : ∃ rest, l = varB v ++ rest ∧ s = (varB v).length := by
  obtain ⟨m, rest, h1, h2, h3, _⟩ := scan_inv 9 0 0 l v s h
  have e : m = v := by omega
  subst e
  exact ⟨rest, h2, by unfold varB; omega⟩

/-- What Var takes without an error is the number's bytes. -/
theorem varO_inv {bs : List UInt8} {p : Nat} {er most : Int} {o : Nat × Nat × Int} (h : varO bs p er most = o) (h0 : o.2.2 = 0) : er = 0 ∧ o.2.1 = p + (varB o.1).length ∧ ∃ rest, bs.drop p = varB o.1 ++ rest := by
  unfold varO at h
  split at h
  · rename_i hn
    rw [← h] at h0
    exact absurd h0 hn
  · rename_i hn
    split at h
    · rw [← h] at h0
      simp at h0
    · have hn' : (digR bs p er).2.2 = 0 := by simpa using hn
      unfold digR at hn' h
      by_cases he : er = 0
      · simp only [if_pos he] at hn' h
        obtain ⟨rest, h1, h2⟩ := varR_inv (l := bs.drop p) (v := (varR (bs.drop p)).1) (s := (varR (bs.drop p)).2.1) (by rw [← hn'])
        rw [← h]
        exact ⟨he, by simp only; omega, rest, h1⟩
      · rw [if_neg he] at hn'
        exact absurd hn' he
theorem ofNat_toNat {m : Nat} (h : m < 256) : (UInt8.ofNat m).toNat = m := by rw [UInt8.toNat_ofNat', Nat.mod_eq_of_lt h]
theorem scan_fwd (f k a m : Nat) (rest : List UInt8) (hk : k + f = 9) (hm : m < 128 ^ (f + 1)) (h9 : f = 0 → m ≤ 1) (h0 : 0 < k → m ≠ 0) (hz : m * 128 ^ k < 18446744073709551616) :
    scan (f + 1) k a (varF f m ++ rest) = (a + m * 128 ^ k, k + (varF f m).length, 0) := by
  induction f generalizing k a m with
  | zero =>
    have hm1 := h9 rfl
    have e : varF 0 m = [UInt8.ofNat m] := rfl
    rw [e, List.singleton_append, scan_last, ofNat_toNat (by omega), Nat.mod_eq_of_lt (by omega)]
    · rfl
    · rw [ofNat_toNat (by omega)]; omega
    · rw [ofNat_toNat (by omega)]; omega
  | succ f ih =>
    by_cases hs : m < 128
    · rw [varF_small _ _ hs, List.singleton_append, scan_last, ofNat_toNat (by omega), Nat.mod_eq_of_lt hs]
      · rfl
      · rw [ofNat_toNat (by omega)]; omega
      · rw [ofNat_toNat (by omega)]; omega
    · rw [varF, if_neg hs, List.cons_append, scan_more]
      · rw [ofNat_toNat (by omega), ih (k + 1) _ (m / 128) (by omega) (pow128 _ _ hm)]
        · have e1 : (m % 128 + 128) % 128 = m % 128 := by omega
          rw [e1, List.length_cons]
          have e2 : m % 128 * 128 ^ k + m / 128 * 128 ^ (k + 1) = m * 128 ^ k := by
            rw [Nat.pow_succ, Nat.mul_comm (128 ^ k) 128, ← Nat.mul_assoc, ← Nat.add_mul]
            congr 1
            omega
          rw [Nat.add_assoc, e2]
          congr 2
          omega
        · intro hf
          subst hf
          have hk8 : k = 8 := by omega
          subst hk8
          omega
        · intro _
          omega
        · rw [Nat.pow_succ, Nat.mul_comm (128 ^ k) 128, ← Nat.mul_assoc]
          have : m / 128 * 128 * 128 ^ k ≤ m * 128 ^ k := Nat.mul_le_mul_right _ (by omega)
          omega
      · rw [ofNat_toNat (by omega)]; omega
      · rw [ofNat_toNat (by omega)]; omega
theorem varR_fwd (m : Nat) (rest : List UInt8) (h : m < 18446744073709551616) : varR (varB m ++ rest) = (m, (varB m).length, 0) := by
  have := scan_fwd 9 0 0 m rest rfl (by omega) (by intro h; omega) (by intro h; omega) (by omega)
  unfold varR varB
  rw [this]
  simp

/-- The bytes behind a place. -/
theorem at_bytes {X ys rest : List UInt8} {p : Nat} (h : X.drop p = ys ++ rest) (hp : p ≤ X.length) : (X.drop p).take ys.length = ys ∧ p + ys.length ≤ X.length := by
  refine ⟨by rw [h, List.take_left], ?_⟩
  have := congrArg List.length h
  rw [List.length_drop, List.length_append] at this
  omega
theorem byte_fwd {X rest : List UInt8} {p : Nat} {b : UInt8} (h : X.drop p = [b] ++ rest) (hp : p ≤ X.length) : byteAt X p 0 = b ∧ stepAt X.length p 0 1 = p + 1 ∧ hasErr X.length p 0 1 = 0 := by
  obtain ⟨h1, h2⟩ := at_bytes h hp
  simp only [List.length_singleton] at h2
  refine ⟨?_, by unfold stepAt; rw [if_pos ⟨rfl, h2⟩], hasErr_ok (by omega)⟩
  have := drop_byte (bs := X) (q := p) (by omega)
  rw [this] at h
  simpa using (List.cons.inj h).1
theorem var_fwd {X rest : List UInt8} {p m : Nat} {most : Int} (h : X.drop p = varB m ++ rest) (hm : m < 18446744073709551616) (hmost : (m : Int) ≤ most) : varO X p 0 most = (m, p + (varB m).length, 0) := by
  have hd : digR X p 0 = (m, (varB m).length, 0) := by unfold digR; rw [if_pos rfl, h, varR_fwd m rest hm]
  unfold varO
  rw [hd, if_neg (by simp), if_neg (by simp only; omega)]
theorem raw_fwd {X ys rest : List UInt8} {p : Nat} (h : X.drop p = ys ++ rest) (hp : p ≤ X.length) : rawB X p 0 ys.length = ys ∧ rawAt X.length p 0 ys.length = p + ys.length ∧ rawErr X.length p 0 ys.length = 0 := by
  obtain ⟨h1, h2⟩ := at_bytes h hp
  have he : hasErr X.length p 0 ys.length = 0 := hasErr_ok (by omega)
  exact ⟨by unfold rawB; rw [if_neg (by omega), if_pos he, Int.toNat_natCast, h1], by unfold rawAt stepAt; rw [if_neg (by omega), Int.toNat_natCast, if_pos ⟨rfl, h2⟩], by unfold rawErr; rw [if_neg (by omega), he]⟩

theorem varO_ge (bs : List UInt8) (p : Nat) (er most : Int) : p ≤ (varO bs p er most).2.1 := by
  unfold varO
  split
  · simp
  · split <;> simp
theorem varO_most (bs : List UInt8) (p : Nat) (er most : Int) (hm : 0 ≤ most) : ((varO bs p er most).1 : Int) ≤ most := by
  unfold varO
  split
  · simpa using hm
  · split
    · simpa using hm
    · simp only; omega
theorem varO_er {bs : List UInt8} {p : Nat} {er most : Int} (h : er ≠ 0) : varO bs p er most = (0, p, er) := by
  have hd : (digR bs p er).2.2 = er := by unfold digR; rw [if_neg h]
  unfold varO
  rw [hd, if_pos h]
/-- No op. -/
def zD : DOp := ⟨false, 0, 0, []⟩
def tkC (base : Int) (f n : Nat × Nat × Int) : DOp × Nat × Int :=
  if n.2.2 ≠ 0 then (zD, n.2.1, n.2.2) else if n.1 = 0 then (zD, n.2.1, 12) else if (f.1 : Int) ≤ base - n.1 then (copyO f.1 n.1, n.2.1, 0) else (zD, n.2.1, 21)
def tkN (bs : List UInt8) (n : Nat × Nat × Int) : DOp × Nat × Int :=
  if rawErr bs.length n.2.1 n.2.2 n.1 ≠ 0 then (zD, 0, rawErr bs.length n.2.1 n.2.2 n.1) else if n.1 = 0 then (zD, 0, 12) else (newO (rawB bs n.2.1 n.2.2 n.1), rawAt bs.length n.2.1 n.2.2 n.1, 0)
/-- The op at a place: the op, the next place, the error. -/
def tkO (bs : List UInt8) (base : Int) (p : Nat) : DOp × Nat × Int :=
  if (bs.getD p 0).toNat = 1 then tkC base (varO bs (p + 1) 0 4000) (varO bs (varO bs (p + 1) 0 4000).2.1 (varO bs (p + 1) 0 4000).2.2 4000)
  else if (bs.getD p 0).toNat = 0 then tkN bs (varO bs (p + 1) 0 4000)
  else (zD, p + 1, 19)
/-- What a told op is. -/
theorem tkO_ok {bs : List UInt8} {base : Int} {p : Nat} (h : (tkO bs base p).2.2 = 0) : (tkO bs base p).1.Right base ∧ p + 1 ≤ (tkO bs base p).2.1 ∧ 0 ≤ (tkO bs base p).1.frm ∧ (tkO bs base p).1.frm ≤ 4000 ∧ 0 ≤ (tkO bs base p).1.n ∧ (tkO bs base p).1.n ≤ 4000 ∧ (tkO bs base p).1.b.length ≤ 4000 := by
  unfold tkO at h ⊢
  have g0 := varO_ge bs (p + 1) 0 4000
  have m0 := varO_most bs (p + 1) 0 4000 (by omega)
  split
  · rename_i h1
    rw [if_pos h1] at h
    have g1 := varO_ge bs (varO bs (p + 1) 0 4000).2.1 (varO bs (p + 1) 0 4000).2.2 4000
    have m1 := varO_most bs (varO bs (p + 1) 0 4000).2.1 (varO bs (p + 1) 0 4000).2.2 4000 (by omega)
    generalize varO bs (varO bs (p + 1) 0 4000).2.1 (varO bs (p + 1) 0 4000).2.2 4000 = n at *
    generalize varO bs (p + 1) 0 4000 = f at *
    unfold tkC at h ⊢
    split at h
    · rename_i h2; exact absurd h h2
    · rename_i h2
      split at h
      · simp at h
      · rename_i h3
        split at h
        · rename_i h4
          rw [if_neg h2, if_neg h3, if_pos h4]
          refine ⟨.inl ⟨rfl, by simp only [copyO]; omega, by simp [copyO], by simpa [copyO] using h4, rfl⟩, by simp only; omega, by simp [copyO], by simpa [copyO] using m0, by simp [copyO], by simpa [copyO] using m1, by simp [copyO]⟩
        · simp at h
  · rename_i h1
    rw [if_neg h1] at h
    split
    · rename_i h2
      rw [if_pos h2] at h
      generalize varO bs (p + 1) 0 4000 = n at *
      unfold tkN at h ⊢
      split at h
      · rename_i h3; exact absurd h h3
      · rename_i h3
        split at h
        · simp at h
        · rename_i h4
          rw [if_neg h3, if_neg h4]
          have h3' : rawErr bs.length n.2.1 n.2.2 n.1 = 0 := by simpa using h3
          unfold rawErr at h3'
          rw [if_neg (by omega)] at h3'
          obtain ⟨_, hle⟩ := hasErr_zero h3'
          have hl : (rawB bs n.2.1 n.2.2 n.1).length = n.1 := by
            unfold rawB
            rw [if_neg (by omega), if_pos h3', List.length_take, List.length_drop]
            omega
          refine ⟨.inr ⟨rfl, by simp only [newO]; omega, rfl, rfl⟩, ?_, by simp [newO], by simp [newO], by simp [newO], by simp [newO], by simp only [newO]; omega⟩
          unfold rawAt stepAt
          rw [if_neg (by omega)]
          split <;> (simp only; omega)
    · rename_i h2
      rw [if_neg h2] at h
      simp at h

/-- The ops from a place on (f: how many rounds may follow). -/
def rdO (bs : List UInt8) (base : Int) : Nat → Nat → Int → List DOp → List DOp × Int
  | 0, _, left, os => if 0 < left then ([], 10) else (os, 0)
  | f + 1, p, left, os =>
    if p < bs.length then
      if (tkO bs base p).2.2 ≠ 0 then ([], (tkO bs base p).2.2)
      else if left < (tkO bs base p).1.size then ([], 3)
      else rdO bs base f (tkO bs base p).2.1 (left - (tkO bs base p).1.size) (os ++ [(tkO bs base p).1])
    else if 0 < left then ([], 10) else (os, 0)
theorem rdO_end (bs : List UInt8) (base : Int) (f p : Nat) (left : Int) (os : List DOp) (h : bs.length ≤ p) : rdO bs base f p left os = if 0 < left then ([], 10) else (os, 0) := by
  cases f with
  | zero => rfl
  | succ f => unfold rdO; rw [if_neg (by omega)]
theorem rdO_fuel (bs : List UInt8) (base : Int) (f g p : Nat) (left : Int) (os : List DOp) (hf : bs.length ≤ p + f) (hg : bs.length ≤ p + g) : rdO bs base f p left os = rdO bs base g p left os := by
  induction f generalizing g p left os with
  | zero => rw [rdO_end _ _ _ _ _ _ (by omega), rdO_end _ _ _ _ _ _ (by omega)]
  | succ f ih =>
    cases g with
    | zero => rw [rdO_end _ _ _ _ _ _ (by omega), rdO_end _ _ _ _ _ _ (by omega)]
    | succ g =>
      unfold rdO
      split
      · split
        · rfl
        · rename_i he
          split
          · rfl
          · have := (tkO_ok (bs := bs) (base := base) (p := p) (by simpa using he)).2.1
            exact ih g _ _ _ (by omega) (by omega)
      · rfl
/-- What is left to read at a place. -/
def restD (bs : List UInt8) (base : Int) (p : Nat) (left : Int) (os : List DOp) : List DOp × Int := rdO bs base bs.length p left os
theorem restD_end {bs : List UInt8} {base : Int} {p : Nat} {left : Int} {os : List DOp} (h : ¬ p < bs.length) : restD bs base p left os = if 0 < left then ([], 10) else (os, 0) := rdO_end _ _ _ _ _ _ (by omega)
theorem restD_more {bs : List UInt8} {base : Int} {p : Nat} {left : Int} {os : List DOp} (h : p < bs.length) : restD bs base p left os =
    if (tkO bs base p).2.2 ≠ 0 then ([], (tkO bs base p).2.2) else if left < (tkO bs base p).1.size then ([], 3) else restD bs base (tkO bs base p).2.1 (left - (tkO bs base p).1.size) (os ++ [(tkO bs base p).1]) := by
  have e : restD bs base p left os = rdO bs base (bs.length + 1) p left os := rdO_fuel _ _ _ _ _ _ _ (by omega) (by omega)
  rw [e]
  conv => lhs; unfold rdO
  rw [if_pos h]
  rfl
def readT (bs : List UInt8) (f n : Nat × Nat × Int) : (Int × Int × List DOp) × Int :=
  if n.2.2 ≠ 0 then ((0, 0, []), n.2.2)
  else if (restD bs f.1 n.2.1 n.1 []).2 = 0 then ((f.1, n.1, (restD bs f.1 n.2.1 n.1 []).1), 0) else ((0, 0, []), (restD bs f.1 n.2.1 n.1 []).2)
/-- What bytes tell: the base's length, the target's, the ops; the error. -/
def readR (bs : List UInt8) : (Int × Int × List DOp) × Int := readT bs (varO bs 0 0 4000) (varO bs (varO bs 0 0 4000).2.1 (varO bs 0 0 4000).2.2 4000)
end Go.Proofs.Ythjfkeploofblaa

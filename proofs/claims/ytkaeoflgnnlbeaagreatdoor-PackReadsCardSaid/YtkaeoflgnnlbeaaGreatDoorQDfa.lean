/- What is proved: texts that stand one behind the other: Dfa. Conditions: each theorem names its own. -/
import Derived.Test.YtkaeoflgnnlbeaaGreatDoorQDb
import Derived.Test.YtkaeoflgnnlbeaaGreatDoorQDc
import Derived.Test.YtkaeoflgnnlbeaaGreatDoorQDe
import Derived.Test.YtkaeoflgnnlbeaaGreatDoorQDeg
/- What is proved: what the walks of this seat need of layers below, merged out of the texts Dfa (of each just what is needed). Conditions: each theorem names its own. -/
/- What is proved: plain facts on numbers that are laid and read; what bytes tell as a script, plainly. Conditions: none; no program is named. -/
namespace Go.Proofs.YtkaeoflgnnlbeaaGreatDoor
open Go.RowKit
set_option linter.unusedVariables false
theorem varO_ge (bs : List UInt8) (p : Nat) (er most : Int) : p ≤ (varO bs p er most).2.1 := by
  unfold varO
  split
  · simp
  · split <;> simp
theorem varO_most (bs : List UInt8) (p : Nat) (er most : Int) (hm : 0 ≤ most) : ((varO bs p er most).1 : Int) ≤ most := by
  unfold varO
  split
  · simpa using hm
  · split
    · simpa using hm
    · simp only; omega
/-- No op. -/
def zD : DOp := ⟨false, 0, 0, []⟩
def tkC (base : Int) (f n : Nat × Nat × Int) : DOp × Nat × Int :=
  if n.2.2 ≠ 0 then (zD, n.2.1, n.2.2) else if n.1 = 0 then (zD, n.2.1, 12) else if (f.1 : Int) ≤ base - n.1 then (copyO f.1 n.1, n.2.1, 0) else (zD, n.2.1, 21)
def tkN (bs : List UInt8) (n : Nat × Nat × Int) : DOp × Nat × Int :=
  if rawErr bs.length n.2.1 n.2.2 n.1 ≠ 0 then (zD, 0, rawErr bs.length n.2.1 n.2.2 n.1) else if n.1 = 0 then (zD, 0, 12) else (newO (rawB bs n.2.1 n.2.2 n.1), rawAt bs.length n.2.1 n.2.2 n.1, 0)
/-- The op at a place: the op, the next place, the error. -/
def tkO (bs : List UInt8) (base : Int) (p : Nat) : DOp × Nat × Int :=
  if (bs.getD p 0).toNat = 1 then tkC base (varO bs (p + 1) 0 4000) (varO bs (varO bs (p + 1) 0 4000).2.1 (varO bs (p + 1) 0 4000).2.2 4000)
  else if (bs.getD p 0).toNat = 0 then tkN bs (varO bs (p + 1) 0 4000)
  else (zD, p + 1, 19)
/-- What a told op is. -/
theorem tkO_ok {bs : List UInt8} {base : Int} {p : Nat} (h : (tkO bs base p).2.2 = 0) : (tkO bs base p).1.Right base ∧ p + 1 ≤ (tkO bs base p).2.1 ∧ 0 ≤ (tkO bs base p).1.frm ∧ (tkO bs base p).1.frm ≤ 4000 ∧ 0 ≤ (tkO bs base p).1.n ∧ (tkO bs base p).1.n ≤ 4000 ∧ (tkO bs base p).1.b.length ≤ 4000 := by
  unfold tkO at h ⊢
  have g0 := varO_ge bs (p + 1) 0 4000
  have m0 := varO_most bs (p + 1) 0 4000 (by omega)
  split
  · rename_i h1
    rw [if_pos h1] at h
    have g1 := varO_ge bs (varO bs (p + 1) 0 4000).2.1 (varO bs (p + 1) 0 4000).2.2 4000
    have m1 := varO_most bs (varO bs (p + 1) 0 4000).2.1 (varO bs (p + 1) 0 4000).2.2 4000 (by omega)
    generalize varO bs (varO bs (p + 1) 0 4000).2.1 (varO bs (p + 1) 0 4000).2.2 4000 = n at *
    generalize varO bs (p + 1) 0 4000 = f at *
    unfold tkC at h ⊢
    split at h
    · rename_i h2; exact absurd h h2
    · rename_i h2
      split at h
      · simp at h
      · rename_i h3
        split at h
        · rename_i h4
          rw [if_neg h2, if_neg h3, if_pos h4]
          refine ⟨.inl ⟨rfl, by simp only [copyO]; omega, by simp [copyO], by simpa [copyO] using h4, rfl⟩, by simp only; omega, by simp [copyO], by simpa [copyO] using m0, by simp [copyO], by simpa [copyO] using m1, by simp [copyO]⟩
        · simp at h
  · rename_i h1
    rw [if_neg h1] at h
    split
    · rename_i h2
      rw [if_pos h2] at h
      generalize varO bs (p + 1) 0 4000 = n at *
      unfold tkN at h ⊢
      split at h
      · rename_i h3; exact absurd h h3
      · rename_i h3
        split at h
        · simp at h
        · rename_i h4
          rw [if_neg h3, if_neg h4]
          have h3' : rawErr bs.length n.2.1 n.2.2 n.1 = 0 := by simpa using h3
          unfold rawErr at h3'
          rw [if_neg (by omega)] at h3'
          obtain ⟨_, hle⟩ := hasErr_zero h3'
          have hl : (rawB bs n.2.1 n.2.2 n.1).length = n.1 := by
            unfold rawB
            rw [if_neg (by omega), if_pos h3', List.length_take, List.length_drop]
            omega
          refine ⟨.inr ⟨rfl, by simp only [newO]; omega, rfl, rfl⟩, ?_, by simp [newO], by simp [newO], by simp [newO], by simp [newO], by simp only [newO]; omega⟩
          unfold rawAt stepAt
          rw [if_neg (by omega)]
          split <;> (simp only; omega)
    · rename_i h2
      rw [if_neg h2] at h
      simp at h
/-- The ops from a place on (f: how many rounds may follow). -/
def rdO (bs : List UInt8) (base : Int) : Nat → Nat → Int → List DOp → List DOp × Int
  | 0, _, left, os => if 0 < left then ([], 10) else (os, 0)
  | f + 1, p, left, os =>
    if p < bs.length then
      if (tkO bs base p).2.2 ≠ 0 then ([], (tkO bs base p).2.2)
      else if left < (tkO bs base p).1.size then ([], 3)
      else rdO bs base f (tkO bs base p).2.1 (left - (tkO bs base p).1.size) (os ++ [(tkO bs base p).1])
    else if 0 < left then ([], 10) else (os, 0)
theorem rdO_end (bs : List UInt8) (base : Int) (f p : Nat) (left : Int) (os : List DOp) (h : bs.length ≤ p) : rdO bs base f p left os = if 0 < left then ([], 10) else (os, 0) := by
  cases f with
  | zero => rfl
  | succ f => unfold rdO; rw [if_neg (by omega)]
theorem rdO_fuel (bs : List UInt8) (base : Int) (f g p : Nat) (left : Int) (os : List DOp) (hf : bs.length ≤ p + f) (hg : bs.length ≤ p + g) : rdO bs base f p left os = rdO bs base g p left os := by
  induction f generalizing g p left os with
  | zero => rw [rdO_end _ _ _ _ _ _ (by omega), rdO_end _ _ _ _ _ _ (by omega)]
  | succ f ih =>
    cases g with
    | zero => rw [rdO_end _ _ _ _ _ _ (by omega), rdO_end _ _ _ _ _ _ (by omega)]
    | succ g =>
      unfold rdO
      split
      · split
        · rfl
        · rename_i he
          split
          · rfl
          · have := (tkO_ok (bs := bs) (base := base) (p := p) (by simpa using he)).2.1
            exact ih g _ _ _ (by omega) (by omega)
      · rfl
/-- What is left to read at a place. -/
def restD (bs : List UInt8) (base : Int) (p : Nat) (left : Int) (os : List DOp) : List DOp × Int := rdO bs base bs.length p left os
theorem restD_end {bs : List UInt8} {base : Int} {p : Nat} {left : Int} {os : List DOp} (h : ¬ p < bs.length) : restD bs base p left os = if 0 < left then ([], 10) else (os, 0) := rdO_end _ _ _ _ _ _ (by omega)
theorem restD_more {bs : List UInt8} {base : Int} {p : Nat} {left : Int} {os : List DOp} (h : p < bs.length) : restD bs base p left os =
    if (tkO bs base p).2.2 ≠ 0 then ([], (tkO bs base p).2.2) else if left < (tkO bs base p).1.size then ([], 3) else restD bs base (tkO bs base p).2.1 (left - (tkO bs base p).1.size) (os ++ [(tkO bs base p).1]) := by
  have e : restD bs base p left os = rdO bs base (bs.length + 1) p left os := rdO_fuel _ _ _ _ _ _ _ (by omega) (by omega)
  rw [e]
  conv => lhs; unfold rdO
  rw [if_pos h]
  rfl
def readT (bs : List UInt8) (f n : Nat × Nat × Int) : (Int × Int × List DOp) × Int :=
  if n.2.2 ≠ 0 then ((0, 0, []), n.2.2)
  else if (restD bs f.1 n.2.1 n.1 []).2 = 0 then ((f.1, n.1, (restD bs f.1 n.2.1 n.1 []).1), 0) else ((0, 0, []), (restD bs f.1 n.2.1 n.1 []).2)
/-- What bytes tell: the base's length, the target's, the ops; the error. -/
def readR (bs : List UInt8) : (Int × Int × List DOp) × Int := readT bs (varO bs 0 0 4000) (varO bs (varO bs 0 0 4000).2.1 (varO bs 0 0 4000).2.2 4000)
end Go.Proofs.YtkaeoflgnnlbeaaGreatDoor

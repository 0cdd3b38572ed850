/- What is proved: texts that stand one behind the other: Deg. Conditions: each theorem names its own. -/
import Derived.Test.YtkaeoflgnnlbeaaGreatDoorQDea
/- What is proved: what the walks of this seat need of layers below, merged out of the texts Deg (of each just what is needed). Conditions: each theorem names its own. -/
/- What is proved: how one text is made of another one, plainly: the longest part, the first of several; the ops, with new bytes side by side in one. Conditions: none; no program is named. -/
namespace Go.Proofs.YtkaeoflgnnlbeaaGreatDoor
open Go.RowKit
set_option linter.unusedVariables false
/-- With how many like bytes two texts begin. -/
def lcp : List UInt8 → List UInt8 → Nat
  | a :: as, b :: bs => if a = b then lcp as bs + 1 else 0
  | _, _ => 0
theorem lcp_le_left (a b : List UInt8) : lcp a b ≤ a.length := by
  induction a generalizing b with
  | nil => simp [lcp]
  | cons x a ih =>
    cases b with
    | nil => simp [lcp]
    | cons y b =>
      unfold lcp
      split
      · have := ih b; simp; omega
      · simp
theorem lcp_le_right (a b : List UInt8) : lcp a b ≤ b.length := by
  induction a generalizing b with
  | nil => simp [lcp]
  | cons x a ih =>
    cases b with
    | nil => simp [lcp]
    | cons y b =>
      unfold lcp
      split
      · have := ih b; simp; omega
      · simp
theorem lcp_take (a b : List UInt8) : a.take (lcp a b) = b.take (lcp a b) := by
  induction a generalizing b with
  | nil => simp [lcp]
  | cons x a ih =>
    cases b with
    | nil => simp [lcp]
    | cons y b =>
      unfold lcp
      split
      · rename_i h; subst h; simp [ih b]
      · simp
/-- As far as all bytes are alike, and one is not, or one text ends. -/
theorem lcp_is (a b : List UInt8) (n : Nat) (h1 : ∀ j, j < n → ∃ c, a[j]? = some c ∧ b[j]? = some c) (h2 : a[n]? = none ∨ b[n]? = none ∨ a[n]? ≠ b[n]?) : lcp a b = n := by
  induction a generalizing b n with
  | nil =>
    cases n with
    | zero => simp [lcp]
    | succ n => obtain ⟨c, hc, _⟩ := h1 0 (by omega); simp at hc
  | cons x a ih =>
    cases b with
    | nil =>
      cases n with
      | zero => simp [lcp]
      | succ n => obtain ⟨c, _, hc⟩ := h1 0 (by omega); simp at hc
    | cons y b =>
      cases n with
      | zero =>
        unfold lcp
        rw [if_neg]
        rintro rfl
        simp at h2
      | succ n =>
        obtain ⟨c, hc1, hc2⟩ := h1 0 (by omega)
        simp at hc1 hc2
        unfold lcp
        rw [if_pos (hc1.trans hc2.symm)]
        rw [ih b n (fun j hj => by obtain ⟨c', g1, g2⟩ := h1 (j + 1) (by omega); exact ⟨c', by simpa using g1, by simpa using g2⟩) (by simpa using h2)]
/-- The best of the first k places: where, and how many (the first of several). -/
def bestK (base text : List UInt8) : Nat → Nat × Nat
  | 0 => (0, 0)
  | k + 1 => let r := bestK base text k; if r.2 < lcp (base.drop k) text then (k, lcp (base.drop k) text) else r
def bestO (base text : List UInt8) : Nat × Nat := bestK base text base.length
theorem bestK_succ (base text : List UInt8) (k : Nat) : bestK base text (k + 1) = if (bestK base text k).2 < lcp (base.drop k) text then (k, lcp (base.drop k) text) else bestK base text k := rfl
theorem bestK_le (base text : List UInt8) (k : Nat) (hk : k ≤ base.length) : (bestK base text k).2 ≤ text.length ∧ (bestK base text k).1 + (bestK base text k).2 ≤ base.length := by
  induction k with
  | zero => simp [bestK]
  | succ k ih =>
    rw [bestK_succ]
    split
    · have h1 := lcp_le_right (base.drop k) text
      have h2 := lcp_le_left (base.drop k) text
      rw [List.length_drop] at h2
      simp only
      omega
    · exact ih (by omega)
/-- What comes of a place, told by any list of places that rise: just those with a part of six count. -/
theorem bestK_skip (base text : List UInt8) (k : Nat) (m : Nat) (hm : k ≤ m) (h : ∀ j, k ≤ j → j < m → lcp (base.drop j) text ≤ (bestK base text k).2) : bestK base text m = bestK base text k := by
  induction m with
  | zero => have : k = 0 := by omega
            subst this; rfl
  | succ m ih =>
    rcases (by omega : k ≤ m ∨ k = m + 1) with h1 | rfl
    · have e := ih h1 (fun j a b => h j a (by omega))
      rw [bestK_succ, e, if_neg]
      have := h m h1 (by omega)
      omega
    · rfl
def copyO (f n : Nat) : DOp := ⟨true, f, n, []⟩
def newO (l : List UInt8) : DOp := ⟨false, 0, 0, l⟩
/-- A new byte behind ops: in the last one, if that is of new bytes. -/
def withO (os : List DOp) (c : UInt8) : List DOp :=
  match os.getLast? with
  | some o => if o.copy = true then os ++ [newO [c]] else os.dropLast ++ [⟨o.copy, o.frm, o.n, o.b ++ [c]⟩]
  | none => [newO [c]]
/-- The ops from so far on (f: how many rounds may follow). -/
def mkO (base target : List UInt8) : Nat → Nat → List DOp → List DOp
  | 0, _, os => os
  | f + 1, at', os =>
    if at' < target.length then
      if 6 ≤ (bestO base (target.drop at')).2 then mkO base target f (at' + (bestO base (target.drop at')).2) (os ++ [copyO (bestO base (target.drop at')).1 (bestO base (target.drop at')).2])
      else mkO base target f (at' + 1) (withO os (target.getD at' 0))
    else os
def makeO (base target : List UInt8) : List DOp := mkO base target target.length 0 []
theorem mkO_end (base target : List UInt8) (f at' : Nat) (os : List DOp) (h : target.length ≤ at') : mkO base target f at' os = os := by
  cases f with
  | zero => rfl
  | succ f => unfold mkO; rw [if_neg (by omega)]
theorem mkO_fuel (base target : List UInt8) (f g at' : Nat) (os : List DOp) (hf : target.length ≤ at' + f) (hg : target.length ≤ at' + g) : mkO base target f at' os = mkO base target g at' os := by
  induction f generalizing g at' os with
  | zero => rw [mkO_end _ _ _ _ _ (by omega), mkO_end _ _ _ _ _ (by omega)]
  | succ f ih =>
    cases g with
    | zero => rw [mkO_end _ _ _ _ _ (by omega), mkO_end _ _ _ _ _ (by omega)]
    | succ g =>
      unfold mkO
      split
      · split
        · exact ih g _ _ (by omega) (by omega)
        · exact ih g _ _ (by omega) (by omega)
      · rfl
/-- What is left to do at a place. -/
def restM (base target : List UInt8) (at' : Nat) (os : List DOp) : List DOp := mkO base target target.length at' os
theorem restM_end (base target : List UInt8) (at' : Nat) (os : List DOp) (h : target.length ≤ at') : restM base target at' os = os := mkO_end _ _ _ _ _ h
theorem restM_copy (base target : List UInt8) (at' : Nat) (os : List DOp) (h : at' < target.length) (h6 : 6 ≤ (bestO base (target.drop at')).2) :
    restM base target at' os = restM base target (at' + (bestO base (target.drop at')).2) (os ++ [copyO (bestO base (target.drop at')).1 (bestO base (target.drop at')).2]) := by
  have e : restM base target at' os = mkO base target (target.length + 1) at' os := mkO_fuel _ _ _ _ _ _ (by omega) (by omega)
  rw [e]
  unfold restM
  conv => lhs; unfold mkO
  rw [if_pos h, if_pos h6]
theorem restM_new (base target : List UInt8) (at' : Nat) (os : List DOp) (h : at' < target.length) (h6 : ¬ 6 ≤ (bestO base (target.drop at')).2) :
    restM base target at' os = restM base target (at' + 1) (withO os (target.getD at' 0)) := by
  have e : restM base target at' os = mkO base target (target.length + 1) at' os := mkO_fuel _ _ _ _ _ _ (by omega) (by omega)
  rw [e]
  unfold restM
  conv => lhs; unfold mkO
  rw [if_pos h, if_neg h6]
end Go.Proofs.YtkaeoflgnnlbeaaGreatDoor

/- What is proved: what ops lay from one place on up to another one, as ops; one script behind another one; plainly. Conditions: none; no program is named. -/
import Derived.Test.YthjfkeploofblaaDgc
namespace Go.Proofs.Ythjfkeploofblaa
open Go.RowKit
set_option linter.unusedVariables false

/-- What an op lays from l on up to h, as an op. -/
def subO (o : DOp) (l h : Int) : DOp := if o.copy = true then ⟨true, o.frm + l, h - l, []⟩ else newO ((o.b.drop l.toNat).take (h - l).toNat)
/-- What ops lay from f on up to t, as ops. -/
def cutR : List DOp → Int → Int → List DOp
  | [], _, _ => []
  | o :: os, f, t => (if max 0 f < min o.size t then [subO o (max 0 f) (min o.size t)] else []) ++ cutR os (f - o.size) (t - o.size)
/-- How many bytes ops lay. -/
def sumO (os : List DOp) : Int := (os.map DOp.size).sum
theorem sumO_nil : sumO [] = 0 := rfl
theorem sumO_cons (o : DOp) (os : List DOp) : sumO (o :: os) = o.size + sumO os := by simp [sumO]
theorem sumO_append (a b : List DOp) : sumO (a ++ b) = sumO a + sumO b := by
  induction a with
  | nil => simp [sumO_nil]
  | cons o a ih => rw [List.cons_append, sumO_cons, sumO_cons, ih]; omega
theorem restO_sum {base left r : Int} {os : List DOp} (h : restO base left os = some r) : sumO os + r = left := by
  induction os generalizing left with
  | nil => simp [restO] at h; rw [sumO_nil]; omega
  | cons o os ih =>
    rw [restO_cons] at h
    split at h
    · have := ih h; rw [sumO_cons]; omega
    · cases h
theorem sum_take_succ {os : List DOp} {k : Nat} {o : DOp} (h : os[k]? = some o) : sumO (os.take (k + 1)) = sumO (os.take k) + o.size := by
  rw [List.take_add_one, h, Option.toList_some, sumO_append, sumO_cons, sumO_nil]
  omega
theorem sum_take_mono {os : List DOp} (hp : ∀ o ∈ os, 1 ≤ o.size) {i j : Nat} (h : i < j) (hj : j ≤ os.length) : sumO (os.take i) < sumO (os.take j) := by
  induction j with
  | zero => omega
  | succ j ih =>
    have e := sum_take_succ (k := j) (List.getElem?_eq_getElem (l := os) (by omega : j < os.length))
    have := hp (os[j]'(by omega)) (List.getElem_mem _)
    rcases (by omega : i < j ∨ i = j) with h1 | rfl
    · have := ih h1 (by omega); omega
    · omega
theorem sum_take_nonneg {os : List DOp} (hp : ∀ o ∈ os, 1 ≤ o.size) (k : Nat) (hk : k ≤ os.length) : 0 ≤ sumO (os.take k) := by
  rcases Nat.eq_zero_or_pos k with rfl | h
  · simp [sumO_nil]
  · have := sum_take_mono hp h hk
    simp [sumO_nil] at this
    omega
theorem cutR_none (os : List DOp) (f t : Int) (ht : t ≤ 0) (hp : ∀ o ∈ os, 1 ≤ o.size) : cutR os f t = [] := by
  induction os generalizing f t with
  | nil => rfl
  | cons o os ih =>
    have := hp o (by simp)
    unfold cutR
    rw [if_neg (by omega), ih _ _ (by omega) (fun q hq => hp q (by simp [hq]))]
    rfl
theorem cutR_low (os : List DOp) (f f' t : Int) (h : f ≤ 0) (h' : f' ≤ 0) (hp : ∀ o ∈ os, 1 ≤ o.size) : cutR os f t = cutR os f' t := by
  induction os generalizing f f' t with
  | nil => rfl
  | cons o os ih =>
    have := hp o (by simp)
    unfold cutR
    rw [show max 0 f = 0 by omega, show max 0 f' = 0 by omega, ih (f - o.size) (f' - o.size) _ (by omega) (by omega) (fun q hq => hp q (by simp [hq]))]
/-- Ops that end ahead of the place lay nothing behind it. -/
theorem cutR_skip (os : List DOp) (f t : Int) (k : Nat) (hk : k ≤ os.length) (h : sumO (os.take k) ≤ f) (hp : ∀ o ∈ os, 1 ≤ o.size) : cutR os f t = cutR (os.drop k) (f - sumO (os.take k)) (t - sumO (os.take k)) := by
  induction os generalizing f t k with
  | nil => simp [sumO_nil]
  | cons o os ih =>
    cases k with
    | zero => simp [sumO_nil]
    | succ k =>
      have h1 := hp o (by simp)
      rw [List.take_succ_cons, sumO_cons] at h ⊢
      have h2 := sum_take_nonneg (os := os) (fun q hq => hp q (by simp [hq])) k (by simp at hk; omega)
      conv => lhs; unfold cutR
      rw [if_neg (by omega), List.nil_append, ih _ _ k (by simp at hk; omega) (by omega) (fun q hq => hp q (by simp [hq])), List.drop_succ_cons]
      congr 1 <;> omega
/-- One op on. -/
theorem cutR_step {os : List DOp} {k : Nat} {o : DOp} (h : os[k]? = some o) (f t s : Int) (hs : s = sumO (os.take k)) : cutR (os.drop k) (f - s) (t - s) = (if max 0 (f - s) < min o.size (t - s) then [subO o (max 0 (f - s)) (min o.size (t - s))] else []) ++ cutR (os.drop (k + 1)) (f - sumO (os.take (k + 1))) (t - sumO (os.take (k + 1))) := by
  have hk := (List.getElem?_eq_some_iff.1 h).1
  rw [List.drop_eq_getElem_cons hk, (List.getElem?_eq_some_iff.1 h).2]
  conv => lhs; unfold cutR
  rw [sum_take_succ h, hs]
  congr 2 <;> omega
/-- b's ops, each copy replaced by what a's lay there. -/
def thenO (a b : List DOp) : List DOp := b.flatMap fun o => if o.copy = true then cutR a o.frm (o.frm + o.n) else [newO o.b]
def thenR (b1 t1 : Int) (a : List DOp) (b2 t2 : Int) (b : List DOp) : (Int × Int × List DOp) × Int :=
  if chkS b1 t1 a = 0 ∧ chkS b2 t2 b = 0 then (if b2 = t1 then ((b1, t2, thenO a b), 0) else ((0, 0, []), 21)) else ((0, 0, []), 2)
theorem subO_size (o : DOp) (l h : Int) (h1 : 0 ≤ l) (h2 : l < h) (h3 : h ≤ o.size) : (subO o l h).size = h - l := by
  unfold subO
  split
  · simp [DOp.size]
  · rename_i hc
    rw [newO_size]
    unfold DOp.size at h3
    rw [if_neg hc] at h3
    simp
    omega
theorem subO_right {base : Int} {o : DOp} (hr : o.Right base) (l h : Int) (h1 : 0 ≤ l) (h2 : l < h) (h3 : h ≤ o.size) : (subO o l h).Right base := by
  have hs := subO_size o l h h1 h2 h3
  unfold subO at hs ⊢
  split
  · rename_i hc
    unfold DOp.size at h3
    rw [if_pos hc] at h3
    rcases hr with ⟨_, r2, r3, r4, r5⟩ | ⟨r1, _⟩
    · exact Or.inl ⟨rfl, by simp only; omega, by simp only; omega, by simp only; omega, rfl⟩
    · rw [hc] at r1; cases r1
  · rename_i hc
    rw [if_neg hc, newO_size] at hs
    exact newO_right _ _ (fun e => by rw [e] at hs; simp at hs; omega)
/-- What is cut out lays as much as it is long. -/
theorem cutR_rest {base left : Int} {os : List DOp} (hr : ∀ o ∈ os, o.Right base) : ∀ (f t : Int), 0 ≤ f → f ≤ t → t ≤ sumO os → t - f ≤ left → restO base left (cutR os f t) = some (left - (t - f)) := by
  induction os generalizing left with
  | nil =>
    intro f t h0 h1 h2 h3
    rw [sumO_nil] at h2
    simp [cutR, restO]
    omega
  | cons o os ih =>
    intro f t h0 h1 h2 h3
    have hpo := (hr o (by simp)).pos
    have hp : ∀ q ∈ os, 1 ≤ q.size := fun q hq => (hr q (by simp [hq])).pos
    have ih' := @ih
    rw [sumO_cons] at h2
    unfold cutR
    by_cases hc : max 0 f < min o.size t
    · rw [if_pos hc, restO_append, restO_one (subO_right (hr o (by simp)) _ _ (by omega) hc (by omega)) (by rw [subO_size _ _ _ (by omega) hc (by omega)]; omega), Option.bind_some, subO_size _ _ _ (by omega) hc (by omega)]
      by_cases ht : t ≤ o.size
      · rw [cutR_none _ _ _ (by omega) hp]
        simp only [restO]
        congr 1
        omega
      · rw [cutR_low os (f - o.size) 0 (t - o.size) (by omega) (by omega) hp, ih' (fun q hq => hr q (by simp [hq])) 0 (t - o.size) (by omega) (by omega) (by omega) (by omega)]
        congr 1
        omega
    · rw [if_neg hc, List.nil_append]
      by_cases hft : f = t
      · subst hft
        by_cases hlo : f ≤ o.size
        · rw [cutR_none _ _ _ (by omega) hp]; simp [restO]
        · rw [ih' (fun q hq => hr q (by simp [hq])) (f - o.size) (f - o.size) (by omega) (by omega) (by omega) (by omega)]
          congr 1
          omega
      · rw [ih' (fun q hq => hr q (by simp [hq])) (f - o.size) (t - o.size) (by omega) (by omega) (by omega) (by omega)]
        congr 1
        omega
theorem subO_app {base : List UInt8} {o : DOp} (hr : o.Right base.length) (l h : Int) (h1 : 0 ≤ l) (h2 : l < h) (h3 : h ≤ o.size) : appO base (subO o l h) = ((appO base o).drop l.toNat).take (h - l).toNat := by
  unfold subO
  split
  · rename_i hc
    unfold DOp.size at h3
    rw [if_pos hc] at h3
    unfold appO
    rw [if_pos rfl, if_pos hc]
    simp only
    rcases hr with ⟨_, r2, r3, r4, r5⟩ | ⟨r1, _⟩
    · rw [List.drop_take, List.drop_drop, List.take_take, show (o.frm + l).toNat = o.frm.toNat + l.toNat by omega, show min (h - l).toNat (o.n.toNat - l.toNat) = (h - l).toNat by omega]
    · rw [hc] at r1; cases r1
  · rename_i hc
    rw [newO_app]
    unfold appO
    rw [if_neg hc]
/-- What is cut out lays that part. -/
theorem cutR_app {base : List UInt8} {os : List DOp} (hr : ∀ o ∈ os, o.Right base.length) : ∀ (f t : Int), 0 ≤ f → f ≤ t → t ≤ sumO os → (cutR os f t).flatMap (appO base) = ((os.flatMap (appO base)).drop f.toNat).take (t - f).toNat := by
  induction os with
  | nil =>
    intro f t h0 h1 h2
    simp [cutR]
  | cons o os ih =>
    intro f t h0 h1 h2
    have hro := hr o (by simp)
    have hpo := hro.pos
    have hp : ∀ q ∈ os, 1 ≤ q.size := fun q hq => (hr q (by simp [hq])).pos
    have ih' := ih (fun q hq => hr q (by simp [hq]))
    have hl := appO_len base o hro (by omega)
    rw [sumO_cons] at h2
    unfold cutR
    rw [List.flatMap_append, List.flatMap_cons]
    by_cases hc : max 0 f < min o.size t
    · rw [if_pos hc, List.flatMap_singleton, subO_app hro _ _ (by omega) hc (by omega), show max 0 f = f by omega]
      rw [List.drop_append_of_le_length (by omega)]
      by_cases ht : t ≤ o.size
      · rw [cutR_none _ _ _ (by omega) hp, show min o.size t = t by omega, List.take_append_of_le_length (by rw [List.length_drop]; omega)]
        simp
      · rw [cutR_low os (f - o.size) 0 (t - o.size) (by omega) (by omega) hp, ih' 0 (t - o.size) (by omega) (by omega) (by omega), show min o.size t = o.size by omega]
        rw [show (t - f).toNat = (((appO base o).drop f.toNat).length) + (t - o.size - 0).toNat by rw [List.length_drop]; omega, List.take_length_add_append]
        rw [List.take_of_length_le (by rw [List.length_drop]; omega)]
        simp
    · rw [if_neg hc, List.flatMap_nil, List.nil_append]
      by_cases hft : f = t
      · subst hft
        rw [show (f - f).toNat = 0 by omega, List.take_zero]
        by_cases hlo : f ≤ o.size
        · rw [cutR_none _ _ _ (by omega) hp]; rfl
        · rw [ih' (f - o.size) (f - o.size) (by omega) (by omega) (by omega)]; simp
      · rw [ih' (f - o.size) (t - o.size) (by omega) (by omega) (by omega), List.drop_append, show List.drop f.toNat (appO base o) = [] from List.drop_eq_nil_of_le (by omega), List.nil_append]
        congr 2 <;> omega
theorem thenO_cons (a : List DOp) (o : DOp) (b : List DOp) : thenO a (o :: b) = (if o.copy = true then cutR a o.frm (o.frm + o.n) else [newO o.b]) ++ thenO a b := by simp [thenO]
theorem thenO_append (a b c : List DOp) : thenO a (b ++ c) = thenO a b ++ thenO a c := by simp [thenO]
theorem then_rest {b1 t1 : Int} {a : List DOp} (ha : restO b1 t1 a = some 0) {b : List DOp} : ∀ {left r : Int}, restO t1 left b = some r → restO b1 left (thenO a b) = some r := by
  have hsum := restO_sum ha
  have har : ∀ o ∈ a, o.Right b1 := fun o ho => ((restO_all ha).1 o ho).1
  induction b with
  | nil => intro left r h; exact h
  | cons o b ih =>
    intro left r h
    rw [restO_cons] at h
    split at h
    · rename_i hc
      obtain ⟨hr, hs⟩ := hc
      rw [thenO_cons, restO_append]
      split
      · rename_i hcp
        have hsz : o.size = o.n := by unfold DOp.size; rw [if_pos hcp]
        rcases hr with ⟨_, r2, r3, r4, r5⟩ | ⟨r1, _⟩
        · rw [cutR_rest har _ _ r3 (by omega) (by omega) (by omega), Option.bind_some, show left - (o.frm + o.n - o.frm) = left - o.size by omega]
          exact ih h
        · rw [hcp] at r1; cases r1
      · rename_i hcp
        have hsz : o.size = o.b.length := by unfold DOp.size; rw [if_neg hcp]
        rcases hr with ⟨r1, _⟩ | ⟨r1, r2, r3, r4⟩
        · exact absurd r1 hcp
        · rw [restO_one (newO_right _ _ (fun e => by rw [e] at r2; simp at r2)) (by rw [newO_size]; omega), Option.bind_some, newO_size, ← hsz]
          exact ih h
    · cases h
/-- One script behind another one may be. -/
theorem then_right {b1 t1 t2 : Int} {a b : List DOp} (ha : chkS b1 t1 a = 0) (hb : chkS t1 t2 b = 0) : chkS b1 t2 (thenO a b) = 0 := by
  obtain ⟨a1, a2, a3⟩ := chkS_ok ha
  obtain ⟨c1, c2, c3⟩ := chkS_ok hb
  unfold chkS
  rw [if_pos ⟨a1, c2, then_rest a3 c3⟩]
theorem then_app {base : List UInt8} {t1 : Int} {a : List DOp} (ha : restO base.length t1 a = some 0) {b : List DOp} : ∀ {left r : Int}, restO t1 left b = some r → (thenO a b).flatMap (appO base) = b.flatMap (appO (a.flatMap (appO base))) := by
  have hsum := restO_sum ha
  have har : ∀ o ∈ a, o.Right base.length := fun o ho => ((restO_all ha).1 o ho).1
  induction b with
  | nil => intro left r h; rfl
  | cons o b ih =>
    intro left r h
    rw [restO_cons] at h
    split at h
    · rename_i hc
      rw [thenO_cons, List.flatMap_append, List.flatMap_cons, ih h]
      congr 1
      split
      · rename_i hcp
        rcases hc.1 with ⟨_, r2, r3, r4, r5⟩ | ⟨r1, _⟩
        · rw [cutR_app har _ _ r3 (by omega) (by omega)]
          conv => rhs; unfold appO
          rw [if_pos hcp]
          congr 2
          omega
        · rw [hcp] at r1; cases r1
      · rename_i hcp
        rw [List.flatMap_singleton, newO_app]
        unfold appO
        rw [if_neg hcp]
    · cases h
end Go.Proofs.Ythjfkeploofblaa

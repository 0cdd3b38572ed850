/- What is proved: plain facts on texts in parts, and on patterns that stand for lists. Conditions: none; no program is named. -/
import Derived.WalkKit
namespace Go.Proofs.YtppddpbacpeadaaDoor
set_option linter.unusedVariables false

/-- What stands between strokes. -/
def spl : List UInt8 → List (List UInt8)
  | [] => [[]]
  | b :: r => if b = 47 then [] :: spl r else match spl r with | [] => [[b]] | h :: t => (b :: h) :: t
theorem spl_ne (l : List UInt8) : spl l ≠ [] := by
  cases l with
  | nil => simp [spl]
  | cons b r => simp only [spl]; split; · simp
                · split <;> simp
theorem spl_stroke (a r : List UInt8) : spl (a ++ 47 :: r) = spl a ++ spl r := by
  induction a with
  | nil => simp [spl]
  | cons b a ih =>
    simp only [List.cons_append, spl]
    split
    · rw [ih]; rfl
    · rw [ih]
      cases h : spl a with
      | nil => exact absurd h (spl_ne a)
      | cons x t => simp
theorem spl_plain (a : List UInt8) (h : ∀ b ∈ a, b ≠ 47) : spl a = [a] := by
  induction a with
  | nil => rfl
  | cons b a ih =>
    simp only [spl, if_neg (h b (by simp)), ih (fun c hc => h c (by simp [hc]))]
theorem spl_head (a r : List UInt8) (h : ∀ b ∈ a, b ≠ 47) : spl (a ++ 47 :: r) = a :: spl r := by rw [spl_stroke, spl_plain a h]; rfl
theorem spl_snoc (l : List UInt8) (b : UInt8) (hb : b ≠ 47) : ∀ acc now, spl l = acc ++ [now] → spl (l ++ [b]) = acc ++ [now ++ [b]] := by
  induction l with
  | nil =>
    intro acc now h
    simp only [spl] at h
    cases acc with
    | nil => simp at h; subst h; simp [spl, hb]
    | cons x t => simp at h
  | cons c r ih =>
    intro acc now h
    simp only [List.cons_append, spl] at h ⊢
    split at h
    · rename_i hc
      rw [if_pos hc]
      cases acc with
      | nil => simp at h; exact absurd h.2 (spl_ne r)
      | cons x t =>
        simp at h
        rw [ih t now h.2, ← h.1]; rfl
    · rename_i hc
      rw [if_neg hc]
      cases hs : spl r with
      | nil => exact absurd hs (spl_ne r)
      | cons y t =>
        rw [hs] at h
        simp only at h
        cases acc with
        | nil =>
          simp at h
          obtain ⟨h1, h2⟩ := h
          subst h2
          rw [ih [] y (by rw [hs]; rfl)]
          simp [← h1]
        | cons x t' =>
          simp at h
          obtain ⟨h1, h2⟩ := h
          rw [ih (y :: t') now (by rw [hs, h2]; rfl)]
          simp [h1]
theorem spl_snoc47 (l : List UInt8) : spl (l ++ [47]) = spl l ++ [[]] := by rw [spl_stroke]; rfl
theorem spl_count (l : List UInt8) : (spl l).length = l.count 47 + 1 := by
  induction l with
  | nil => rfl
  | cons b r ih =>
    simp only [spl, List.count_cons]
    split
    · rename_i h; subst h; simp [ih]
    · rename_i h
      have : (b == 47) = false := by simpa using h
      rw [this]
      cases hs : spl r with
      | nil => exact absurd hs (spl_ne r)
      | cons x t => rw [hs] at ih; simpa using ih
theorem spl_mem (l : List UInt8) : ∀ p ∈ spl l, ∀ b ∈ p, b ≠ 47 := by
  induction l with
  | nil => intro p hp; simp [spl] at hp; subst hp; simp
  | cons c r ih =>
    intro p hp
    simp only [spl] at hp
    split at hp
    · rcases List.mem_cons.1 hp with rfl | hp
      · simp
      · exact ih p hp
    · rename_i hc
      cases hs : spl r with
      | nil => exact absurd hs (spl_ne r)
      | cons x t =>
        rw [hs] at hp ih
        rcases List.mem_cons.1 hp with rfl | hp
        · intro b hb
          rcases List.mem_cons.1 hb with rfl | hb
          · exact hc
          · exact ih x (by simp) b hb
        · exact ih p (by simp [hp])
theorem spl_len_le (l : List UInt8) : ∀ p ∈ spl l, p.length ≤ l.length := by
  induction l with
  | nil => intro p hp; simp [spl] at hp; subst hp; simp
  | cons c r ih =>
    intro p hp
    simp only [spl] at hp
    split at hp
    · rcases List.mem_cons.1 hp with rfl | hp
      · simp
      · have := ih p hp; simp; omega
    · cases hs : spl r with
      | nil => exact absurd hs (spl_ne r)
      | cons x t =>
        rw [hs] at hp ih
        rcases List.mem_cons.1 hp with rfl | hp
        · have := ih x (by simp); simp; omega
        · have := ih p (by simp [hp]); simp; omega

/-- A text's parts. -/
def prt (l : List UInt8) : List (List UInt8) := if l = [] then [] else spl l
theorem prt_of {l : List UInt8} (h : l ≠ []) : prt l = spl l := if_neg h
theorem prt_len (l : List UInt8) : (prt l).length ≤ l.length + 1 := by
  unfold prt
  split
  · simp
  · rw [spl_count]; have := List.count_le_length (a := (47 : UInt8)) (l := l); omega

/-! Patterns that stand for lists. -/
def starB {β : Type} (f : List β → Bool) : List β → Bool
  | [] => f []
  | x :: s => f (x :: s) || starB f s
/-- A pattern's parts stand for all of a list: a star for any, or none; another one for one. -/
def mat {α β : Type} (st : α → Bool) (on : α → β → Bool) : List α → List β → Bool
  | [], s => s.isEmpty
  | p :: ps, s => if st p then starB (mat st on ps) s else match s with | [] => false | x :: s' => on p x && mat st on ps s'
section
variable {α β : Type} {st : α → Bool} {on : α → β → Bool}
theorem starB_iff (f : List β → Bool) (s : List β) : starB f s = true ↔ ∃ j, j ≤ s.length ∧ f (s.drop j) = true := by
  induction s with
  | nil => simp [starB]
  | cons x s ih =>
    simp only [starB, Bool.or_eq_true, ih]
    constructor
    · rintro (h | ⟨j, hj, h⟩)
      · exact ⟨0, by omega, by simpa using h⟩
      · exact ⟨j + 1, by simp; omega, by simpa using h⟩
    · rintro ⟨j, hj, h⟩
      cases j with
      | zero => exact .inl (by simpa using h)
      | succ j => exact .inr ⟨j, by simp at hj; omega, by simpa using h⟩
theorem mat_nil (s : List β) : mat st on [] s = s.isEmpty := by unfold mat; rfl
theorem mat_star {p : α} (h : st p = true) (ps : List α) (s : List β) : mat st on (p :: ps) s = starB (mat st on ps) s := by cases s <;> simp [mat, h]
theorem mat_star_iff {p : α} (h : st p = true) (ps : List α) (s : List β) : mat st on (p :: ps) s = true ↔ ∃ j, j ≤ s.length ∧ mat st on ps (s.drop j) = true := by rw [mat_star h, starB_iff]
theorem mat_one {p : α} (h : st p = false) (ps : List α) (x : β) (s : List β) : mat st on (p :: ps) (x :: s) = (on p x && mat st on ps s) := by rw [mat]; simp [h]
theorem mat_one_nil {p : α} (h : st p = false) (ps : List α) : mat st on (p :: ps) ([] : List β) = false := by rw [mat]; simp [h]
theorem mat_star_all {p : α} (h : st p = true) (s : List β) : mat st on [p] s = true := by
  rw [mat_star_iff h]
  exact ⟨s.length, Nat.le_refl _, by simp [mat_nil]⟩
/-- The document's way. -/
theorem mat_star_step {p : α} (h : st p = true) (ps : List α) (s : List β) : mat st on (p :: ps) s = (mat st on ps s || (decide (0 < s.length) && mat st on (p :: ps) s.tail)) := by
  rw [mat_star h, mat_star h]
  cases s with
  | nil => simp [starB]
  | cons x s => simp [starB]

theorem mat_append (a b : List α) : ∀ s : List β, mat st on (a ++ b) s = true ↔ ∃ k, k ≤ s.length ∧ mat st on a (s.take k) = true ∧ mat st on b (s.drop k) = true := by
  induction a with
  | nil =>
    intro s
    constructor
    · intro h; exact ⟨0, by omega, by simp [mat_nil], by simpa using h⟩
    · rintro ⟨k, hk, h1, h2⟩
      rw [mat_nil, List.isEmpty_iff] at h1
      have : k = 0 ∨ s = [] := by
        rcases Nat.eq_zero_or_pos k with h | h
        · exact .inl h
        · right
          cases s with
          | nil => rfl
          | cons x s => cases k with
            | zero => omega
            | succ k => simp at h1
      rcases this with rfl | rfl
      · simpa using h2
      · simpa using h2
  | cons q qs ih =>
    intro s
    rw [List.cons_append]
    cases hq : st q with
    | true =>
      rw [mat_star_iff hq]
      constructor
      · rintro ⟨j, hj, h⟩
        obtain ⟨k, hk, h1, h2⟩ := (ih _).1 h
        rw [List.length_drop] at hk
        refine ⟨j + k, by omega, ?_, by rw [List.drop_drop] at h2; exact h2⟩
        rw [mat_star_iff hq]
        refine ⟨j, by rw [List.length_take]; omega, ?_⟩
        rw [List.drop_take, show j + k - j = k by omega]
        exact h1
      · rintro ⟨m, hm, h1, h2⟩
        obtain ⟨j, hj, h3⟩ := (mat_star_iff hq _ _).1 h1
        rw [List.length_take] at hj
        refine ⟨j, by omega, (ih _).2 ⟨m - j, by rw [List.length_drop]; omega, ?_, ?_⟩⟩
        · rw [List.drop_take] at h3; exact h3
        · rw [List.drop_drop, show j + (m - j) = m by omega]; exact h2
    | false =>
      cases s with
      | nil =>
        rw [mat_one_nil hq]
        simp [mat_one_nil hq]
      | cons x s =>
        rw [mat_one hq, Bool.and_eq_true, ih]
        constructor
        · rintro ⟨h0, k, hk, h1, h2⟩
          exact ⟨k + 1, by simp; omega, by rw [List.take_succ_cons, mat_one hq, h0, h1]; rfl, by simpa using h2⟩
        · rintro ⟨k, hk, h1, h2⟩
          cases k with
          | zero => rw [List.take_zero, mat_one_nil hq] at h1; cases h1
          | succ k =>
            rw [List.take_succ_cons, mat_one hq, Bool.and_eq_true] at h1
            exact ⟨h1.1, k, by simp at hk; omega, h1.2, by simpa using h2⟩

/-- What stands for a list has some first parts that stand for the list's beginning. -/
theorem mat_front : ∀ (P : List α) (A B : List β), mat st on P (A ++ B) = true → ∃ j, j ≤ P.length ∧ mat st on (P.take j) A = true
  | [], A, B, h => by
    rw [mat_nil, List.isEmpty_iff, List.append_eq_nil_iff] at h
    exact ⟨0, by simp, by simp [mat_nil, h.1]⟩
  | p :: ps, A, B, h => by
    cases hp : st p with
    | true =>
      obtain ⟨d, hd, h1⟩ := (mat_star_iff hp _ _).1 h
      rcases Nat.lt_or_ge A.length d with hlt | hle
      · exact ⟨1, by simp, by simpa using mat_star_all hp A⟩
      · rw [List.drop_append_of_le_length hle] at h1
        obtain ⟨j, hj, h2⟩ := mat_front ps _ _ h1
        exact ⟨j + 1, by simp; omega, by rw [List.take_succ_cons, mat_star_iff hp]; exact ⟨d, hle, h2⟩⟩
    | false =>
      cases A with
      | nil => exact ⟨0, by simp, by simp [mat_nil]⟩
      | cons x A =>
        rw [List.cons_append, mat_one hp, Bool.and_eq_true] at h
        obtain ⟨j, hj, h2⟩ := mat_front ps _ _ h.2
        exact ⟨j + 1, by simp; omega, by rw [List.take_succ_cons, mat_one hp, h.1, h2]; rfl⟩

/-- One part more of a pattern, for first parts of a list. -/
theorem mat_snoc_star {p : α} (h : st p = true) (ps : List α) (s : List β) : mat st on (ps ++ [p]) s = true ↔ ∃ k, k ≤ s.length ∧ mat st on ps (s.take k) = true := by
  rw [mat_append]
  constructor
  · rintro ⟨k, hk, h1, _⟩; exact ⟨k, hk, h1⟩
  · rintro ⟨k, hk, h1⟩; exact ⟨k, hk, h1, mat_star_all h _⟩
theorem mat_snoc_one {p : α} (h : st p = false) (ps : List α) (s : List β) (x : β) : mat st on (ps ++ [p]) (s ++ [x]) = (mat st on ps s && on p x) := by
  rw [Bool.eq_iff_iff, mat_append, Bool.and_eq_true]
  constructor
  · rintro ⟨k, hk, h1, h2⟩
    rw [List.length_append, List.length_singleton] at hk
    rcases Nat.lt_or_ge k s.length with hlt | hge
    · exfalso
      rw [List.drop_append_of_le_length (by omega)] at h2
      cases hd : s.drop k with
      | nil => have := congrArg List.length hd; rw [List.length_drop] at this; simp at this; omega
      | cons y t =>
        rw [hd, List.cons_append, mat_one h, Bool.and_eq_true, mat_nil] at h2
        simp at h2
    · rcases (by omega : k = s.length ∨ k = s.length + 1) with rfl | rfl
      · rw [List.take_left] at h1
        rw [List.drop_left, mat_one h, Bool.and_eq_true] at h2
        exact ⟨h1, h2.1⟩
      · rw [List.drop_of_length_le (by simp), mat_one_nil h] at h2
        cases h2
  · rintro ⟨h1, h2⟩
    exact ⟨s.length, by simp, by rw [List.take_left]; exact h1, by rw [List.drop_left, mat_one h, h2, mat_nil]; rfl⟩
theorem mat_snoc_one_nil {p : α} (h : st p = false) (ps : List α) : mat st on (ps ++ [p]) ([] : List β) = false := by
  rw [← Bool.not_eq_true, mat_append]
  rintro ⟨k, hk, h1, h2⟩
  rw [List.drop_nil, mat_one_nil h] at h2
  cases h2
/-- At least one for each part that is no star. -/
theorem mat_length (X : List α) (hX : ∀ p ∈ X, st p = false) : ∀ (Z : List α) (s : List β), mat st on (X ++ Z) s = true → X.length ≤ s.length := by
  induction X with
  | nil => intro Z s _; simp
  | cons p X ih =>
    intro Z s h
    have hp := hX p (by simp)
    cases s with
    | nil => rw [List.cons_append, mat_one_nil hp] at h; cases h
    | cons x s =>
      rw [List.cons_append, mat_one hp, Bool.and_eq_true] at h
      have := ih (fun q hq => hX q (by simp [hq])) Z s h.2
      simp; omega
end
end Go.Proofs.YtppddpbacpeadaaDoor

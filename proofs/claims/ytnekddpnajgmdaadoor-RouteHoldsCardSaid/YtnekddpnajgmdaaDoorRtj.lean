/- What is proved: plain facts on a word that is read with one way back, to its last star. Conditions: none; no program is named. -/
import Derived.Test.YtnekddpnajgmdaaDoorRtb
namespace Go.Proofs.YtnekddpnajgmdaaDoor
set_option linter.unusedVariables false

theorem word_star (Y s : List UInt8) : wordB (42 :: Y) s = true ↔ ∃ j, j ≤ s.length ∧ wordB Y (s.drop j) = true := mat_star_iff (st := fun c : UInt8 => c == 42) (by decide) Y s
theorem word_one {c : UInt8} (h : c ≠ 42) (Y : List UInt8) (x : UInt8) (s : List UInt8) : wordB (c :: Y) (x :: s) = ((c == 63 || c == x) && wordB Y s) := mat_one (st := fun c : UInt8 => c == 42) (by simpa using h) Y x s
theorem word_one_nil {c : UInt8} (h : c ≠ 42) (Y : List UInt8) : wordB (c :: Y) [] = false := mat_one_nil (st := fun c : UInt8 => c == 42) (by simpa using h) Y
theorem word_nil (s : List UInt8) : wordB [] s = s.isEmpty := mat_nil s
theorem word_plain : ∀ (X : List UInt8), (∀ c ∈ X, c ≠ 42) → ∀ (Z s : List UInt8), wordB (X ++ Z) s = true → X.length ≤ s.length ∧ wordB Z (s.drop X.length) = true
  | [], _, Z, s, h => ⟨by simp, by simpa using h⟩
  | c :: X, hX, Z, s, h => by
    have hc := hX c (by simp)
    cases s with
    | nil => rw [List.cons_append, word_one_nil hc] at h; cases h
    | cons x s =>
      rw [List.cons_append, word_one hc, Bool.and_eq_true] at h
      obtain ⟨h1, h2⟩ := word_plain X (fun d hd => hX d (by simp [hd])) Z s h.2
      exact ⟨by simpa using h1, by simpa using h2⟩

theorem drop_at (l : List UInt8) (k : Nat) (h : k < l.length) : l.drop k = l.getD k 0 :: l.drop (k + 1) := by
  rw [List.drop_eq_getElem_cons h, List.getD_eq_getElem?_getD, List.getElem?_eq_getElem h]
  rfl
theorem drop_seg (l : List UInt8) (b w : Nat) (hbw : b ≤ w) (hw : w ≤ l.length) : ∃ X, l.drop b = X ++ l.drop w ∧ X.length = w - b ∧ ∀ c ∈ X, ∃ j, b ≤ j ∧ j < w ∧ l.getD j 0 = c := by
  refine ⟨(l.drop b).take (w - b), ?_, by rw [List.length_take, List.length_drop]; omega, ?_⟩
  · conv => lhs; rw [← List.take_append_drop (w - b) (l.drop b)]
    rw [List.drop_drop, show b + (w - b) = w by omega]
  · intro c hc
    obtain ⟨j, hj, rfl⟩ := List.getElem_of_mem hc
    rw [List.length_take, List.length_drop] at hj
    refine ⟨b + j, by omega, by omega, ?_⟩
    rw [List.getD_eq_getElem?_getD, List.getElem?_eq_getElem (by omega), Option.getD_some, List.getElem_take, List.getElem_drop]

/-- What stands at the label: how far both were read; behind which star, and from where on. -/
structure MI (W S : List UInt8) (w a b r : Nat) : Prop where
  hw : w ≤ W.length
  ha : a ≤ S.length
  bw : b ≤ w
  ra : r ≤ S.length
  zero : b = 0 → wordB W S = wordB (W.drop w) (S.drop a)
  pos : 0 < b → (r ≤ a ∧ a + b = w + r) ∧ (∀ j, b ≤ j → j < w → W.getD j 0 ≠ 42) ∧ wordB (W.drop b) (S.drop r) = wordB (W.drop w) (S.drop a) ∧
    (wordB W S = true ↔ ∃ q, r ≤ q ∧ q ≤ S.length ∧ wordB (W.drop b) (S.drop q) = true)
theorem MI.start (W S : List UInt8) : MI W S 0 0 0 0 := ⟨Nat.zero_le _, Nat.zero_le _, Nat.le_refl _, Nat.zero_le _, fun _ => rfl, fun h => absurd h (Nat.lt_irrefl 0)⟩
section
variable {W S : List UInt8} {w a b r : Nat}
theorem MI.step (h : MI W S w a b r) (hw : w < W.length) (ha : a < S.length) (h1 : W.getD w 0 ≠ 42) (h2 : W.getD w 0 = 63 ∨ W.getD w 0 = S.getD a 0) : MI W S (w + 1) (a + 1) b r := by
  have e : wordB (W.drop w) (S.drop a) = wordB (W.drop (w + 1)) (S.drop (a + 1)) := by
    rw [drop_at W w hw, drop_at S a ha, word_one h1]
    have : (W.getD w 0 == 63 || W.getD w 0 == S.getD a 0) = true := by simpa using h2
    rw [this, Bool.true_and]
  have hbw := h.bw
  refine ⟨hw, ha, by omega, h.ra, fun hb => (h.zero hb).trans e, fun hb => ?_⟩
  obtain ⟨⟨p1, p2⟩, p3, p4, p5⟩ := h.pos hb
  refine ⟨⟨by omega, by omega⟩, fun j hj1 hj2 => ?_, p4.trans e, p5⟩
  rcases (by omega : j < w ∨ j = w) with hj | rfl
  · exact p3 j hj1 hj
  · exact h1
theorem MI.star (h : MI W S w a b r) (hw : w < W.length) (h1 : W.getD w 0 = 42) : MI W S (w + 1) a (w + 1) a := by
  refine ⟨hw, h.ha, Nat.le_refl _, h.ha, fun hb => by omega, fun _ => ⟨⟨Nat.le_refl _, by omega⟩, fun j hj1 hj2 => by omega, rfl, ?_⟩⟩
  have cur : wordB (W.drop w) (S.drop a) = true ↔ ∃ q, a ≤ q ∧ q ≤ S.length ∧ wordB (W.drop (w + 1)) (S.drop q) = true := by
    rw [drop_at W w hw, h1, word_star]
    have ha := h.ha
    constructor
    · rintro ⟨j, hj, hm⟩
      rw [List.length_drop] at hj
      rw [List.drop_drop] at hm
      exact ⟨a + j, by omega, by omega, hm⟩
    · rintro ⟨q, hq1, hq2, hm⟩
      exact ⟨q - a, by rw [List.length_drop]; omega, by rw [List.drop_drop, show a + (q - a) = q by omega]; exact hm⟩
  rcases Nat.eq_zero_or_pos b with hb | hb
  · rw [h.zero hb]; exact cur
  · obtain ⟨⟨p1, p2⟩, p3, p4, p5⟩ := h.pos hb
    rw [p5]
    constructor
    · rintro ⟨q, hq1, hq2, hm⟩
      have hbw := h.bw
      obtain ⟨X, hX, hXl, hXs⟩ := drop_seg W b w hbw (by omega)
      rw [hX] at hm
      obtain ⟨h3, h4⟩ := word_plain X (fun c hc => by obtain ⟨j, hj1, hj2, rfl⟩ := hXs c hc; exact p3 j hj1 hj2) _ _ hm
      rw [hXl, List.length_drop] at h3
      rw [hXl, List.drop_drop, drop_at W w hw, h1, word_star] at h4
      obtain ⟨j, hj, h5⟩ := h4
      rw [List.length_drop] at hj
      rw [List.drop_drop] at h5
      exact ⟨q + (w - b) + j, by omega, by omega, h5⟩
    · intro hq
      exact ⟨r, Nat.le_refl _, h.ra, by rw [p4]; exact cur.2 hq⟩
theorem MI.retry (h : MI W S w a b r) (hb : 0 < b) (ha : a < S.length) (hf : wordB (W.drop w) (S.drop a) = false) : MI W S b (r + 1) b (r + 1) := by
  obtain ⟨⟨p1, p2⟩, p3, p4, p5⟩ := h.pos hb
  have hbw := h.bw
  have hw := h.hw
  refine ⟨by omega, by omega, Nat.le_refl _, by omega, fun h0 => by omega, fun _ => ⟨⟨Nat.le_refl _, by omega⟩, fun j hj1 hj2 => by omega, rfl, ?_⟩⟩
  rw [p5]
  constructor
  · rintro ⟨q, hq1, hq2, hm⟩
    rcases (by omega : q = r ∨ r + 1 ≤ q) with rfl | hq
    · rw [p4, hf] at hm; cases hm
    · exact ⟨q, hq, hq2, hm⟩
  · rintro ⟨q, hq1, hq2, hm⟩; exact ⟨q, by omega, hq2, hm⟩
theorem MI.yes (h : MI W S w a b r) (hw : w = W.length) (ha : a = S.length) : wordB W S = true := by
  have cur : wordB (W.drop w) (S.drop a) = true := by rw [hw, ha, List.drop_length, List.drop_length]; rfl
  rcases Nat.eq_zero_or_pos b with hb | hb
  · rw [h.zero hb]; exact cur
  · obtain ⟨⟨p1, p2⟩, p3, p4, p5⟩ := h.pos hb
    exact p5.2 ⟨r, Nat.le_refl _, h.ra, by rw [p4]; exact cur⟩
theorem MI.no (h : MI W S w a b r) (hb : b = 0) (hf : wordB (W.drop w) (S.drop a) = false) : wordB W S = false := by rw [h.zero hb, hf]
theorem MI.no_end (h : MI W S w a b r) (hw : w < W.length) (h1 : W.getD w 0 ≠ 42) (ha : a = S.length) : wordB W S = false := by
  rcases Nat.eq_zero_or_pos b with hb | hb
  · refine h.no hb ?_
    rw [ha, List.drop_length, drop_at W w hw, word_one_nil h1]
  · obtain ⟨⟨p1, p2⟩, p3, p4, p5⟩ := h.pos hb
    rw [← Bool.not_eq_true, p5]
    rintro ⟨q, hq1, hq2, hm⟩
    have hbw := h.bw
    obtain ⟨X, hX, hXl, hXs⟩ := drop_seg W b (w + 1) (by omega) (by omega)
    rw [hX] at hm
    obtain ⟨h3, _⟩ := word_plain X (fun c hc => by
      obtain ⟨j, hj1, hj2, rfl⟩ := hXs c hc
      rcases (by omega : j < w ∨ j = w) with hj | rfl
      · exact p3 j hj1 hj
      · exact h1) _ _ hm
    rw [hXl, List.length_drop] at h3
    omega
/-- At the end of the word, and not of the part. -/
theorem cur_short (hw : w = W.length) (ha : a < S.length) : wordB (W.drop w) (S.drop a) = false := by
  rw [hw, List.drop_length, drop_at S a ha, word_nil]; rfl
theorem cur_other (hw : w < W.length) (ha : a < S.length) (h1 : W.getD w 0 ≠ 42) (h2 : W.getD w 0 ≠ 63) (h3 : W.getD w 0 ≠ S.getD a 0) : wordB (W.drop w) (S.drop a) = false := by
  rw [drop_at W w hw, drop_at S a ha, word_one h1]
  have : (W.getD w 0 == 63 || W.getD w 0 == S.getD a 0) = false := by simp only [Bool.or_eq_false_iff, beq_eq_false_iff_ne]; exact ⟨h2, h3⟩
  rw [this, Bool.false_and]
/-- What each way back lowers. -/
def miM (W S : List UInt8) (b r : Nat) : Nat := (W.length - b) * (S.length + 1) + (S.length - r)
theorem miM_star (h : MI W S w a b r) (hw : w < W.length) : miM W S (w + 1) a < miM W S b r := by
  have hbw := h.bw
  have ha := h.ha
  have hr := h.ra
  unfold miM
  obtain ⟨x, hx⟩ : ∃ x, W.length - b = x + 1 := ⟨W.length - b - 1, by omega⟩
  have h2 : (W.length - (w + 1)) * (S.length + 1) ≤ x * (S.length + 1) := Nat.mul_le_mul_right _ (by omega)
  rw [hx, Nat.succ_mul]
  omega
theorem miM_retry (h : MI W S w a b r) (hb : 0 < b) (ha : a < S.length) : miM W S b (r + 1) < miM W S b r := by
  obtain ⟨⟨p1, p2⟩, _⟩ := h.pos hb
  unfold miM
  omega
end
end Go.Proofs.YtnekddpnajgmdaaDoor

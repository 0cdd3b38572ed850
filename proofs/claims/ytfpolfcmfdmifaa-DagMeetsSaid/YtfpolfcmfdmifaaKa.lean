/- What is proved: plain facts on a graph of numbers: marks that are handed down to parents, ancestors, heads, queues, generations, children. Conditions: none; no program is named. -/
import Derived.Test.YtfpolfcmfdmifaaMem
namespace Go.Proofs.Ytfpolfcmfdmifaa
set_option linter.unusedVariables false

def hu (x : Nat) : Nat := if x &&& 3 = 3 then x ||| 4 else x
def addM (M : Nat → Nat) (m : Nat) (l : List Nat) : Nat → Nat := fun k => if k ∈ l then M k ||| m else M k
def passM (pr : Nat → List Nat) : Nat → (Nat → Nat) → (Nat → Nat)
  | 0, M => M
  | n + 1, M => passM pr n (addM M (hu (M n)) (pr n))
inductive Anc (pr : Nat → List Nat) : Nat → Nat → Prop
  | refl (n : Nat) : Anc pr n n
  | step {n p m : Nat} (hp : p ∈ pr m) (h : Anc pr n p) : Anc pr n m
theorem Anc.trans {pr : Nat → List Nat} {a b c : Nat} (h : Anc pr a b) (k : Anc pr b c) : Anc pr a c := by
  induction k with
  | refl => exact h
  | step hp _ ih => exact .step hp ih
/-- Parents stand below. -/
def Dn (pr : Nat → List Nat) (N : Nat) : Prop := ∀ n, n < N → ∀ p ∈ pr n, p < n
theorem Anc.le {pr : Nat → List Nat} {N a b : Nat} (hD : Dn pr N) (h : Anc pr a b) (hb : b < N) : a ≤ b := by
  induction h with
  | refl => exact Nat.le_refl _
  | step hp _ ih =>
    have := hD _ hb _ hp
    have := ih (by omega)
    omega
theorem hu_bit0 (x : Nat) : (hu x).testBit 0 = x.testBit 0 := by
  unfold hu
  split
  · rw [Nat.testBit_or]
    rw [show (4 : Nat).testBit 0 = false by decide]; simp
  · rfl
theorem hu_bit1 (x : Nat) : (hu x).testBit 1 = x.testBit 1 := by
  unfold hu
  split
  · rw [Nat.testBit_or]
    rw [show (4 : Nat).testBit 1 = false by decide]; simp
  · rfl
theorem and3 (x : Nat) : (x &&& 3 = 3) ↔ (x.testBit 0 = true ∧ x.testBit 1 = true) := by
  have h : x &&& 3 = x % 4 := by
    exact Nat.and_two_pow_sub_one_eq_mod x 2
  rw [h, Nat.testBit_zero, Nat.testBit_succ, Nat.testBit_zero]
  simp only [decide_eq_true_eq]
  omega
theorem and1 (x : Nat) : (x &&& 1 = 1) ↔ x.testBit 0 = true := by
  have h : x &&& 1 = x % 2 := by
    exact Nat.and_two_pow_sub_one_eq_mod x 1
  rw [h, Nat.testBit_zero]; simp
theorem and2 (x : Nat) : (x &&& 2 = 0) ↔ x.testBit 1 = false := by
  constructor
  · intro h
    have := congrArg (fun n => Nat.testBit n 1) h
    simpa [Nat.testBit_and, show (2 : Nat).testBit 1 = true by decide] using this
  · intro h
    apply Nat.eq_of_testBit_eq
    intro i
    rw [Nat.testBit_and, Nat.zero_testBit]
    rcases i with _ | _ | i
    · rw [show (2 : Nat).testBit 0 = false by decide]; simp
    · rw [h]; rfl
    · rw [show (2 : Nat).testBit (i + 1 + 1) = false by rw [Nat.testBit_succ, Nat.testBit_succ]; simp]; simp
theorem and4 (x : Nat) : (x &&& 4 = 0) ↔ x.testBit 2 = false := by
  constructor
  · intro h
    have := congrArg (fun n => Nat.testBit n 2) h
    simpa [Nat.testBit_and, show (4 : Nat).testBit 2 = true by decide] using this
  · intro h
    apply Nat.eq_of_testBit_eq
    intro i
    rw [Nat.testBit_and, Nat.zero_testBit]
    rcases i with _ | _ | _ | i
    · rw [show (4 : Nat).testBit 0 = false by decide]; simp
    · rw [show (4 : Nat).testBit 1 = false by decide]; simp
    · rw [h]; rfl
    · rw [show (4 : Nat).testBit (i + 1 + 1 + 1) = false by rw [Nat.testBit_succ, Nat.testBit_succ, Nat.testBit_succ]; simp]; simp
theorem hu_bit2 (x : Nat) : (hu x).testBit 2 = (x.testBit 2 || (x.testBit 0 && x.testBit 1)) := by
  unfold hu
  split
  · rename_i h
    obtain ⟨h0, h1⟩ := (and3 x).1 h
    rw [Nat.testBit_or, show (4 : Nat).testBit 2 = true by decide, h0, h1]
    simp
  · rename_i h
    have : (x.testBit 0 && x.testBit 1) = false := by
      rw [Bool.eq_false_iff]; intro e
      rw [Bool.and_eq_true] at e
      exact h ((and3 x).2 e)
    rw [this, Bool.or_false]
theorem hu_zero : hu 0 = 0 := by decide
theorem addM_zero (M : Nat → Nat) (l : List Nat) : addM M 0 l = M := by
  funext k; unfold addM; split <;> simp
theorem addM_nil (M : Nat → Nat) (m : Nat) : addM M m [] = M := by
  funext k; simp [addM]
theorem addM_snoc (M : Nat → Nat) (m : Nat) (l : List Nat) (x : Nat) : addM M m (l ++ [x]) = addM (addM M m l) m [x] := by
  funext k
  unfold addM
  by_cases h2 : k = x
  · subst h2
    by_cases h1 : k ∈ l
    · simp [h1, Nat.or_assoc]
    · simp [h1]
  · by_cases h1 : k ∈ l
    · simp [h1, h2]
    · simp [h1, h2]
theorem bit_addM (M : Nat → Nat) (m : Nat) (l : List Nat) (k i : Nat) : (addM M m l k).testBit i = ((M k).testBit i || (decide (k ∈ l) && m.testBit i)) := by
  unfold addM
  split
  · rename_i h; simp [h]
  · rename_i h; simp [h]
theorem pass_ge {pr : Nat → List Nat} {N : Nat} (hD : Dn pr N) : ∀ (c : Nat) (M : Nat → Nat) (k : Nat), c ≤ N → c ≤ k + 1 → passM pr c M k = M k
  | 0, M, k, _, _ => rfl
  | c + 1, M, k, h, hk => by
    rw [passM, pass_ge hD c _ k (by omega) (by omega), addM, if_neg]
    intro hm
    have := hD c (by omega) k hm
    omega
/-- What a mark is in the end. -/
theorem pass_bit {pr : Nat → List Nat} {N : Nat} (hD : Dn pr N) (i : Nat) : ∀ (c : Nat) (M : Nat → Nat) (k : Nat), c ≤ N →
    ((passM pr c M k).testBit i = true ↔ (M k).testBit i = true ∨ ∃ n, n < c ∧ k ∈ pr n ∧ (hu (passM pr c M n)).testBit i = true)
  | 0, M, k, _ => by simp [passM]
  | c + 1, M, k, h => by
    have ih := pass_bit hD i c (addM M (hu (M c)) (pr c)) k (by omega)
    have hc : passM pr c (addM M (hu (M c)) (pr c)) c = M c := by
      rw [pass_ge hD c _ c (by omega) (by omega), addM, if_neg]
      intro hm
      have := hD c (by omega) c hm
      omega
    rw [passM, ih, bit_addM]
    constructor
    · rintro (h1 | ⟨n, hn, hk, hb⟩)
      · rw [Bool.or_eq_true, Bool.and_eq_true, decide_eq_true_eq] at h1
        rcases h1 with h1 | ⟨h1, h2⟩
        · exact .inl h1
        · exact .inr ⟨c, by omega, h1, by rw [hc]; exact h2⟩
      · exact .inr ⟨n, by omega, hk, hb⟩
    · rintro (h1 | ⟨n, hn, hk, hb⟩)
      · exact .inl (by rw [h1]; rfl)
      · rcases (by omega : n < c ∨ n = c) with h2 | rfl
        · exact .inr ⟨n, h2, hk, hb⟩
        · rw [hc] at hb
          exact .inl (by rw [hb]; simp [hk])
theorem pass_anc {pr : Nat → List Nat} {N : Nat} (hD : Dn pr N) (i : Nat) (hi : ∀ x, (hu x).testBit i = x.testBit i) (M : Nat → Nat) :
    ∀ k, k < N → ((passM pr N M k).testBit i = true ↔ ∃ s, s < N ∧ (M s).testBit i = true ∧ Anc pr k s) := by
  have fwd : ∀ d k, k < N → N - k ≤ d → (passM pr N M k).testBit i = true → ∃ s, s < N ∧ (M s).testBit i = true ∧ Anc pr k s := by
    intro d
    induction d with
    | zero => intro k h1 h2; omega
    | succ d ih =>
      intro k hk hd hb
      rcases (pass_bit hD i N M k (Nat.le_refl _)).1 hb with h1 | ⟨n, hn, hkn, h1⟩
      · exact ⟨k, hk, h1, .refl k⟩
      · rw [hi] at h1
        have := hD n hn k hkn
        obtain ⟨s, hs, h2, h3⟩ := ih n hn (by omega) h1
        exact ⟨s, hs, h2, (Anc.step hkn (.refl k)).trans h3⟩
  have bwd : ∀ k s, Anc pr k s → s < N → (passM pr N M s).testBit i = true → (passM pr N M k).testBit i = true := by
    intro k s h
    induction h with
    | refl => exact fun _ h => h
    | @step p m hp _ ih =>
      intro hm hb
      have hpm := hD _ hm _ hp
      exact ih (by omega) ((pass_bit hD i N M _ (Nat.le_refl _)).2 (.inr ⟨_, hm, hp, by rw [hi]; exact hb⟩))
  intro k hk
  constructor
  · exact fwd (N - k) k hk (Nat.le_refl _)
  · rintro ⟨s, hs, h1, h2⟩
    exact bwd k s h2 hs ((pass_bit hD i N M s (Nat.le_refl _)).2 (.inl h1))
theorem pass_behind {pr : Nat → List Nat} {N : Nat} (hD : Dn pr N) (M : Nat → Nat) (h0 : ∀ s, (M s).testBit 2 = false) :
    ∀ k, k < N → ((passM pr N M k).testBit 2 = true ↔ ∃ d, d < N ∧ d ≠ k ∧ Anc pr k d ∧ (passM pr N M d).testBit 0 = true ∧ (passM pr N M d).testBit 1 = true) := by
  have fwd : ∀ d k, k < N → N - k ≤ d → (passM pr N M k).testBit 2 = true → ∃ d, d < N ∧ d ≠ k ∧ Anc pr k d ∧ (passM pr N M d).testBit 0 = true ∧ (passM pr N M d).testBit 1 = true := by
    intro d
    induction d with
    | zero => intro k h1 h2; omega
    | succ d ih =>
      intro k hk hd hb
      rcases (pass_bit hD 2 N M k (Nat.le_refl _)).1 hb with h1 | ⟨n, hn, hkn, h1⟩
      · rw [h0] at h1; cases h1
      · rw [hu_bit2, Bool.or_eq_true, Bool.and_eq_true] at h1
        have hlt := hD n hn k hkn
        rcases h1 with h1 | ⟨h1, h2⟩
        · obtain ⟨s, hs, h2, h3, h4⟩ := ih n hn (by omega) h1
          have := h3.le hD hs
          exact ⟨s, hs, by omega, (Anc.step hkn (.refl k)).trans h3, h4⟩
        · exact ⟨n, hn, by omega, .step hkn (.refl k), h1, h2⟩
  have low : ∀ k s, Anc pr k s → s < N → (passM pr N M s).testBit 2 = true → (passM pr N M k).testBit 2 = true := by
    intro k s h
    induction h with
    | refl => exact fun _ h => h
    | @step p m hp _ ih =>
      intro hm hb
      have hpm := hD _ hm _ hp
      exact ih (by omega) ((pass_bit hD 2 N M _ (Nat.le_refl _)).2 (.inr ⟨_, hm, hp, by rw [hu_bit2, hb]; rfl⟩))
  intro k hk
  constructor
  · exact fwd (N - k) k hk (Nat.le_refl _)
  · rintro ⟨s, hs, hne, h1, h2, h3⟩
    cases h1 with
    | refl => exact absurd rfl hne
    | step hp h =>
      have hpm := hD _ hs _ hp
      exact low _ _ h (by omega) ((pass_bit hD 2 N M _ (Nat.le_refl _)).2 (.inr ⟨_, hs, hp, by rw [hu_bit2, h2, h3]; simp⟩))

/-! The document's passes of truths. -/
def passB (pr : Nat → List Nat) : Nat → (Nat → Bool) → (Nat → Bool)
  | 0, B => B
  | n + 1, B => passB pr n (fun k => B k || (B n && decide (k ∈ pr n)))
theorem passB_bit (pr : Nat → List Nat) (i : Nat) (hi : ∀ x, (hu x).testBit i = x.testBit i) : ∀ (c : Nat) (M : Nat → Nat) (k : Nat), (passM pr c M k).testBit i = passB pr c (fun k => (M k).testBit i) k
  | 0, M, k => rfl
  | c + 1, M, k => by
    rw [passM, passB, passB_bit pr i hi c]
    congr 1
    funext j
    rw [bit_addM, hi, Bool.and_comm]
/-- Which are ancestors of any of some. -/
def upB (pr : Nat → List Nat) (N : Nat) (l : List Nat) : Nat → Bool := passB pr N (fun k => decide (k ∈ l))
theorem upB_iff {pr : Nat → List Nat} {N : Nat} (hD : Dn pr N) (l : List Nat) (hl : ∀ x ∈ l, x < N) (k : Nat) (hk : k < N) : upB pr N l k = true ↔ ∃ s, s ∈ l ∧ Anc pr k s := by
  have h := pass_anc hD 0 hu_bit0 (fun k => if k ∈ l then 1 else 0) k hk
  rw [passB_bit pr 0 hu_bit0] at h
  have e : (fun k => (if k ∈ l then 1 else 0 : Nat).testBit 0) = fun k => decide (k ∈ l) := by
    funext j
    by_cases hj : j ∈ l <;> simp [hj]
  rw [e] at h
  unfold upB
  rw [h]
  constructor
  · rintro ⟨s, hs, h1, h2⟩
    by_cases hj : s ∈ l
    · exact ⟨s, hj, h2⟩
    · simp [hj] at h1
  · rintro ⟨s, h1, h2⟩
    exact ⟨s, hl s h1, by simp [h1], h2⟩
/-- The numbers that a question holds of, rising. -/
def selB (f : Nat → Bool) (N : Nat) : List Nat := (List.range N).filter f
theorem selB_congr {f g : Nat → Bool} {N : Nat} (h : ∀ k, k < N → f k = g k) : selB f N = selB g N := by
  unfold selB
  exact List.filter_congr (fun x hx => h x (List.mem_range.1 hx))
theorem selB_succ (f : Nat → Bool) (n : Nat) : selB f (n + 1) = selB f n ++ (if f n = true then [n] else []) := by
  unfold selB
  rw [List.range_succ, List.filter_append]
  congr 1
  by_cases h : f n = true
  · simp [h]
  · simp [h]
theorem mem_selB (f : Nat → Bool) (N k : Nat) : k ∈ selB f N ↔ k < N ∧ f k = true := by simp [selB]
theorem selB_len (f : Nat → Bool) (N : Nat) : (selB f N).length ≤ N := by
  have := List.length_filter_le f (List.range N)
  rwa [List.length_range] at this
/-- Those of some that are above no other one of them. -/
def topB (pr : Nat → List Nat) (N : Nat) (X : Nat → Bool) (k : Nat) : Bool := X k && !((List.range N).any fun d => decide (k < d) && upB pr N [d] k && X d)
theorem topB_iff {pr : Nat → List Nat} {N : Nat} (hD : Dn pr N) (X : Nat → Bool) (k : Nat) (hk : k < N) : topB pr N X k = true ↔ X k = true ∧ ¬ ∃ d, d < N ∧ d ≠ k ∧ Anc pr k d ∧ X d = true := by
  unfold topB
  rw [Bool.and_eq_true, Bool.not_eq_true', Bool.eq_false_iff, ne_eq, List.any_eq_true]
  refine and_congr_right fun hX => not_congr ?_
  constructor
  · rintro ⟨d, hd, h⟩
    rw [List.mem_range] at hd
    rw [Bool.and_eq_true, Bool.and_eq_true, decide_eq_true_eq] at h
    obtain ⟨s, hs, ha⟩ := (upB_iff hD [d] (by simpa using hd) k hk).1 h.1.2
    rw [List.mem_singleton] at hs
    subst hs
    exact ⟨s, hd, by omega, ha, h.2⟩
  · rintro ⟨d, hd, hne, ha, hx⟩
    have := ha.le hD hd
    refine ⟨d, List.mem_range.2 hd, ?_⟩
    rw [Bool.and_eq_true, Bool.and_eq_true, decide_eq_true_eq]
    exact ⟨⟨by omega, (upB_iff hD [d] (by simpa using hd) k hk).2 ⟨d, by simp, ha⟩⟩, hx⟩
/-- What the program's marks tell. -/
def markF (pr : Nat → List Nat) (N : Nat) (a b : List Nat) : Nat → Nat := passM pr N (addM (addM (fun _ => 0) 1 a) 2 b)
def markH (pr : Nat → List Nat) (N : Nat) (a : List Nat) : Nat → Nat := passM pr N (addM (fun _ => 0) 3 a)
theorem markF_0 (pr : Nat → List Nat) (N : Nat) (a b : List Nat) (k : Nat) : (markF pr N a b k).testBit 0 = upB pr N a k := by
  rw [markF, passB_bit pr 0 hu_bit0, upB]
  congr 1
  funext j
  rw [bit_addM, bit_addM]
  simp [show (2 : Nat).testBit 0 = false by decide]
theorem markF_1 (pr : Nat → List Nat) (N : Nat) (a b : List Nat) (k : Nat) : (markF pr N a b k).testBit 1 = upB pr N b k := by
  rw [markF, passB_bit pr 1 hu_bit1, upB]
  congr 1
  funext j
  rw [bit_addM, bit_addM]
  simp [show (2 : Nat).testBit 1 = true by decide, show (1 : Nat).testBit 1 = false by decide]
theorem markH_0 (pr : Nat → List Nat) (N : Nat) (a : List Nat) (k : Nat) : (markH pr N a k).testBit 0 = upB pr N a k := by
  rw [markH, passB_bit pr 0 hu_bit0, upB]
  congr 1
  funext j
  rw [bit_addM]
  simp [show (3 : Nat).testBit 0 = true by decide]
theorem markH_1 (pr : Nat → List Nat) (N : Nat) (a : List Nat) (k : Nat) : (markH pr N a k).testBit 1 = upB pr N a k := by
  rw [markH, passB_bit pr 1 hu_bit1, upB]
  congr 1
  funext j
  rw [bit_addM]
  simp [show (3 : Nat).testBit 1 = true by decide]
/-- Has a mark all of some, none of others? -/
def hasF (x s n : Nat) : Bool := decide (x &&& s = s) && decide (x &&& n = 0)
def bothB (pr : Nat → List Nat) (N : Nat) (a b : List Nat) (k : Nat) : Bool := upB pr N a k && upB pr N b k
theorem hasF_range (pr : Nat → List Nat) (N : Nat) (a b : List Nat) (k : Nat) : hasF (markF pr N a b k) 1 2 = (upB pr N a k && !upB pr N b k) := by
  unfold hasF
  rw [← markF_0 pr N a b, ← markF_1 pr N a b]
  congr 1
  · rw [Bool.eq_iff_iff, decide_eq_true_eq, and1]
  · rw [Bool.eq_iff_iff, decide_eq_true_eq, and2, Bool.not_eq_true']
theorem hasF_bases {pr : Nat → List Nat} {N : Nat} (hD : Dn pr N) (a b : List Nat) (k : Nat) (hk : k < N) : hasF (markF pr N a b k) 3 4 = topB pr N (bothB pr N a b) k := by
  unfold hasF
  rw [Bool.eq_iff_iff, Bool.and_eq_true, decide_eq_true_eq, decide_eq_true_eq, and3, and4, markF_0, markF_1, topB_iff hD _ k hk, bothB, Bool.and_eq_true]
  refine and_congr_right fun _ => ?_
  have h := pass_behind hD (addM (addM (fun _ => 0) 1 a) 2 b) (fun s => by rw [bit_addM, bit_addM]; simp [show (2 : Nat).testBit 2 = false by decide, show (1 : Nat).testBit 2 = false by decide]) k hk
  rw [← markF] at h
  rw [← Bool.not_eq_true, h]
  refine not_congr (exists_congr fun d => and_congr_right fun _ => and_congr_right fun _ => and_congr_right fun _ => ?_)
  rw [markF_0, markF_1, bothB, Bool.and_eq_true]
theorem hasF_heads {pr : Nat → List Nat} {N : Nat} (hD : Dn pr N) (a : List Nat) (k : Nat) (hk : k < N) : hasF (markH pr N a k) 3 4 = topB pr N (upB pr N a) k := by
  unfold hasF
  rw [Bool.eq_iff_iff, Bool.and_eq_true, decide_eq_true_eq, decide_eq_true_eq, and3, and4, markH_0, markH_1, topB_iff hD _ k hk, and_self]
  refine and_congr_right fun _ => ?_
  have h := pass_behind hD (addM (fun _ => 0) 3 a) (fun s => by rw [bit_addM]; simp [show (3 : Nat).testBit 2 = false by decide]) k hk
  rw [← markH] at h
  rw [← Bool.not_eq_true, h]
  refine not_congr (exists_congr fun d => and_congr_right fun _ => and_congr_right fun _ => and_congr_right fun _ => ?_)
  rw [markH_0, markH_1, and_self]
/-- The document's heads. -/
def hdB (pr : Nat → List Nat) (N : Nat) (X : Nat → Bool) (k : Nat) : Bool := X k && !((selB X N).any fun d => decide (k < d) && upB pr N [d] k)
theorem hd_top (pr : Nat → List Nat) (N : Nat) (X : Nat → Bool) (k : Nat) : hdB pr N X k = topB pr N X k := by
  unfold hdB topB
  congr 2
  rw [Bool.eq_iff_iff, List.any_eq_true, List.any_eq_true]
  constructor
  · rintro ⟨d, hd, h⟩
    rw [mem_selB] at hd
    exact ⟨d, List.mem_range.2 hd.1, by rw [h, hd.2]; rfl⟩
  · rintro ⟨d, hd, h⟩
    rw [Bool.and_eq_true] at h
    exact ⟨d, (mem_selB _ _ _).2 ⟨List.mem_range.1 hd, h.2⟩, h.1⟩
/-- The heads of some are those of all that is above them. -/
theorem top_up {pr : Nat → List Nat} {N : Nat} (hD : Dn pr N) (l : List Nat) (hl : ∀ x ∈ l, x < N) (k : Nat) (hk : k < N) : topB pr N (fun k => decide (k ∈ l)) k = topB pr N (upB pr N l) k := by
  rw [Bool.eq_iff_iff, topB_iff hD _ k hk, topB_iff hD _ k hk, decide_eq_true_eq]
  constructor
  · rintro ⟨h1, h2⟩
    refine ⟨(upB_iff hD l hl k hk).2 ⟨k, h1, .refl k⟩, ?_⟩
    rintro ⟨d, hd, hne, ha, hu⟩
    obtain ⟨s, hs, hb⟩ := (upB_iff hD l hl d hd).1 hu
    have h3 := ha.le hD hd
    have h4 := hb.le hD (hl s hs)
    exact h2 ⟨s, hl s hs, by omega, ha.trans hb, by simpa using hs⟩
  · rintro ⟨h1, h2⟩
    obtain ⟨s, hs, ha⟩ := (upB_iff hD l hl k hk).1 h1
    have hks : s = k := by
      apply Classical.byContradiction
      intro hne
      exact h2 ⟨s, hl s hs, hne, ha, (upB_iff hD l hl s (hl s hs)).2 ⟨s, hs, .refl s⟩⟩
    subst hks
    refine ⟨hs, ?_⟩
    rintro ⟨d, hd, hne, hb, hx⟩
    exact h2 ⟨d, hd, hne, hb, (upB_iff hD l hl d hd).2 ⟨d, by simpa using hx, .refl d⟩⟩

/-! Queues. -/
theorem asc_ext : ∀ {a b : List Nat}, a.Pairwise (· < ·) → b.Pairwise (· < ·) → (∀ x, x ∈ a ↔ x ∈ b) → a = b
  | [], [], _, _, _ => rfl
  | [], y :: b, _, _, h => absurd ((h y).2 (by simp)) (by simp)
  | x :: a, [], _, _, h => absurd ((h x).1 (by simp)) (by simp)
  | x :: a, y :: b, ha, hb, h => by
    rw [List.pairwise_cons] at ha hb
    have hxy : x = y := by
      have h1 := (h x).1 (by simp)
      have h2 := (h y).2 (by simp)
      rw [List.mem_cons] at h1 h2
      rcases h1 with h1 | h1
      · exact h1
      · rcases h2 with h2 | h2
        · exact h2.symm
        · have := hb.1 x h1
          have := ha.1 y h2
          omega
    subst hxy
    congr 1
    refine asc_ext ha.2 hb.2 (fun z => ?_)
    have := h z
    rw [List.mem_cons, List.mem_cons] at this
    constructor
    · intro hz
      rcases this.1 (.inr hz) with h1 | h1
      · have := ha.1 z hz; omega
      · exact h1
    · intro hz
      rcases this.2 (.inr hz) with h1 | h1
      · have := hb.1 z hz; omega
      · exact h1
theorem selB_asc (f : Nat → Bool) (N : Nat) : (selB f N).Pairwise (· < ·) := List.Pairwise.filter _ List.pairwise_lt_range
/-- What the search by halves has found. -/
structure Half (l : List Nat) (x p : Nat) : Prop where
  le : p ≤ l.length
  lo : ∀ t, t < p → l.getD t 0 < x
  hi : ∀ t, p ≤ t → t < l.length → x ≤ l.getD t 0
def hitB (l : List Nat) (x p : Nat) : Bool := decide (p < l.length ∧ l.getD p 0 = x)
theorem hit_mem {l : List Nat} {x p : Nat} (h : hitB l x p = true) : x ∈ l := by
  unfold hitB at h
  rw [decide_eq_true_eq] at h
  rw [← h.2, List.getD_eq_getElem?_getD, List.getElem?_eq_getElem h.1]
  exact List.getElem_mem h.1
theorem hit_no {l : List Nat} {x p : Nat} (ha : l.Pairwise (· < ·)) (H : Half l x p) (h : hitB l x p = false) : (l.take p ++ x :: l.drop p).Pairwise (· < ·) := by
  have hlo : ∀ y ∈ l.take p, y < x := by
    intro y hy
    obtain ⟨i, hi, rfl⟩ := List.getElem_of_mem hy
    rw [List.length_take] at hi
    have h1 := H.lo i (by omega)
    rw [List.getD_eq_getElem?_getD, List.getElem?_eq_getElem (by omega), Option.getD_some] at h1
    rw [List.getElem_take]; exact h1
  have hhi : ∀ y ∈ l.drop p, x < y := by
    intro y hy
    obtain ⟨i, hi, rfl⟩ := List.getElem_of_mem hy
    rw [List.length_drop] at hi
    rw [List.getElem_drop]
    have h1 := H.hi (p + i) (by omega) (by omega)
    rw [List.getD_eq_getElem?_getD, List.getElem?_eq_getElem (by omega), Option.getD_some] at h1
    rcases Nat.lt_or_ge x l[p + i] with h2 | h2
    · exact h2
    · exfalso
      have hp : p < l.length := by omega
      have h3 := H.hi p (Nat.le_refl _) hp
      rw [List.getD_eq_getElem?_getD, List.getElem?_eq_getElem hp, Option.getD_some] at h3
      have h4 : l[p] ≤ l[p + i] := by
        rcases Nat.eq_zero_or_pos i with h0 | h0
        · subst h0; exact Nat.le_refl _
        · exact Nat.le_of_lt (List.pairwise_iff_getElem.1 ha p (p + i) hp (by omega) (by omega))
      have : hitB l x p = true := by
        unfold hitB
        rw [decide_eq_true_eq]
        exact ⟨hp, by rw [List.getD_eq_getElem?_getD, List.getElem?_eq_getElem hp, Option.getD_some]; omega⟩
      rw [h] at this; cases this
  rw [List.pairwise_append, List.pairwise_cons]
  refine ⟨ha.sublist (List.take_sublist _ _), ⟨hhi, ha.sublist (List.drop_sublist _ _)⟩, ?_⟩
  intro a h1 b h2
  rw [List.mem_cons] at h2
  have := hlo a h1
  rcases h2 with rfl | h2
  · exact this
  · have := hhi b h2; omega
/-- What is put into a queue. -/
theorem sel_put (f g : Nat → Bool) (c x p : Nat) (hx : x < c) (hg : ∀ k, g k = (f k || decide (k = x))) (H : Half (selB f c) x p) :
    (hitB (selB f c) x p = true → selB g c = selB f c) ∧ (hitB (selB f c) x p = false → selB g c = (selB f c).take p ++ x :: (selB f c).drop p) := by
  constructor
  · intro h
    have hm := hit_mem h
    rw [mem_selB] at hm
    refine selB_congr (fun k _ => ?_)
    rw [hg]
    by_cases e : k = x
    · subst e; rw [hm.2]; rfl
    · simp [e]
  · intro h
    refine asc_ext (selB_asc _ _) (hit_no (selB_asc _ _) H h) (fun y => ?_)
    have : y ∈ (selB f c).take p ++ x :: (selB f c).drop p ↔ y = x ∨ y ∈ selB f c := by
      rw [List.mem_append, List.mem_cons]
      conv => rhs; rhs; rw [← List.take_append_drop p (selB f c), List.mem_append]
      constructor
      · rintro (h | h | h)
        · exact .inr (.inl h)
        · exact .inl h
        · exact .inr (.inr h)
      · rintro (h | h | h)
        · exact .inr (.inl h)
        · exact .inl h
        · exact .inr (.inr h)
    rw [this, mem_selB, mem_selB, hg, Bool.or_eq_true, decide_eq_true_eq]
    constructor
    · rintro ⟨h1, h2 | h2⟩
      · exact .inr ⟨h1, h2⟩
      · exact .inl h2
    · rintro (rfl | ⟨h1, h2⟩)
      · exact ⟨hx, .inr rfl⟩
      · exact ⟨h1, .inl h2⟩
theorem sel_last (f : Nat → Bool) : ∀ (c : Nat), (selB f c = [] ∧ ∀ k, k < c → f k = false) ∨ ∃ n, n < c ∧ f n = true ∧ (∀ k, n < k → k < c → f k = false) ∧ selB f c = selB f n ++ [n]
  | 0 => .inl ⟨rfl, fun k h => by omega⟩
  | c + 1 => by
    rw [selB_succ]
    by_cases h : f c = true
    · exact .inr ⟨c, by omega, h, fun k h1 h2 => by omega, by simp [h]⟩
    · have h' : f c = false := by simpa using h
      rcases sel_last f c with ⟨h1, h2⟩ | ⟨n, h1, h2, h3, h4⟩
      · exact .inl ⟨by simp [h', h1], fun k hk => by
          rcases (by omega : k < c ∨ k = c) with e | rfl
          · exact h2 k e
          · exact h'⟩
      · exact .inr ⟨n, by omega, h2, fun k hk hk2 => by
          rcases (by omega : k < c ∨ k = c) with e | rfl
          · exact h3 k hk e
          · exact h', by simp [h', h4]⟩
/-- Which have a mark. -/
def onB (M : Nat → Nat) (k : Nat) : Bool := decide (M k ≠ 0)
theorem on_add (M : Nat → Nat) (m x : Nat) (hm : m ≠ 0) (k : Nat) : onB (addM M m [x]) k = (onB M k || decide (k = x)) := by
  unfold onB addM
  by_cases e : k = x
  · subst e
    have : M k ||| m ≠ 0 := fun h => hm (Nat.or_eq_zero_iff.1 h).2
    simp [this]
  · simp [e]
theorem pass_skip (pr : Nat → List Nat) (M : Nat → Nat) (n : Nat) : ∀ (c : Nat), n ≤ c → (∀ k, n ≤ k → k < c → M k = 0) → passM pr c M = passM pr n M
  | 0, h, _ => by rw [show n = 0 by omega]
  | c + 1, h, h2 => by
    rcases (by omega : n = c + 1 ∨ n ≤ c) with rfl | h3
    · rfl
    · rw [passM, h2 c h3 (by omega), hu_zero, addM_zero, pass_skip pr M n c h3 (fun k h4 h5 => h2 k h4 (by omega))]
theorem onB_false {M : Nat → Nat} {k : Nat} : onB M k = false ↔ M k = 0 := by simp [onB]
/-- The marks are bits three. -/
def Mk8 (M : Nat → Nat) : Prop := ∀ k, M k < 8
theorem or8 {x y : Nat} (hx : x < 8) (hy : y < 8) : x ||| y < 8 := Nat.or_lt_two_pow (n := 3) hx hy
theorem Mk8.add {M : Nat → Nat} (h : Mk8 M) {m : Nat} (hm : m < 8) (l : List Nat) : Mk8 (addM M m l) := fun k => by
  unfold addM
  split
  · exact or8 (h k) hm
  · exact h k
theorem hu8 {x : Nat} (h : x < 8) : hu x < 8 := by
  unfold hu
  split
  · exact or8 h (by decide)
  · exact h
theorem hu_ne {x : Nat} (h : x ≠ 0) : hu x ≠ 0 := by
  unfold hu
  split
  · intro e; exact h (Nat.or_eq_zero_iff.1 e).1
  · exact h
/-! Generations, children. -/
def mostG (g : Nat → Nat) (l : List Nat) : Nat := l.foldl (fun m p => max m (g p)) 0
def genF (pr : Nat → List Nat) : Nat → Nat → Nat
  | 0, _ => 0
  | n + 1, k => if k = n then mostG (genF pr n) (pr n) + 1 else genF pr n k
theorem most_snoc (g : Nat → Nat) (l : List Nat) (x : Nat) : mostG g (l ++ [x]) = max (mostG g l) (g x) := by simp [mostG]
theorem most_ge (g : Nat → Nat) (l : List Nat) : ∀ x ∈ l, g x ≤ mostG g l := by
  have key : ∀ (l : List Nat) (m : Nat), m ≤ l.foldl (fun m p => max m (g p)) m ∧ ∀ x ∈ l, g x ≤ l.foldl (fun m p => max m (g p)) m := by
    intro l
    induction l with
    | nil => intro m; simp
    | cons a l ih =>
      intro m
      rw [List.foldl_cons]
      have h1 := ih (max m (g a))
      refine ⟨by omega, ?_⟩
      intro x hx
      rw [List.mem_cons] at hx
      rcases hx with rfl | hx
      · omega
      · exact h1.2 x hx
  exact fun x hx => (key l 0).2 x hx
theorem most_le (g : Nat → Nat) (b : Nat) (l : List Nat) (h : ∀ x ∈ l, g x ≤ b) : mostG g l ≤ b := by
  have key : ∀ (l : List Nat) (m : Nat), m ≤ b → (∀ x ∈ l, g x ≤ b) → l.foldl (fun m p => max m (g p)) m ≤ b := by
    intro l
    induction l with
    | nil => intro m h _; exact h
    | cons a l ih =>
      intro m hm hl
      rw [List.foldl_cons]
      have := hl a (by simp)
      exact ih _ (by omega) (fun x hx => hl x (by simp [hx]))
  exact key l 0 (Nat.zero_le _) h
theorem most_congr {f g : Nat → Nat} {l : List Nat} (h : ∀ x ∈ l, f x = g x) : mostG f l = mostG g l := by
  have key : ∀ (l : List Nat) (m : Nat), (∀ x ∈ l, f x = g x) → l.foldl (fun m p => max m (f p)) m = l.foldl (fun m p => max m (g p)) m := by
    intro l
    induction l with
    | nil => intro m _; rfl
    | cons a l ih =>
      intro m hl
      rw [List.foldl_cons, List.foldl_cons, hl a (by simp)]
      exact ih _ (fun x hx => hl x (by simp [hx]))
  exact key l 0 h
theorem gen_ge (pr : Nat → List Nat) : ∀ (n k : Nat), n ≤ k → genF pr n k = 0
  | 0, _, _ => rfl
  | n + 1, k, h => by rw [genF, if_neg (by omega), gen_ge pr n k (by omega)]
theorem gen_le (pr : Nat → List Nat) : ∀ (n k : Nat), genF pr n k ≤ n
  | 0, _ => Nat.le_refl _
  | n + 1, k => by
    rw [genF]
    split
    · have := most_le (genF pr n) n (pr n) (fun x _ => gen_le pr n x)
      omega
    · have := gen_le pr n k
      omega
theorem gen_stay (pr : Nat → List Nat) (k : Nat) : ∀ (n : Nat), k < n → genF pr n k = genF pr (k + 1) k
  | 0, h => by omega
  | n + 1, h => by
    rcases (by omega : k = n ∨ k < n) with rfl | h2
    · rfl
    · rw [genF, if_neg (by omega), gen_stay pr k n h2]
theorem gen_up {pr : Nat → List Nat} {N : Nat} (hD : Dn pr N) {a b : Nat} (h : Anc pr a b) (hb : b < N) (hne : a ≠ b) : genF pr N a < genF pr N b := by
  have one : ∀ m, m < N → ∀ p ∈ pr m, genF pr N p < genF pr N m := by
    intro m hm p hp
    have hpm := hD m hm p hp
    rw [gen_stay pr m N hm, genF, if_pos rfl]
    have := most_ge (genF pr m) (pr m) p hp
    rw [gen_stay pr p N (by omega), ← gen_stay pr p m hpm]
    omega
  have key : ∀ a b, Anc pr a b → b < N → genF pr N a ≤ genF pr N b := by
    intro a b h
    induction h with
    | refl => exact fun _ => Nat.le_refl _
    | @step p m hp _ ih =>
      intro hm
      have := hD _ hm _ hp
      have := ih (by omega)
      have := one _ hm _ hp
      omega
  cases h with
  | refl => exact absurd rfl hne
  | step hp h =>
    have := hD _ hb _ hp
    have := key _ _ h (by omega)
    have := one _ hb _ hp
    omega
/-- A node's children, one for each time that it stands as a parent. -/
def kidsF (pr : Nat → List Nat) : Nat → Nat → List Nat
  | 0, _ => []
  | n + 1, k => kidsF pr n k ++ ((pr n).filter (fun p => decide (p = k))).map (fun _ => n)
end Go.Proofs.Ytfpolfcmfdmifaa

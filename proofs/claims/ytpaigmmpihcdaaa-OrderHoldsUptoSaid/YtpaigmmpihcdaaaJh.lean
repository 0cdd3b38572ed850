/- What is proved: queues by age, plainly: who comes next, what is told from a queue or from a pile. Conditions: none. -/
import Derived.Test.YtpaigmmpihcdaaaJg
namespace Go.Proofs.Ytpaigmmpihcdaaa
open Go.RowKit Go.Shelf
set_option linter.unusedVariables false

/-- The older one of two. -/
def old (t : Nat → Int) (a b : Nat) : Prop := t a < t b ∨ (t a = t b ∧ a < b)
theorem old_trans {t : Nat → Int} {a b c : Nat} (h : old t a b) (k : old t b c) : old t a c := by unfold old at *; omega
theorem old_irr {t : Nat → Int} {a : Nat} (h : old t a a) : False := by unfold old at h; omega
theorem old_or {t : Nat → Int} {a b : Nat} (h : a ≠ b) (k : ¬ old t a b) : old t b a := by unfold old at *; omega
theorem yng_max (f : Nat → Bool) (t : Nat → Int) : ∀ (n m : Nat), yng f t n = some m → ∀ k, k < n → f k = true → k ≠ m → old t k m
  | 0, m, h => by cases h
  | n + 1, m, h => by
    intro k hk hf hne
    by_cases e : f n = true
    · cases hy : yng f t n with
      | none =>
        rw [yng_first e hy] at h
        injection h with h
        have := yng_none f t n hy k (by omega)
        rw [hf] at this; cases this
      | some j =>
        have ih := yng_max f t n j hy
        by_cases e2 : t j ≤ t n
        · rw [yng_more e hy e2] at h
          injection h with h
          subst h
          have hj := (yng_mem f t n j hy).1
          by_cases e3 : k = j
          · subst e3; unfold old; omega
          · have := ih k (by omega) hf e3
            exact old_trans this (by unfold old; omega)
        · rw [yng_less e hy e2] at h
          injection h with h
          subst h
          by_cases e3 : k = n
          · subst e3; unfold old; omega
          · exact ih k (by omega) hf hne
    · have e' : f n = false := by simpa using e
      rw [yng_no e'] at h
      exact yng_max f t n m h k (by have : k ≠ n := (fun q => by rw [q, e'] at hf; cases hf); omega) hf hne
theorem yng_top {f : Nat → Bool} {t : Nat → Int} {N n : Nat} (hn : n < N) (hf : f n = true) (h : ∀ k, k < N → f k = true → k ≠ n → old t k n) : yng f t N = some n := by
  cases hy : yng f t N with
  | none => have := yng_none f t N hy n hn; rw [hf] at this; cases this
  | some m =>
    by_cases e : m = n
    · rw [e]
    · obtain ⟨h1, h2⟩ := yng_mem f t N m hy
      exact (old_irr (old_trans (h m h1 h2 e) (yng_max f t N m hy n hn hf (fun q => e q.symm)))).elim
/-- A queue: by age, the youngest last; just those that are asked for. -/
structure Qu (t : Nat → Int) (N : Nat) (f : Nat → Bool) (l : List Nat) : Prop where
  asc : l.Pairwise (old t)
  mem : ∀ k, k ∈ l ↔ k < N ∧ f k = true
theorem asc_nodup {t : Nat → Int} {l : List Nat} (h : l.Pairwise (old t)) : l.Nodup := by
  rw [List.nodup_iff_pairwise_ne]
  exact h.imp (fun {a b} k e => by rw [e] at k; exact old_irr k)
theorem Qu.last {t : Nat → Int} {N n : Nat} {f : Nat → Bool} {l : List Nat} (h : Qu t N f (l ++ [n])) : n < N ∧ f n = true ∧ yng f t N = some n ∧ Qu t N (outB f n) l := by
  obtain ⟨h1, h2⟩ := (h.mem n).1 (by simp)
  have ha := List.pairwise_append.1 h.asc
  have hlt : ∀ k ∈ l, old t k n := fun k hk => ha.2.2 k hk n (by simp)
  refine ⟨h1, h2, yng_top h1 h2 (fun k hk hf hne => ?_), ha.1, fun k => ?_⟩
  · have := (h.mem k).2 ⟨hk, hf⟩
    rw [List.mem_append, List.mem_singleton] at this
    exact hlt k (this.resolve_right hne)
  · constructor
    · intro hk
      obtain ⟨k1, k2⟩ := (h.mem k).1 (by simp [hk])
      have hne : k ≠ n := fun e => by have := hlt k hk; rw [e] at this; exact old_irr this
      exact ⟨k1, by unfold outB; rw [if_neg hne]; exact k2⟩
    · rintro ⟨k1, k2⟩
      unfold outB at k2
      by_cases e : k = n
      · rw [if_pos e] at k2; cases k2
      · rw [if_neg e] at k2
        have := (h.mem k).2 ⟨k1, k2⟩
        rw [List.mem_append, List.mem_singleton] at this
        exact this.resolve_right e
theorem Qu.none {t : Nat → Int} {N : Nat} {f : Nat → Bool} (h : Qu t N f []) : yng f t N = Option.none := by
  cases hy : yng f t N with
  | none => rfl
  | some m => have := (h.mem m).2 (yng_mem f t N m hy); simp at this
theorem Qu.take {t : Nat → Int} {N : Nat} : ∀ (m : Nat) (l : List Nat) (f : Nat → Bool), l.length = m → Qu t N f l → takeY (pickP t N) (cnt f N) f = l.reverse
  | 0, l, f, hl, h => by
    obtain rfl := List.eq_nil_of_length_eq_zero hl
    rw [takeY_end _ _ _ h.none]; rfl
  | m + 1, l, f, hl, h => by
    rcases List.eq_nil_or_concat l with rfl | ⟨l0, n, rfl⟩
    · simp at hl
    · rw [List.concat_eq_append] at h hl ⊢
      obtain ⟨h1, h2, h3, h4⟩ := h.last
      rw [takeY_step _ f N n h3 h1 h2, Qu.take m l0 _ (by simpa using hl) h4, List.reverse_append]; rfl
theorem nodup_rev {l : List Nat} (h : l.Nodup) : l.reverse.Nodup := List.nodup_iff_pairwise_ne.2 (List.pairwise_reverse.2 ((List.nodup_iff_pairwise_ne.1 h).imp (fun h e => h e.symm)))
theorem nd_len : ∀ (N : Nat) (l : List Nat), l.Nodup → (∀ x ∈ l, x < N) → l.length ≤ N
  | 0, l, _, h => by
    cases l with
    | nil => simp
    | cons a l => have := h a (by simp); omega
  | N + 1, l, hn, h => by
    have h1 := nd_len N (l.erase N) (hn.erase N) (fun x hx => by
      rw [hn.mem_erase_iff] at hx
      have := h x hx.2
      omega)
    rw [List.length_erase] at h1
    split at h1 <;> omega

/-- How many children of a node are left. -/
def ahN (pr : Nat → List Nat) (left : Nat → Bool) : Nat → Nat → Nat
  | 0, _ => 0
  | n + 1, k => ahN pr left n k + if left n = true then (pr n).count k else 0
theorem ahN_zero (pr : Nat → List Nat) (left : Nat → Bool) (k : Nat) : ∀ N, ahN pr left N k = 0 ↔ ∀ m, m < N → left m = true → ¬ k ∈ pr m
  | 0 => by simp [ahN]
  | N + 1 => by
    rw [ahN, Nat.add_eq_zero_iff, ahN_zero pr left k N]
    constructor
    · rintro ⟨h1, h2⟩ m hm hl
      rcases (by omega : m < N ∨ m = N) with h3 | rfl
      · exact h1 m h3 hl
      · rw [if_pos hl] at h2; exact List.count_eq_zero.1 h2
    · intro h
      refine ⟨fun m hm hl => h m (by omega) hl, ?_⟩
      by_cases e : left N = true
      · rw [if_pos e]; exact List.count_eq_zero.2 (h N (by omega) e)
      · rw [if_neg e]
theorem ahN_out (pr : Nat → List Nat) (left : Nat → Bool) (n k : Nat) : ∀ N, n < N → left n = true → ahN pr (outB left n) N k + (pr n).count k = ahN pr left N k
  | 0, h, _ => by omega
  | N + 1, h, hl => by
    rw [ahN, ahN]
    rcases (by omega : n = N ∨ n < N) with rfl | h2
    · have e : ∀ M, M ≤ n → ahN pr (outB left n) M k = ahN pr left M k := by
        intro M
        induction M with
        | zero => intro _; rfl
        | succ M ih =>
          intro hM
          rw [ahN, ahN, ih (by omega), show outB left n M = left M from by unfold outB; rw [if_neg (by omega)]]
      rw [e n (Nat.le_refl _), if_pos hl, show outB left n n = false from by unfold outB; rw [if_pos rfl]]
      simp
    · have ih := ahN_out pr left n k N h2 hl
      rw [show outB left n N = left N from by unfold outB; rw [if_neg (by omega)]]
      omega
/-- Whose children are left is left. -/
def Closd (pr : Nat → List Nat) (N : Nat) (has left : Nat → Bool) : Prop := ∀ m, m < N → left m = true → ∀ k ∈ pr m, has k = true → left k = true
def ahJ (pr : Nat → List Nat) (N : Nat) (left : Nat → Bool) (n j : Nat) (k : Nat) : Nat := ahN pr left N k + ((pr n).reverse.drop j).count k
def rdyF (has : Nat → Bool) (ah : Nat → Nat) (k : Nat) : Bool := has k && decide (ah k = 0)
theorem rdyF_start (pr : Nat → List Nat) (N : Nat) (has : Nat → Bool) (k : Nat) : rdyF has (ahN pr has N) k = rdyB pr N has k := by
  rw [Bool.eq_iff_iff, rdyB_iff]
  unfold rdyF
  rw [Bool.and_eq_true, decide_eq_true_eq, ahN_zero]
theorem ahJ_zero (pr : Nat → List Nat) (N : Nat) (left : Nat → Bool) (n : Nat) (hn : n < N) (hl : left n = true) : ahJ pr N (outB left n) n 0 = ahN pr left N := by
  funext k
  unfold ahJ
  rw [List.drop_zero, List.count_reverse, ahN_out pr left n k N hn hl]
theorem ahJ_end (pr : Nat → List Nat) (N : Nat) (left : Nat → Bool) (n : Nat) : ahJ pr N left n (pr n).length = ahN pr left N := by
  funext k
  unfold ahJ
  rw [List.drop_of_length_le (by simp)]
  simp
theorem ahJ_step (pr : Nat → List Nat) (N : Nat) (left : Nat → Bool) (n j x : Nat) (hj : (pr n).reverse[j]? = some x) (k : Nat) : ahJ pr N left n j k = ahJ pr N left n (j + 1) k + (if k = x then 1 else 0) := by
  unfold ahJ
  have hlt := (List.getElem?_eq_some_iff.1 hj).1
  rw [List.drop_eq_getElem_cons hlt, (List.getElem?_eq_some_iff.1 hj).2, List.count_cons]
  by_cases e : k = x
  · subst e; simp; omega
  · have : (x == k) = false := by simpa using fun q => e q.symm
    rw [this, if_neg e]; simp
theorem rdyF_mid {pr : Nat → List Nat} {N : Nat} {has left : Nat → Bool} {n j x : Nat} (hnd : (pr n).Nodup) (hj : (pr n).reverse[j]? = some x) (hx : has x = true → left x = true) (hx2 : left x = true → has x = true) : rdyF has (ahJ pr N left n (j + 1)) x = rdyB pr N left x := by
  have hc : ((pr n).reverse.drop (j + 1)).count x = 0 := by
    rw [List.count_eq_zero]
    intro hm
    have hr : (pr n).reverse.Nodup := nodup_rev hnd
    obtain ⟨hlt, hxe⟩ := List.getElem?_eq_some_iff.1 hj
    obtain ⟨i, hi, he⟩ := List.mem_iff_getElem.1 hm
    rw [List.getElem_drop] at he
    have hi2 : j + 1 + i < (pr n).reverse.length := by rw [List.length_drop] at hi; omega
    have hne := (List.nodup_iff_pairwise_ne.1 hr)
    rw [List.pairwise_iff_getElem] at hne
    exact hne j (j + 1 + i) hlt hi2 (by omega) (by rw [hxe, he])
  rw [Bool.eq_iff_iff, rdyB_iff]
  unfold rdyF ahJ
  rw [hc, Nat.add_zero, Bool.and_eq_true, decide_eq_true_eq, ahN_zero]
  exact ⟨fun h => ⟨hx h.1, h.2⟩, fun h => ⟨hx2 h.1, h.2⟩⟩

/-- What a kind of waiting owes: a pile, or a queue. -/
structure TK (pr : Nat → List Nat) (N : Nat) (has : Nat → Bool) (T : List Nat) (Psh : List Nat → Nat → List Nat → Prop) (Pre : List Nat → Prop) where
  Good : (Nat → Bool) → List Nat → List Nat → Prop
  Mid : (Nat → Bool) → List Nat → Nat → Nat → List Nat → Prop
  start : ∀ left l n out, Good left (l ++ [n]) out → n < N ∧ left n = true ∧ Mid (outB left n) (out ++ [n]) n 0 l
  par : ∀ left out n j l, Mid left out n j l → ∀ x ∈ pr n, (has x = true → left x = true) ∧ (left x = true → has x = true)
  pre : ∀ left out n j l, Mid left out n j l → Pre l
  push : ∀ left out n j l x l', Mid left out n j l → (pr n).reverse[j]? = some x → rdyB pr N left x = true → Psh l x l' → Mid left out n (j + 1) l'
  skip : ∀ left out n j l x, Mid left out n j l → (pr n).reverse[j]? = some x → rdyB pr N left x = false → Mid left out n (j + 1) l
  fin : ∀ left out n l, Mid left out n (pr n).length l → Good left l out
  stop : ∀ left out, Good left [] out → out = T
  len : ∀ left l out, Good left l out → l.length ≤ N ∧ cnt left N + out.length ≤ N

theorem Closd.out {pr : Nat → List Nat} {N : Nat} {has left : Nat → Bool} {n : Nat} (h : Closd pr N has left) (hr : rdyB pr N left n = true) : Closd pr N has (outB left n) := by
  intro m hm hl k hk hh
  have hlm : left m = true := by unfold outB at hl; split at hl; · cases hl
                                 · exact hl
  have := h m hm hlm k hk hh
  unfold outB
  rw [if_neg (fun e => ((rdyB_iff pr N left n).1 hr).2 m hm hlm (by rw [← e]; exact hk))]
  exact this
theorem Closd.par {pr : Nat → List Nat} {N : Nat} {has left : Nat → Bool} {n : Nat} (hD : Dn pr N) (h : Closd pr N has left) (hn : n < N) (hl : left n = true) : ∀ x ∈ pr n, has x = true → outB left n x = true := fun x hx hh => by
  have := hD n hn x hx
  unfold outB
  rw [if_neg (by omega)]
  exact h n hn hl x hx hh
def SubH (has left : Nat → Bool) : Prop := ∀ k, left k = true → has k = true
theorem SubH.out {has left : Nat → Bool} (h : SubH has left) (n : Nat) : SubH has (outB left n) := fun k hk => by
  unfold outB at hk
  split at hk
  · cases hk
  · exact h k hk

structure PMid (pr : Nat → List Nat) (N : Nat) (has : Nat → Bool) (T : List Nat) (left : Nat → Bool) (out : List Nat) (n j : Nat) (l : List Nat) : Prop where
  cl : Closd pr N has left
  sb : SubH has left
  pa : ∀ x ∈ pr n, has x = true → left x = true
  st : ∃ l0, l = l0 ++ ((pr n).reverse.take j).filter (rdyB pr N left) ∧ Stk pr N left ((pr n).filter (rdyB pr N left) ++ l0.reverse) ∧ out ++ topoF pr N (cnt left N) ((pr n).filter (rdyB pr N left) ++ l0.reverse) left = T
  ln : cnt left N + out.length ≤ N
structure PGood (pr : Nat → List Nat) (N : Nat) (has : Nat → Bool) (T : List Nat) (left : Nat → Bool) (l out : List Nat) : Prop where
  cl : Closd pr N has left
  sb : SubH has left
  st : Stk pr N left l.reverse
  tl : out ++ topoF pr N (cnt left N) l.reverse left = T
  ln : cnt left N + out.length ≤ N
theorem take_snoc {l : List Nat} {j x : Nat} (h : l[j]? = some x) : l.take (j + 1) = l.take j ++ [x] := by
  rw [List.take_add_one, h]; rfl
theorem stk_len {pr : Nat → List Nat} {N : Nat} {left : Nat → Bool} {s : List Nat} (h : Stk pr N left s) : s.length ≤ N := nd_len N s h.nd (fun x hx => (h.rd x hx).1)
/-- A pile. -/
def pileK (pr : Nat → List Nat) (N : Nat) (has : Nat → Bool) (T : List Nat) (hD : Dn pr N) (hnd : ∀ n, n < N → (pr n).Nodup) : TK pr N has T (fun l x l' => l' = l ++ [x]) (fun l => l.length ≤ N) where
  Good := PGood pr N has T
  Mid := PMid pr N has T
  start := fun left l n out h => by
    have h1 : Stk pr N left (n :: l.reverse) := by have := h.st; rwa [List.reverse_append] at this
    obtain ⟨k1, k2, k3⟩ := h1.step hD (hnd n (h1.rd n (by simp)).1)
    have hr := (h1.rd n (by simp)).2
    refine ⟨k1, k2, h.cl.out hr, h.sb.out n, h.cl.par hD k1 k2, ⟨l, by simp, k3, ?_⟩, ?_⟩
    · have := h.tl
      rw [List.reverse_append] at this
      rw [show ([n] : List Nat).reverse ++ l.reverse = n :: l.reverse from rfl, topo_step pr N n _ left k1 k2] at this
      rw [List.append_assoc]
      exact this
    · have := h.ln
      have := cnt_out left n N k1 k2
      rw [List.length_append, List.length_singleton]
      omega
  par := fun left out n j l h x hx => ⟨h.pa x hx, h.sb x⟩
  pre := fun left out n j l h => by
    obtain ⟨l0, rfl, h2, _⟩ := h.st
    have := stk_len h2
    rw [List.length_append, List.length_reverse] at this
    rw [List.length_append]
    have h3 : (((pr n).reverse.take j).filter (rdyB pr N left)).length ≤ ((pr n).filter (rdyB pr N left)).length := by
      have := ((List.take_sublist j (pr n).reverse).filter (rdyB pr N left)).length_le
      rwa [List.filter_reverse, List.length_reverse] at this
    omega
  push := fun left out n j l x l' h hj hr hp => by
    obtain ⟨l0, h1, h2, h3⟩ := h.st
    refine ⟨h.cl, h.sb, h.pa, ⟨l0, ?_, h2, h3⟩, h.ln⟩
    rw [hp, h1, take_snoc hj, List.filter_append, List.append_assoc]
    congr 2
    simp [hr]
  skip := fun left out n j l x h hj hr => by
    obtain ⟨l0, h1, h2, h3⟩ := h.st
    refine ⟨h.cl, h.sb, h.pa, ⟨l0, ?_, h2, h3⟩, h.ln⟩
    rw [h1, take_snoc hj, List.filter_append]
    simp [hr]
  fin := fun left out n l h => by
    obtain ⟨l0, h1, h2, h3⟩ := h.st
    have e : l.reverse = (pr n).filter (rdyB pr N left) ++ l0.reverse := by
      rw [h1, List.take_of_length_le (by simp), List.reverse_append, List.filter_reverse, List.reverse_reverse]
    exact ⟨h.cl, h.sb, by rw [e]; exact h2, by rw [e]; exact h3, h.ln⟩
  stop := fun left out h => by
    have := h.tl
    rw [List.reverse_nil, topo_end, List.append_nil] at this
    exact this
  len := fun left l out h => ⟨by have := stk_len h.st; rwa [List.length_reverse] at this, h.ln⟩

/-- What a number put by age is put into. -/
def InsA (t : Nat → Int) (l : List Nat) (x : Nat) (l' : List Nat) : Prop := ∃ p, p ≤ l.length ∧ (∀ i, i < p → old t (l.getD i 0) x) ∧ (∀ i, p ≤ i → i < l.length → ¬ old t (l.getD i 0) x) ∧ l' = l.take p ++ x :: l.drop p
theorem InsA.mem {t : Nat → Int} {l l' : List Nat} {x : Nat} (h : InsA t l x l') (k : Nat) : k ∈ l' ↔ k ∈ l ∨ k = x := by
  obtain ⟨p, _, _, _, rfl⟩ := h
  have e : k ∈ l ↔ k ∈ l.take p ∨ k ∈ l.drop p := by
    conv => lhs; rw [← List.take_append_drop p l]
    rw [List.mem_append]
  rw [e, List.mem_append, List.mem_cons]
  constructor
  · rintro (a | a | a)
    · exact .inl (.inl a)
    · exact .inr a
    · exact .inl (.inr a)
  · rintro ((a | a) | a)
    · exact .inl a
    · exact .inr (.inr a)
    · exact .inr (.inl a)
theorem InsA.asc {t : Nat → Int} {l l' : List Nat} {x : Nat} (h : InsA t l x l') (ha : l.Pairwise (old t)) (hx : ¬ x ∈ l) : l'.Pairwise (old t) := by
  obtain ⟨p, hp, h1, h2, rfl⟩ := h
  have ht : ∀ a ∈ l.take p, old t a x := fun a hm => by
    obtain ⟨i, hi, rfl⟩ := List.mem_iff_getElem.1 hm
    rw [List.length_take] at hi
    have := h1 i (by omega)
    rwa [List.getD_eq_getElem?_getD, List.getElem?_eq_getElem (by omega), Option.getD_some, ← List.getElem_take (h := by rw [List.length_take]; omega)] at this
  have hd : ∀ a ∈ l.drop p, old t x a := fun a hm => by
    obtain ⟨i, hi, rfl⟩ := List.mem_iff_getElem.1 hm
    rw [List.length_drop] at hi
    have := h2 (p + i) (by omega) (by omega)
    rw [List.getD_eq_getElem?_getD, List.getElem?_eq_getElem (by omega), Option.getD_some] at this
    rw [List.getElem_drop]
    exact old_or (fun e => hx (by rw [← e]; exact List.getElem_mem _)) this
  have hs : (l.take p ++ l.drop p).Pairwise (old t) := by rw [List.take_append_drop]; exact ha
  obtain ⟨q1, q2, q3⟩ := List.pairwise_append.1 hs
  refine List.pairwise_append.2 ⟨q1, List.pairwise_cons.2 ⟨hd, q2⟩, fun a hm b hb => ?_⟩
  rcases List.mem_cons.1 hb with rfl | hb
  · exact ht a hm
  · exact q3 a hm b hb
structure QPre (t : Nat → Int) (N : Nat) (l : List Nat) : Prop where
  asc : l.Pairwise (old t)
  lt : ∀ x ∈ l, x < N
theorem QPre.len {t : Nat → Int} {N : Nat} {l : List Nat} (h : QPre t N l) : l.length ≤ N := nd_len N l (asc_nodup h.asc) h.lt
structure QMid (pr : Nat → List Nat) (t : Nat → Int) (N : Nat) (has : Nat → Bool) (T : List Nat) (left : Nat → Bool) (out : List Nat) (n j : Nat) (l : List Nat) : Prop where
  cl : Closd pr N has left
  sb : SubH has left
  pa : ∀ x ∈ pr n, has x = true → left x = true
  sq : l.Pairwise (old t)
  me : ∀ k, k ∈ l ↔ k < N ∧ rdyB pr N left k = true ∧ (k ∈ pr n → k ∈ (pr n).reverse.take j)
  tl : out ++ takeY (pickD pr t N) (cnt left N) left = T
  ln : cnt left N + out.length ≤ N
  nN : n < N
structure QGood (pr : Nat → List Nat) (t : Nat → Int) (N : Nat) (has : Nat → Bool) (T : List Nat) (left : Nat → Bool) (l out : List Nat) : Prop where
  cl : Closd pr N has left
  sb : SubH has left
  qu : Qu t N (rdyB pr N left) l
  tl : out ++ takeY (pickD pr t N) (cnt left N) left = T
  ln : cnt left N + out.length ≤ N
theorem not_taken {l : List Nat} {j x : Nat} (hnd : l.Nodup) (h : l[j]? = some x) : ¬ x ∈ l.take j := fun hm => by
  obtain ⟨hlt, hxe⟩ := List.getElem?_eq_some_iff.1 h
  obtain ⟨i, hi, he⟩ := List.mem_iff_getElem.1 hm
  rw [List.length_take] at hi
  rw [List.getElem_take] at he
  have hne := (List.nodup_iff_pairwise_ne.1 hnd)
  rw [List.pairwise_iff_getElem] at hne
  exact hne i j (by omega) hlt (by omega) (by rw [hxe, he])
/-- A queue. -/
def queueK (pr : Nat → List Nat) (t : Nat → Int) (N : Nat) (has : Nat → Bool) (T : List Nat) (hD : Dn pr N) (hnd : ∀ n, n < N → (pr n).Nodup) : TK pr N has T (InsA t) (QPre t N) where
  Good := QGood pr t N has T
  Mid := QMid pr t N has T
  start := fun left l n out h => by
    obtain ⟨k1, k2, k3, k4⟩ := h.qu.last
    have k5 : pickD pr t N left = some n := k3
    have k6 : left n = true := ((rdyB_iff pr N left n).1 k2).1
    refine ⟨k1, k6, h.cl.out k2, h.sb.out n, h.cl.par hD k1 k6, k4.asc, fun k => ?_, tl_D k5 h.tl, ?_, k1⟩
    · rw [k4.mem k]
      refine and_congr_right fun hk => ?_
      rw [List.take_zero]
      have e1 : outB (rdyB pr N left) n k = true ↔ k ≠ n ∧ rdyB pr N left k = true := by
        unfold outB
        by_cases e : k = n
        · rw [if_pos e]; simp [e]
        · rw [if_neg e]; simp [e]
      rw [e1, rdyB_iff, rdyB_iff]
      have e2 : outB left n k = true ↔ k ≠ n ∧ left k = true := by
        unfold outB
        by_cases e : k = n
        · rw [if_pos e]; simp [e]
        · rw [if_neg e]; simp [e]
      rw [e2]
      constructor
      · rintro ⟨a, b, c⟩
        refine ⟨⟨⟨a, b⟩, fun m hm hl => ?_⟩, fun hkn => (c n k1 k6 hkn).elim⟩
        unfold outB at hl
        split at hl
        · cases hl
        · exact c m hm hl
      · rintro ⟨⟨⟨a, b⟩, c⟩, d⟩
        refine ⟨a, b, fun m hm hl hkm => ?_⟩
        by_cases e : m = n
        · subst e; have := d hkm; simp at this
        · exact c m hm (by unfold outB; rw [if_neg e]; exact hl) hkm
    · have := h.ln
      have := cnt_out left n N k1 k6
      rw [List.length_append, List.length_singleton]
      omega
  par := fun left out n j l h x hx => ⟨h.pa x hx, h.sb x⟩
  pre := fun left out n j l h => ⟨h.sq, fun x hx => ((h.me x).1 hx).1⟩
  push := fun left out n j l x l' h hj hr hp => by
    have hx : x ∈ pr n := by have := (List.getElem?_eq_some_iff.1 hj); rw [← List.mem_reverse, ← this.2]; exact List.getElem_mem _
    have hnt := not_taken (nodup_rev (hnd n h.nN)) hj
    have hxl : ¬ x ∈ l := fun hm => hnt (((h.me x).1 hm).2.2 hx)
    refine ⟨h.cl, h.sb, h.pa, hp.asc h.sq hxl, fun k => ?_, h.tl, h.ln, h.nN⟩
    rw [hp.mem, h.me, take_snoc hj]
    constructor
    · rintro (⟨a, b, c⟩ | rfl)
      · exact ⟨a, b, fun hk => by simp [c hk]⟩
      · exact ⟨by have := hD n h.nN k hx; have := h.nN; omega, hr, fun _ => by simp⟩
    · rintro ⟨a, b, c⟩
      by_cases e : k = x
      · exact .inr e
      · refine .inl ⟨a, b, fun hk => ?_⟩
        have := c hk
        rw [List.mem_append, List.mem_singleton] at this
        exact this.resolve_right e
  skip := fun left out n j l x h hj hr => by
    refine ⟨h.cl, h.sb, h.pa, h.sq, fun k => ?_, h.tl, h.ln, h.nN⟩
    rw [h.me, take_snoc hj]
    constructor
    · rintro ⟨a, b, c⟩
      exact ⟨a, b, fun hk => by simp [c hk]⟩
    · rintro ⟨a, b, c⟩
      refine ⟨a, b, fun hk => ?_⟩
      have := c hk
      rw [List.mem_append, List.mem_singleton] at this
      refine this.resolve_right (fun e => ?_)
      rw [e, hr] at b; cases b
  fin := fun left out n l h => ⟨h.cl, h.sb, ⟨h.sq, fun k => by
    rw [h.me, List.take_of_length_le (by simp)]
    exact ⟨fun a => ⟨a.1, a.2.1⟩, fun a => ⟨a.1, a.2, fun hk => by simpa using hk⟩⟩⟩, h.tl, h.ln⟩
  stop := fun left out h => by
    have := h.tl
    rw [takeY_end _ left _ (show pickD pr t N left = none from h.qu.none), List.append_nil] at this
    exact this
  len := fun left l out h => ⟨nd_len N l (asc_nodup h.qu.asc) (fun x hx => ((h.qu.mem x).1 hx).1), h.ln⟩
theorem subH_refl (has : Nat → Bool) : SubH has has := fun _ h => h
theorem closd_refl (pr : Nat → List Nat) (N : Nat) (has : Nat → Bool) : Closd pr N has has := fun _ _ _ _ _ h => h
/-- How both begin. -/
theorem queue_start (pr : Nat → List Nat) (t : Nat → Int) (N : Nat) (ls l : List Nat) (h : Qu t N (rdyB pr N (fun k => decide (k ∈ ls))) l) : QGood pr t N (fun k => decide (k ∈ ls)) (dateL pr t N ls) (fun k => decide (k ∈ ls)) l [] :=
  ⟨closd_refl _ _ _, subH_refl _, h, rfl, by have := cnt_le (fun k => decide (k ∈ ls)) N; simp; omega⟩
theorem pile_start (pr : Nat → List Nat) (t : Nat → Int) (N : Nat) (ls l : List Nat) (h : Qu t N (rdyB pr N (fun k => decide (k ∈ ls))) l) : PGood pr N (fun k => decide (k ∈ ls)) (topoL pr t N ls) (fun k => decide (k ∈ ls)) l [] := by
  refine ⟨closd_refl _ _ _, subH_refl _, ⟨fun x hx => (h.mem x).1 (by simpa using hx), nodup_rev (asc_nodup h.asc)⟩, ?_, by have := cnt_le (fun k => decide (k ∈ ls)) N; simp; omega⟩
  unfold topoL
  rw [Qu.take l.length l _ rfl h]; rfl
/-- Without parents each order by times is the plain one. -/
theorem rdy_alone (N : Nat) (left : Nat → Bool) : rdyB (fun _ => []) N left = left := by
  funext k
  rw [Bool.eq_iff_iff, rdyB_iff]
  simp
theorem date_alone (t : Nat → Int) (N : Nat) (ls : List Nat) : dateL (fun _ => []) t N ls = plainL t N ls := by
  unfold dateL plainL
  congr 1
  funext left
  unfold pickD pickP
  rw [rdy_alone]
end Go.Proofs.Ytpaigmmpihcdaaa

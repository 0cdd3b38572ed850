/- What is proved: plain facts on which ids of a rising list begin alike: they stand side by side; how many digits tell one from all others, and that the two at its sides decide. Conditions: none; no program is walked. -/
import Derived.Test.YtbfbgopbelmghaaOjd
namespace Go.Proofs.Ytbfbgopbelmghaa
open Go.RowKit
set_option linter.unusedVariables false

theorem fit_ge {a x : Nat} {N : Int} (h : fitB a N x = true) : a ≤ x := by
  rw [fitB, decide_eq_true_eq] at h
  obtain ⟨_, _, h1, h2⟩ := h
  rw [RightN] at h1
  have e1 := Nat.div_add_mod a (16 ^ (64 - N.toNat))
  have e2 := Nat.div_add_mod x (16 ^ (64 - N.toNat))
  rw [h1, h2] at e1
  omega
theorem fit_between {a x y : Nat} {N : Int} (h : fitB a N x = true) (h1 : a ≤ y) (h2 : y ≤ x) : fitB a N y = true := by
  rw [fitB, decide_eq_true_eq] at h ⊢
  obtain ⟨g1, g2, g3, g4⟩ := h
  refine ⟨g1, g2, g3, ?_⟩
  have e1 := Nat.div_le_div_right (c := 16 ^ (64 - N.toNat)) h1
  have e2 := Nat.div_le_div_right (c := 16 ^ (64 - N.toNat)) h2
  omega
theorem cnt_succ (p : Nat → Bool) (ns : List Nat) (k : Nat) (hk : k < ns.length) : (ns.take (k + 1)).countP p = (ns.take k).countP p + if p (gt ns k) then 1 else 0 := by
  rw [List.take_add_one, gt_some ns k hk, List.countP_append]
  simp [List.countP_cons]
theorem cnt_seg (p : Nat → Bool) (ns : List Nat) (f m : Nat) (h : ∀ i, i < ns.length → p (gt ns i) = decide (f ≤ i ∧ i < f + m)) (k : Nat) (hk : k ≤ ns.length) : (ns.take k).countP p = min k (f + m) - min k f := by
  induction k with
  | zero => simp
  | succ k ih =>
    rw [cnt_succ p ns k hk, ih (by omega), h k hk]
    by_cases c : f ≤ k ∧ k < f + m
    · rw [decide_eq_true c, if_pos rfl]; omega
    · rw [decide_eq_false c]
      simp only [Bool.false_eq_true, if_false]
      omega
theorem range_count (ns : List Nat) (a : Nat) (N : Int) (m : Nat) (hr : ris ns) (h : Found (ns.length - posN ns a) (fun i => !fitB a N (gt ns (posN ns a + i))) m) : ns.countP (fitB a N) = m := by
  have hp := pos_le ns a
  have hm := h.le
  have := cnt_seg (fitB a N) ns (posN ns a) m (fun i hi => ?_) ns.length (Nat.le_refl _)
  · rw [List.take_length] at this
    omega
  · by_cases c : posN ns a ≤ i ∧ i < posN ns a + m
    · rw [decide_eq_true c]
      have := h.below (i - posN ns a) (by omega)
      simpa [show posN ns a + (i - posN ns a) = i by omega] using this
    · rw [decide_eq_false c]
      cases hf : fitB a N (gt ns i) with
      | false => rfl
      | true =>
        exfalso
        have h1 := fit_ge hf
        rcases Nat.lt_or_ge i (posN ns a) with h2 | h2
        · have := pos_below ns a i h2
          omega
        · have h3 := h.here (by omega)
          have h4 : gt ns (posN ns a + m) ≤ gt ns i := by
            rcases Nat.lt_or_ge (posN ns a + m) i with h5 | h5
            · exact Nat.le_of_lt (hr _ _ h5 hi)
            · rw [show i = posN ns a + m by omega]
              exact Nat.le_refl _
          have h5 := fit_between hf (pos_above' ns hr a (posN ns a + m) (by omega) (by omega)) h4
          rw [h5] at h3
          cases h3
/-- Those that begin so: from where, and up to where. -/
def rgA (ns : List Nat) (a : Nat) (N : Int) : Nat := if rightB a N = true ∧ risB ns = true then posN ns a else 0
def rgB (ns : List Nat) (a : Nat) (N : Int) : Nat := if rightB a N = true ∧ risB ns = true then posN ns a + ns.countP (fitB a N) else 0

/-! How many digits tell an id from all others. -/
def alikeB (x y n : Nat) : Bool := decide (x / 16 ^ (64 - n) = y / 16 ^ (64 - n))
theorem alike_mono {x y m n : Nat} (hm : m ≤ 64) (h : n ≤ m) (ha : alikeB x y m = true) : alikeB x y n = true := by
  rw [alikeB, decide_eq_true_eq] at ha ⊢
  rw [show 64 - n = (64 - m) + (m - n) by omega, Nat.pow_add, ← Nat.div_div_eq_div_mul, ← Nat.div_div_eq_div_mul, ha]
theorem alike_zero {x y : Nat} (hx : x < big) (hy : y < big) : alikeB x y 0 = true := by
  rw [alikeB, decide_eq_true_eq, Nat.sub_zero, show x / 16 ^ 64 = 0 from Nat.div_eq_of_lt hx, show y / 16 ^ 64 = 0 from Nat.div_eq_of_lt hy]
theorem alike_all (x y : Nat) : alikeB x y 64 = decide (x = y) := by simp [alikeB]
theorem alike_between {x y z n : Nat} (h : alikeB x z n = true) (h1 : min x z ≤ y) (h2 : y ≤ max x z) : alikeB x y n = true := by
  rw [alikeB, decide_eq_true_eq] at h ⊢
  have e1 := Nat.div_le_div_right (c := 16 ^ (64 - n)) h1
  have e2 := Nat.div_le_div_right (c := 16 ^ (64 - n)) h2
  rcases Nat.le_total x z with c | c
  · rw [Nat.min_eq_left c] at e1
    rw [Nat.max_eq_right c] at e2
    omega
  · rw [Nat.min_eq_right c] at e1
    rw [Nat.max_eq_left c] at e2
    omega
/-- With how many digits two begin alike. -/
def shN (x y : Nat) : Nat := (List.range 64).findIdx fun n => !alikeB x y (n + 1)
theorem first_unique (L m : Nat) (p : Nat → Bool) (hm : m ≤ L) (h1 : ∀ i, i < m → p i = false) (h2 : m < L → p m = true) : (List.range L).findIdx p = m := by
  rcases Nat.lt_or_ge m L with h | h
  · rw [List.findIdx_eq (by simpa using h)]
    refine ⟨by simpa using h2 h, fun j hj => ?_⟩
    simpa using h1 j hj
  · obtain rfl : m = L := by omega
    have : (List.range m).findIdx p = (List.range m).length := List.findIdx_eq_length.2 (fun x hx => h1 x (List.mem_range.1 hx))
    rw [this, List.length_range]
theorem sh_unique (x y m : Nat) (hm : m ≤ 64) (h1 : ∀ i, i < m → alikeB x y (i + 1) = true) (h2 : m < 64 → alikeB x y (m + 1) = false) : shN x y = m :=
  first_unique 64 m _ hm (fun i hi => by simp [h1 i hi]) (fun h => by simp [h2 h])
theorem sh_spec (x y : Nat) (hx : x < big) (hy : y < big) (hne : x ≠ y) : shN x y < 64 ∧ ∀ n, n ≤ 64 → (alikeB x y n = true ↔ n ≤ shN x y) := by
  have hlt : shN x y < 64 := by
    have : (List.range 64).findIdx (fun n => !alikeB x y (n + 1)) < (List.range 64).length := List.findIdx_lt_length_of_exists ⟨63, List.mem_range.2 (by omega), by simp [alike_all, hne]⟩
    rw [List.length_range] at this
    exact this
  refine ⟨hlt, fun n hn => ⟨fun h => ?_, fun h => ?_⟩⟩
  · rcases Nat.lt_or_ge (shN x y) n with c | c
    · exfalso
      have h3 := alike_mono hn c h
      have h4 := List.findIdx_getElem (p := fun n => !alikeB x y (n + 1)) (xs := List.range 64) (w := by rw [List.length_range]; exact hlt)
      rw [List.getElem_range] at h4
      simp only [Bool.not_eq_true'] at h4
      rw [show shN x y = (List.range 64).findIdx (fun n => !alikeB x y (n + 1)) from rfl, Nat.succ_eq_add_one] at h3
      rw [h4] at h3
      cases h3
    · exact c
  · cases n with
    | zero => exact alike_zero hx hy
    | succ n =>
      have := List.not_of_lt_findIdx (p := fun n => !alikeB x y (n + 1)) (xs := List.range 64) (i := n) (by exact h)
      simpa using this
/-- All others differ from it in the first n digits. -/
def aloneB (ns : List Nat) (x n : Nat) : Bool := ns.all fun y => y == x || !alikeB x y n
def loN (least : Int) : Nat := (min (max least 0) 64).toNat
def shortN (ns : List Nat) (x : Nat) (least : Int) : Nat := if fHas ns x = true then loN least + (List.range (64 - loN least)).findIdx (fun j => aloneB ns x (loN least + j)) else 0
theorem lo_le (least : Int) : loN least ≤ 64 := by unfold loN; omega
theorem short_unique (ns : List Nat) (x : Nat) (least : Int) (m : Nat) (hh : fHas ns x = true) (h0 : loN least ≤ m) (hm : m ≤ 64) (h1 : ∀ n, loN least ≤ n → n < m → aloneB ns x n = false) (h2 : m < 64 → aloneB ns x m = true) : shortN ns x least = m := by
  have := lo_le least
  rw [shortN, if_pos hh, first_unique (64 - loN least) (m - loN least) _ (by omega) (fun i hi => h1 _ (by omega) (by omega)) (fun h => by
    rw [show loN least + (m - loN least) = m by omega]; exact h2 (by omega))]
  omega
def nearN (ns : List Nat) (x : Nat) (i : Int) : Nat := if 0 ≤ i ∧ i < ns.length then shN x (gt ns i.toNat) + 1 else 0
theorem short_near (ns : List Nat) (x : Nat) (least : Int) (hb : ∀ n ∈ ns, n < big) (hx : x < big) (hr : risB ns = true) (hh : hasN ns x = true) : shortN ns x least = max (max (loN least) (nearN ns x ((posN ns x : Int) - 1))) (nearN ns x ((posN ns x : Int) + 1)) := by
  have hris := (risB_iff ns).1 hr
  obtain ⟨hp, he⟩ := of_decide_eq_true hh
  have hfh : fHas ns x = true := by rw [fHas, hr, hh]; rfl
  have hlo := lo_le least
  -- what stands beside it
  have side : ∀ i : Int, (i = (posN ns x : Int) - 1 ∨ i = (posN ns x : Int) + 1) → 0 ≤ i → i < ns.length → gt ns i.toNat ∈ ns ∧ x ≠ gt ns i.toNat := fun i h1 h2 h3 => by
    refine ⟨gt_mem ns _ (by omega), fun e => ?_⟩
    rcases h1 with h1 | h1
    · have := hris i.toNat (posN ns x) (by omega) hp
      rw [he, ← e] at this
      omega
    · have := hris (posN ns x) i.toNat (by omega) (by omega)
      rw [he, ← e] at this
      omega
  have near_le : ∀ i : Int, (i = (posN ns x : Int) - 1 ∨ i = (posN ns x : Int) + 1) → nearN ns x i ≤ 64 := fun i h1 => by
    unfold nearN
    split
    · rename_i h2
      obtain ⟨h3, h4⟩ := side i h1 h2.1 h2.2
      have := (sh_spec x _ hx (hb _ h3) h4).1
      omega
    · omega
  have n1 := near_le _ (.inl rfl)
  have n2 := near_le _ (.inr rfl)
  have not_alone : ∀ i : Int, (i = (posN ns x : Int) - 1 ∨ i = (posN ns x : Int) + 1) → ∀ n, n < nearN ns x i → aloneB ns x n = false := fun i h1 n hn => by
    unfold nearN at hn
    split at hn
    · rename_i h2
      obtain ⟨h3, h4⟩ := side i h1 h2.1 h2.2
      have hs := sh_spec x _ hx (hb _ h3) h4
      have h5 := (hs.2 n (by omega)).2 (by omega)
      rw [aloneB, List.all_eq_false]
      refine ⟨_, h3, ?_⟩
      generalize gt ns i.toNat = z at h4 h5 ⊢
      simp [h5, Ne.symm h4]
    · omega
  refine short_unique ns x least _ hfh (by omega) (by omega) (fun n h1 h2 => ?_) (fun h => ?_)
  · rcases (by omega : n < nearN ns x ((posN ns x : Int) - 1) ∨ n < nearN ns x ((posN ns x : Int) + 1)) with c | c
    · exact not_alone _ (.inl rfl) n c
    · exact not_alone _ (.inr rfl) n c
  · obtain ⟨r, hR⟩ : ∃ r, max (max (loN least) (nearN ns x ((posN ns x : Int) - 1))) (nearN ns x ((posN ns x : Int) + 1)) = r := ⟨_, rfl⟩
    rw [hR] at h ⊢
    rw [aloneB, List.all_eq_true]
    intro y hy
    obtain ⟨i, hi, hy2⟩ := List.mem_iff_getElem.1 hy
    have hyg : y = gt ns i := by rw [gt, List.getD_eq_getElem?_getD, List.getElem?_eq_getElem hi, ← hy2]; rfl
    subst hyg
    clear hy2 hy
    rcases Nat.lt_trichotomy i (posN ns x) with c | c | c
    · cases ha : alikeB x (gt ns i) r with
      | false => simp
      | true =>
        exfalso
        have hi1 : (0 : Int) ≤ (posN ns x : Int) - 1 := by omega
        have hi2 : (posN ns x : Int) - 1 < ns.length := by omega
        obtain ⟨h3, h4⟩ := side _ (.inl rfl) hi1 hi2
        rw [show ((posN ns x : Int) - 1).toNat = posN ns x - 1 by omega] at h3 h4
        have h6 : gt ns i ≤ gt ns (posN ns x - 1) := by
          rcases Nat.lt_or_ge i (posN ns x - 1) with c2 | c2
          · exact Nat.le_of_lt (hris _ _ c2 (by omega))
          · rw [show i = posN ns x - 1 by omega]; exact Nat.le_refl _
        have h7 : gt ns (posN ns x - 1) < x := by
          have := hris (posN ns x - 1) (posN ns x) (by omega) hp
          rwa [he] at this
        have h8 := alike_between ha (y := gt ns (posN ns x - 1)) (by omega) (by omega)
        have h9 := ((sh_spec x _ hx (hb _ h3) h4).2 r (by omega)).1 h8
        have h10 : nearN ns x ((posN ns x : Int) - 1) = shN x (gt ns (posN ns x - 1)) + 1 := by
          rw [nearN, if_pos ⟨hi1, hi2⟩, show ((posN ns x : Int) - 1).toNat = posN ns x - 1 by omega]
        omega
    · rw [c, he]; simp
    · cases ha : alikeB x (gt ns i) r with
      | false => simp
      | true =>
        exfalso
        have hi1 : (0 : Int) ≤ (posN ns x : Int) + 1 := by omega
        have hi2 : (posN ns x : Int) + 1 < ns.length := by omega
        obtain ⟨h3, h4⟩ := side _ (.inr rfl) hi1 hi2
        rw [show ((posN ns x : Int) + 1).toNat = posN ns x + 1 by omega] at h3 h4
        have h6 : gt ns (posN ns x + 1) ≤ gt ns i := by
          rcases Nat.lt_or_ge (posN ns x + 1) i with c2 | c2
          · exact Nat.le_of_lt (hris _ _ c2 hi)
          · rw [show i = posN ns x + 1 by omega]; exact Nat.le_refl _
        have h7 : x < gt ns (posN ns x + 1) := by
          have := hris (posN ns x) (posN ns x + 1) (by omega) (by omega)
          rwa [he] at this
        have h8 := alike_between ha (y := gt ns (posN ns x + 1)) (by omega) (by omega)
        have h9 := ((sh_spec x _ hx (hb _ h3) h4).2 r (by omega)).1 h8
        have h10 : nearN ns x ((posN ns x : Int) + 1) = shN x (gt ns (posN ns x + 1)) + 1 := by
          rw [nearN, if_pos ⟨hi1, hi2⟩, show ((posN ns x : Int) + 1).toNat = posN ns x + 1 by omega]
        omega
end Go.Proofs.Ytbfbgopbelmghaa

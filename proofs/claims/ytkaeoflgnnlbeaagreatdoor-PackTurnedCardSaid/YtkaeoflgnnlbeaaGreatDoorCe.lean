/- What is proved: what the walks of this seat need of layers below, merged out of the texts Tra Trb (of each just what is needed). Conditions: each theorem names its own. -/
import Derived.Sort.LotA
import Derived.Shelf.SlSortCmp.KitK
import Derived.Sort.WalkB2
import Derived.Sort.WalkB12
import Derived.Deep.LoopGhost
import Derived.Lib.Hide
import Derived.Test.YtkaeoflgnnlbeaaGreatDoorChecked
/- What is proved: plain facts on stable sorting in place: ranges that change places, parts that are turned about, a merge by halves, insertion; an order by lt and, of equals, by where they stood. Conditions: none. -/
namespace Go.Proofs.YtkaeoflgnnlbeaaGreatDoor
open Go.Sort
section
variable {α : Type} [Inhabited α]
/-- Ahead of another one: by lt, or, of equals, by where it stood. -/
def LL (lt : α → α → Bool) (ix : α → Nat) (x y : α) : Prop := lt x y = true ∨ (lt y x = false ∧ ix x < ix y)
variable {lt : α → α → Bool} {ix : α → Nat}
omit [Inhabited α] in
theorem LL.trans (hS : SWO lt) {x y z : α} (h1 : LL lt ix x y) (h2 : LL lt ix y z) : LL lt ix x z := by
  rcases h1 with h1 | ⟨h1, i1⟩ <;> rcases h2 with h2 | ⟨h2, i2⟩
  · exact .inl (hS.trans _ _ _ h1 h2)
  · cases h : lt x z with
    | true => exact .inl h
    | false => have := hS.ntrans _ _ _ h h2; rw [h1] at this; cases this
  · cases h : lt x z with
    | true => exact .inl h
    | false => have := hS.ntrans _ _ _ h1 h; rw [h2] at this; cases this
  · exact .inr ⟨hS.ntrans _ _ _ h2 h1, by omega⟩
omit [Inhabited α] in
theorem LL.asymm (hS : SWO lt) {x y : α} (h1 : LL lt ix x y) (h2 : LL lt ix y x) : False := by
  rcases h1.trans hS h2 with h | h
  · rw [hS.irrefl] at h; cases h
  · omega
omit [Inhabited α] in
theorem LL.lt_of {x y : α} (h : LL lt ix x y) (hi : ix y < ix x) : lt x y = true := by
  rcases h with h | h
  · exact h
  · omega
omit [Inhabited α] in
theorem LL.of_not {x y : α} (h : lt y x = false) (hi : ix x < ix y) : LL lt ix x y := .inr ⟨h, hi⟩
/-- In order, from a to b. -/
def St (lt : α → α → Bool) (ix : α → Nat) (a b : Nat) (d : Array α) : Prop := ∀ i j, a ≤ i → i < j → j < b → LL lt ix d[i]! d[j]!
/-- What stands from a to p stood ahead of what stands from p to b. -/
def Cr (ix : α → Nat) (p a b : Nat) (d : Array α) : Prop := ∀ i j, a ≤ i → i < p → p ≤ j → j < b → ix d[i]! < ix d[j]!
theorem St.le {a b a' b' : Nat} {d : Array α} (h : St lt ix a b d) (ha : a ≤ a') (hb : b' ≤ b) : St lt ix a' b' d := fun i j h1 h2 h3 => h i j (by omega) h2 (by omega)
theorem Cr.le {p a b a' b' : Nat} {d : Array α} (h : Cr ix p a b d) (ha : a ≤ a') (hb : b' ≤ b) : Cr ix p a' b' d := fun i j h1 h2 h3 h4 => h i j (by omega) h2 h3 (by omega)
theorem St.short {a b : Nat} {d : Array α} (h : b ≤ a + 1) : St lt ix a b d := fun i j h1 h2 h3 => by omega
/-- Order is kept by what is permuted elsewhere. -/
theorem St.away {a b x y : Nat} {d d' : Array α} (h : St lt ix a b d) (hp : PermIn x y d d') (ho : b ≤ x ∨ y ≤ a) : St lt ix a b d' := fun i j h1 h2 h3 => by
  rw [hp.2.1 i (by omega), hp.2.1 j (by omega)]
  exact h i j h1 h2 h3
/-- .. and so is what stood ahead, by what is permuted on one side. -/
theorem Cr.perm {p a b x y : Nat} {d d' : Array α} (h : Cr ix p a b d) (hp : PermIn x y d d') (hy : y ≤ d.size) (ho : (a ≤ x ∧ y ≤ p) ∨ (p ≤ x ∧ y ≤ b) ∨ y ≤ a ∨ b ≤ x) : Cr ix p a b d' := fun i j h1 h2 h3 h4 => by
  rcases ho with ⟨o1, o2⟩ | ⟨o1, o2⟩ | o1 | o1
  · rw [hp.2.1 j (by omega)]
    by_cases hi : x ≤ i ∧ i < y
    · exact permIn_all d d' x y (fun e => ix e < ix d[j]!) hy hp (fun k hk1 hk2 => h k j (by omega) (by omega) h3 h4) i hi.1 hi.2
    · rw [hp.2.1 i (by omega)]
      exact h i j h1 h2 h3 h4
  · rw [hp.2.1 i (by omega)]
    by_cases hj : x ≤ j ∧ j < y
    · exact permIn_all d d' x y (fun e => ix d[i]! < ix e) hy hp (fun k hk1 hk2 => h i k h1 h2 (by omega) (by omega)) j hj.1 hj.2
    · rw [hp.2.1 j (by omega)]
      exact h i j h1 h2 h3 h4
  · rw [hp.2.1 i (by omega), hp.2.1 j (by omega)]
    exact h i j h1 h2 h3 h4
  · rw [hp.2.1 i (by omega), hp.2.1 j (by omega)]
    exact h i j h1 h2 h3 h4
/-! Ranges that change places. -/
/-- Where a place's element comes from when [a, a + n) and [b, b + n) change places. -/
def sw (a b n k : Nat) : Nat := if a ≤ k ∧ k < a + n then k + (b - a) else if b ≤ k ∧ k < b + n then k - (b - a) else k
/-- .. when [m - i, m) and [m, m + j) change places. -/
def src (m i j k : Nat) : Nat := if m - i ≤ k ∧ k < m - i + j then k + i else if m - i + j ≤ k ∧ k < m + j then k - j else k
theorem sw_zero (a b k : Nat) : sw a b 0 k = k := by unfold sw; repeat (first | omega | split)
theorem sw_step (d dk : Array α) (a b n : Nat) (hab : a + n < b) (hb : b + n < dk.size) (h : ∀ k, dk[k]! = d[sw a b n k]!) : ∀ k, (swp dk (a + n) (b + n))[k]! = d[sw a b (n + 1) k]! := fun k => by
  by_cases h1 : k = a + n
  · subst h1
    rw [swp_left _ _ _ (by omega) (by omega), h]
    congr 1; unfold sw; repeat (first | omega | split)
  · by_cases h2 : k = b + n
    · subst h2
      rw [swp_right _ _ _ (by omega), h]
      congr 1; unfold sw; repeat (first | omega | split)
    · rw [swp_other _ _ _ _ h1 h2, h]
      congr 1; unfold sw; repeat (first | omega | split)
theorem sw_even (m i k : Nat) (hm : i ≤ m) : sw (m - i) m i k = src m i i k := by unfold sw src; repeat (first | omega | split)
theorem sw_more (m i j k : Nat) (hm : i ≤ m) (h : j < i) : sw (m - i) m j (src m (i - j) j k) = src m i j k := by
  unfold src; repeat (first | (unfold sw; repeat (first | omega | split)) | split)
theorem sw_less (m i j k : Nat) (hm : i ≤ m) (h : i < j) : sw (m - i) (m + j - i) i (src m i (j - i) k) = src m i j k := by
  unfold src; repeat (first | (unfold sw; repeat (first | omega | split)) | split)
theorem src_out (m i j k : Nat) (hm : i ≤ m) (h : k < m - i ∨ m + j ≤ k) : src m i j k = k := by unfold src; repeat (first | omega | split)
theorem src_fore (m i j k : Nat) (h1 : m - i ≤ k) (h2 : k < m - i + j) : src m i j k = k + i := by unfold src; repeat (first | omega | split)
theorem src_back (m i j k : Nat) (h1 : m - i + j ≤ k) (h2 : k < m + j) : src m i j k = k - j := by unfold src; repeat (first | omega | split)
theorem src_none (m j k : Nat) : src m 0 j k = k := by unfold src; repeat (first | omega | split)
theorem src_none2 (m i k : Nat) : src m i 0 k = k := by unfold src; repeat (first | omega | split)
/-- One element goes up by one place. -/
theorem src_up (d dk : Array α) (a k : Nat) (hk : a ≤ k) (hs : k + 1 < dk.size) (h : ∀ t, dk[t]! = d[src (a + 1) 1 (k - a) t]!) : ∀ t, (swp dk k (k + 1))[t]! = d[src (a + 1) 1 (k + 1 - a) t]! := fun t => by
  by_cases h1 : t = k
  · subst h1
    rw [swp_left _ _ _ (by omega) (by omega), h]
    congr 1; unfold src; repeat (first | omega | split)
  · by_cases h2 : t = k + 1
    · subst h2
      rw [swp_right _ _ _ (by omega), h]
      congr 1; unfold src; repeat (first | omega | split)
    · rw [swp_other _ _ _ _ h1 h2, h]
      congr 1; unfold src; repeat (first | omega | split)
/-- One element goes down by one place. -/
theorem src_down (d dk : Array α) (m k : Nat) (hk : k < m) (hs : m < dk.size) (h : ∀ t, dk[t]! = d[src m (m - (k + 1)) 1 t]!) : ∀ t, (swp dk (k + 1) k)[t]! = d[src m (m - k) 1 t]! := fun t => by
  by_cases h1 : t = k + 1
  · subst h1
    rw [swp_left _ _ _ (by omega) (by omega), h]
    congr 1; unfold src; repeat (first | omega | split)
  · by_cases h2 : t = k
    · subst h2
      rw [swp_right _ _ _ (by omega), h]
      congr 1; unfold src; repeat (first | omega | split)
    · rw [swp_other _ _ _ _ h1 h2, h]
      congr 1; unfold src; repeat (first | omega | split)
/-! A merge by halves. -/
/-- Two parts, each in order, the one stood ahead of the other. -/
structure Two (lt : α → α → Bool) (ix : α → Nat) (a m b : Nat) (d : Array α) : Prop where
  left : St lt ix a m d
  right : St lt ix m b d
  cross : Cr ix m a b d
theorem Two.one {a m b : Nat} {d : Array α} (h : Two lt ix a m b d) (hm : m ≤ a ∨ b ≤ m) : St lt ix a b d := by
  rcases hm with hm | hm
  · exact h.right.le hm (Nat.le_refl _)
  · exact h.left.le (Nat.le_refl _) hm
/-- What the turning about of [s, m) and [m, e) makes of two parts: two halves, each of two parts. -/
theorem Two.turned {a m b s e mid : Nat} {d d' : Array α} (h : Two lt ix a m b d) (h1 : a ≤ s) (h2 : s ≤ m) (h3 : m ≤ e) (h4 : e ≤ b) (hmid : mid = s + (e - m))
    (H1 : ∀ x y, a ≤ x → x < s → e ≤ y → y < b → LL lt ix d[x]! d[y]!) (H2 : ∀ y x, m ≤ y → y < e → s ≤ x → x < m → LL lt ix d[y]! d[x]!)
    (ht : ∀ k, d'[k]! = d[src m (m - s) (e - m) k]!) : Two lt ix a s mid d' ∧ Two lt ix mid e b d' ∧ ∀ i j, a ≤ i → i < mid → mid ≤ j → j < b → LL lt ix d'[i]! d'[j]! := by
  have s1 : ∀ k, k < s → src m (m - s) (e - m) k = k := fun k hk => src_out _ _ _ _ (by omega) (by omega)
  have s2 : ∀ k, s ≤ k → k < mid → src m (m - s) (e - m) k = k + (m - s) := fun k hk hk2 => src_fore _ _ _ _ (by omega) (by omega)
  have s3 : ∀ k, mid ≤ k → k < e → src m (m - s) (e - m) k = k - (e - m) := fun k hk hk2 => src_back _ _ _ _ (by omega) (by omega)
  have s4 : ∀ k, e ≤ k → src m (m - s) (e - m) k = k := fun k hk => src_out _ _ _ _ (by omega) (by omega)
  refine ⟨⟨?_, ?_, ?_⟩, ⟨?_, ?_, ?_⟩, ?_⟩
  · intro i j g1 g2 g3
    rw [ht, ht, s1 i (by omega), s1 j (by omega)]; exact h.left i j (by omega) (by omega) (by omega)
  · intro i j g1 g2 g3
    rw [ht, ht, s2 i (by omega) (by omega), s2 j (by omega) (by omega)]; exact h.right _ _ (by omega) (by omega) (by omega)
  · intro i j g1 g2 g3 g4
    rw [ht, ht, s1 i (by omega), s2 j (by omega) (by omega)]; exact h.cross _ _ (by omega) (by omega) (by omega) (by omega)
  · intro i j g1 g2 g3
    rw [ht, ht, s3 i (by omega) (by omega), s3 j (by omega) (by omega)]; exact h.left _ _ (by omega) (by omega) (by omega)
  · intro i j g1 g2 g3
    rw [ht, ht, s4 i (by omega), s4 j (by omega)]; exact h.right _ _ (by omega) (by omega) (by omega)
  · intro i j g1 g2 g3 g4
    rw [ht, ht, s3 i (by omega) (by omega), s4 j (by omega)]; exact h.cross _ _ (by omega) (by omega) (by omega) (by omega)
  · intro i j g1 g2 g3 g4
    rw [ht, ht]
    by_cases hi : i < s
    · rw [s1 i hi]
      by_cases hj : j < e
      · rw [s3 j g3 hj]; exact h.left _ _ (by omega) (by omega) (by omega)
      · rw [s4 j (by omega)]; exact H1 _ _ g1 hi (by omega) g4
    · rw [s2 i (by omega) g2]
      by_cases hj : j < e
      · rw [s3 j g3 hj]; exact H2 _ _ (by omega) (by omega) (by omega) (by omega)
      · rw [s4 j (by omega)]; exact h.right _ _ (by omega) (by omega) (by omega)
/-- Two halves in order, the one ahead of the other. -/
theorem St.glue {a mid b : Nat} {d : Array α} (h1 : St lt ix a mid d) (h2 : St lt ix mid b d) (h3 : ∀ i j, a ≤ i → i < mid → mid ≤ j → j < b → LL lt ix d[i]! d[j]!) : St lt ix a b d := fun i j g1 g2 g3 => by
  by_cases hj : j < mid
  · exact h1 i j g1 g2 hj
  · by_cases hi : i < mid
    · exact h3 i j g1 hi (by omega) g3
    · exact h2 i j (by omega) g2 g3
/-- Both halves in order, each ahead of the other's: all in order. -/
theorem St.join {a mid b : Nat} {d dl dr : Array α} (hb : b ≤ d.size) (h2 : mid ≤ b) (hd : ∀ i j, a ≤ i → i < mid → mid ≤ j → j < b → LL lt ix d[i]! d[j]!)
    (hl : PermIn a mid d dl) (sl : St lt ix a mid dl) (hr : PermIn mid b dl dr) (sr : St lt ix mid b dr) : St lt ix a b dr := fun i j g1 g2 g3 => by
  by_cases hj : j < mid
  · rw [hr.2.1 i (by omega), hr.2.1 j (by omega)]; exact sl i j g1 g2 hj
  · by_cases hi : i < mid
    · rw [hr.2.1 i (by omega)]
      refine permIn_all dl dr mid b (fun e => LL lt ix dl[i]! e) (by rw [hl.1]; exact hb) hr (fun k k1 k2 => ?_) j (by omega) g3
      rw [hl.2.1 k (by omega)]
      exact permIn_all d dl a mid (fun e => LL lt ix e d[k]!) (by omega) hl (fun t t1 t2 => hd t k t1 t2 k1 k2) i g1 hi
    · exact sr i j (by omega) g2 g3
/-- The search for the place at which both parts are turned: what stands below it is ahead of its counterpart, what stands above it behind. -/
structure Half (lt : α → α → Bool) (ix : α → Nat) (p lo hi s r : Nat) (d : Array α) : Prop where
  lo_le : lo ≤ s
  le : s ≤ r
  le_hi : r ≤ hi
  below : ∀ c, lo ≤ c → c < s → LL lt ix d[c]! d[p - c]!
  above : ∀ c, r ≤ c → c < hi → LL lt ix d[p - c]! d[c]!
theorem Half.start {p lo hi : Nat} {d : Array α} (h : lo ≤ hi) : Half lt ix p lo hi lo hi d := ⟨Nat.le_refl _, h, Nat.le_refl _, fun c h1 h2 => by omega, fun c h1 h2 => by omega⟩
theorem Half.more (hS : SWO lt) {a m b p lo hi s r c : Nat} {d : Array α} (h : Half lt ix p lo hi s r d) (ht : Two lt ix a m b d) (hlo : a ≤ lo) (hhi : hi ≤ m) (hpl : p - lo < b) (hph : m + hi ≤ p + 1) (h1 : s ≤ c) (h2 : c < r) (hc : lt d[p - c]! d[c]! = false) : Half lt ix p lo hi (c + 1) r d := by
  have := h.lo_le; have := h.le_hi
  have hcc : LL lt ix d[c]! d[p - c]! := .of_not hc (ht.cross _ _ (by omega) (by omega) (by omega) (by omega))
  refine ⟨by omega, by omega, by omega, fun k k1 k2 => ?_, h.above⟩
  by_cases hk : k = c
  · rw [hk]; exact hcc
  · exact ((ht.left k c (by omega) (by omega) (by omega)).trans hS hcc).trans hS (ht.right _ _ (by omega) (by omega) (by omega))
theorem Half.less (hS : SWO lt) {a m b p lo hi s r c : Nat} {d : Array α} (h : Half lt ix p lo hi s r d) (ht : Two lt ix a m b d) (hlo : a ≤ lo) (hhi : hi ≤ m) (hpl : p - lo < b) (hph : m + hi ≤ p + 1) (h1 : s ≤ c) (h2 : c < r) (hc : lt d[p - c]! d[c]! = true) : Half lt ix p lo hi s c d := by
  have := h.lo_le; have := h.le_hi
  have hcc : LL lt ix d[p - c]! d[c]! := .inl hc
  refine ⟨by omega, by omega, by omega, h.below, fun k k1 k2 => ?_⟩
  by_cases hk : k = c
  · rw [hk]; exact hcc
  · exact ((ht.right (p - k) (p - c) (by omega) (by omega) (by omega)).trans hS hcc).trans hS (ht.left _ _ (by omega) (by omega) (by omega))
/-- The search is over: what it gives. -/
theorem Half.done (hS : SWO lt) {a m b mid n p lo hi s e : Nat} {d : Array α} (h : Half lt ix p lo hi s s d) (ht : Two lt ix a m b d) (h1 : a ≤ m) (h2 : m ≤ b) (hmid : mid = (a + b) / 2) (hn : n = mid + m) (hp : p + 1 = n) (he : e = n - s)
    (hlo : lo = if mid < m then n - b else a) (hhi : hi = if mid < m then mid else m) :
    a ≤ s ∧ s ≤ m ∧ m ≤ e ∧ e ≤ b ∧ mid = s + (e - m) ∧ (∀ x y, a ≤ x → x < s → e ≤ y → y < b → LL lt ix d[x]! d[y]!) ∧ (∀ y x, m ≤ y → y < e → s ≤ x → x < m → LL lt ix d[y]! d[x]!) := by
  have := h.lo_le; have := h.le_hi
  have hlo2 : a ≤ lo ∧ (lo = a ∨ n - lo = b) ∧ lo ≤ n := by rw [hlo]; split <;> omega
  have hhi2 : hi ≤ m ∧ (hi = m ∨ n - hi = m) ∧ hi ≤ n := by rw [hhi]; split <;> omega
  have hb2 : n - lo ≤ b := by rw [hlo]; split <;> omega
  have hm2 : m + hi ≤ n := by rw [hhi]; split <;> omega
  have hm3 : hi ≤ mid := by rw [hhi]; split <;> omega
  refine ⟨by omega, by omega, by omega, by omega, by omega, fun x y x1 x2 y1 y2 => ?_, fun y x y1 y2 x1 x2 => ?_⟩
  · have hs : lo < s := by omega
    have hc := h.below (s - 1) (by omega) (by omega)
    rw [show p - (s - 1) = e by omega] at hc
    have h3 : LL lt ix d[x]! d[e]! := by
      by_cases hx : x = s - 1
      · rw [hx]; exact hc
      · exact (ht.left x (s - 1) (by omega) (by omega) (by omega)).trans hS hc
    by_cases hy : y = e
    · rw [hy]; exact h3
    · exact h3.trans hS (ht.right e y (by omega) (by omega) (by omega))
  · have hs : s < hi := by omega
    have hc := h.above s (by omega) hs
    rw [show p - s = e - 1 by omega] at hc
    have h3 : LL lt ix d[y]! d[s]! := by
      by_cases hy : y = e - 1
      · rw [hy]; exact hc
      · exact (ht.right y (e - 1) (by omega) (by omega) (by omega)).trans hS hc
    by_cases hx : x = s
    · rw [hx]; exact h3
    · exact h3.trans hS (ht.left s x (by omega) (by omega) (by omega))
/-- One element ahead of a part that is in order. -/
theorem Two.first {a b i : Nat} {d d' : Array α} (h : Two lt ix a (a + 1) b d) (h1 : a + 1 ≤ i) (h2 : i ≤ b) (hl : ∀ k, a + 1 ≤ k → k < i → lt d[k]! d[a]! = true) (hr : ∀ k, i ≤ k → k < b → lt d[k]! d[a]! = false) (ht : ∀ k, d'[k]! = d[src (a + 1) 1 (i - (a + 1)) k]!) : St lt ix a b d' := by
  have H := h.turned (s := a) (e := i) (mid := a + (i - (a + 1))) (Nat.le_refl _) (by omega) h1 h2 rfl (fun x y x1 x2 => by omega) (fun y x y1 y2 x1 x2 => by
    rw [show x = a by omega]; exact .inl (hl y y1 y2)) (fun k => by rw [ht k, show a + 1 - a = 1 by omega])
  have e1 := H.1.one (.inl (Nat.le_refl _))
  have hr2 : St lt ix (a + (i - (a + 1))) b d' := fun p q p1 p2 p3 => by
    by_cases hq : q < i
    · omega
    · by_cases hp : p = a + (i - (a + 1))
      · rw [ht, ht, src_back _ _ _ _ (by omega) (by omega), src_out _ _ _ _ (by omega) (by omega), show p - (i - (a + 1)) = a by omega]
        exact .of_not (hr q (by omega) p3) (h.cross a q (Nat.le_refl _) (by omega) (by omega) p3)
      · exact H.2.1.right p q (by omega) p2 p3
  exact St.glue e1 hr2 H.2.2
/-- One element behind a part that is in order. -/
theorem Two.last {a m i : Nat} {d d' : Array α} (h : Two lt ix a m (m + 1) d) (h1 : a ≤ i) (h2 : i ≤ m) (hl : ∀ k, a ≤ k → k < i → lt d[m]! d[k]! = false) (hr : ∀ k, i ≤ k → k < m → lt d[m]! d[k]! = true) (ht : ∀ k, d'[k]! = d[src m (m - i) 1 k]!) : St lt ix a (m + 1) d' := by
  have H := h.turned (s := i) (e := m + 1) (mid := i + 1) h1 h2 (by omega) (Nat.le_refl _) (by omega) (fun x y x1 x2 => by omega) (fun y x y1 y2 x1 x2 => by
    rw [show y = m by omega]; exact .inl (hr x x1 x2)) (fun k => by rw [ht k, show m + 1 - m = 1 by omega])
  have e1 := H.2.1.one (.inr (Nat.le_refl _))
  have hl2 : St lt ix a (i + 1) d' := fun p q p1 p2 p3 => by
    by_cases hq : q = i
    · rw [ht, ht, src_out _ _ _ _ (by omega) (by omega), src_fore _ _ _ _ (by omega) (by omega), show q + (m - i) = m by omega]
      exact .of_not (hl p (by omega) (by omega)) (h.cross p m (by omega) (by omega) (Nat.le_refl _) (by omega))
    · exact H.1.left p q p1 p2 (by omega)
  exact St.glue hl2 e1 H.2.2
/-! Insertion, one by one. -/
/-- All but the place j are in order up to i; what stands behind it is behind; what stands ahead of it stood ahead. -/
structure Put1 (lt : α → α → Bool) (ix : α → Nat) (a j i : Nat) (d : Array α) : Prop where
  rest : ∀ p q, a ≤ p → p < q → q ≤ i → p ≠ j → q ≠ j → LL lt ix d[p]! d[q]!
  behind : ∀ q, j < q → q ≤ i → LL lt ix d[j]! d[q]!
  ahead : ∀ p, a ≤ p → p < j → ix d[p]! < ix d[j]!
theorem insInner_St (hS : SWO lt) (a i : Nat) : ∀ (j : Nat) (d : Array α), a ≤ j → j ≤ i → i < d.size → Put1 lt ix a j i d → St lt ix a (i + 1) (insInner lt a j d) ∧ PermIn a (i + 1) d (insInner lt a j d)
  | 0, d, ha, hj, hi, h => by
    rw [insInner]
    refine ⟨fun p q p1 p2 p3 => ?_, permIn_refl _ _ _⟩
    by_cases hp : p = 0
    · rw [hp]; exact h.behind q (by omega) (by omega)
    · exact h.rest p q p1 p2 (by omega) hp (by omega)
  | j + 1, d, ha, hj, hi, h => by
    rw [insInner]
    by_cases hc : (decide (j + 1 > a) && lt d[j + 1]! d[j]!) = true
    · rw [if_pos hc]
      rw [Bool.and_eq_true, decide_eq_true_eq] at hc
      have g1 : (swp d (j + 1) j)[j + 1]! = d[j]! := swp_left _ _ _ (by omega) (by omega)
      have g2 : (swp d (j + 1) j)[j]! = d[j + 1]! := swp_right _ _ _ (by omega)
      have g3 : ∀ k, k ≠ j + 1 → k ≠ j → (swp d (j + 1) j)[k]! = d[k]! := fun k k1 k2 => swp_other _ _ _ _ k1 k2
      have ih := insInner_St hS a i j (swp d (j + 1) j) (by omega) (by omega) (by rw [size_swp]; exact hi) ⟨fun p q p1 p2 p3 p4 p5 => ?_, fun q q1 q2 => ?_, fun p p1 p2 => ?_⟩
      · exact ⟨ih.1, permIn_trans _ _ _ _ _ (swp_permIn d a (i + 1) (j + 1) j (by omega) (by omega) (by omega) (by omega) (by omega)) ih.2⟩
      · by_cases hp : p = j + 1
        · rw [hp, g1, g3 q (by omega) (by omega)]; exact h.rest j q (by omega) (by omega) p3 (by omega) (by omega)
        · rw [g3 p hp p4]
          by_cases hq : q = j + 1
          · rw [hq, g1]; exact h.rest p j p1 (by omega) (by omega) hp (by omega)
          · rw [g3 q hq p5]; exact h.rest p q p1 p2 p3 hp hq
      · rw [g2]
        by_cases hq : q = j + 1
        · rw [hq, g1]; exact .inl hc.2
        · rw [g3 q hq (by omega)]; exact h.behind q (by omega) q2
      · rw [g2, g3 p (by omega) (by omega)]; exact h.ahead p p1 (by omega)
    · rw [if_neg hc]
      refine ⟨fun p q p1 p2 p3 => ?_, permIn_refl _ _ _⟩
      by_cases hp : p = j + 1
      · rw [hp]; exact h.behind q (by omega) (by omega)
      · by_cases hq : q = j + 1
        · rw [hq]
          have hlt : lt d[j + 1]! d[j]! = false := by
            rw [Bool.and_eq_true, decide_eq_true_eq] at hc
            exact Bool.eq_false_iff.2 (fun e => hc ⟨by omega, e⟩)
          have hj1 : LL lt ix d[j]! d[j + 1]! := .of_not hlt (h.ahead j (by omega) (by omega))
          by_cases hpj : p = j
          · rw [hpj]; exact hj1
          · exact (h.rest p j p1 (by omega) (by omega) hp (by omega)).trans hS hj1
        · exact h.rest p q p1 p2 (by omega) hp hq
theorem insOuter_St (hS : SWO lt) (a b : Nat) : ∀ (n i : Nat) (d : Array α), b - i = n → a < i → i ≤ b → b ≤ d.size → St lt ix a i d → (∀ p q, a ≤ p → p < q → i ≤ q → q < b → ix d[p]! < ix d[q]!) → St lt ix a b (insOuter lt a b i d) ∧ PermIn a b d (insOuter lt a b i d)
  | 0, i, d, hn, _, hib, _, hs, _ => by
    rw [insOuter, if_neg (by omega)]
    exact ⟨hs.le (Nat.le_refl _) (by omega), permIn_refl _ _ _⟩
  | n + 1, i, d, hn, hai, hib, hb, hs, hx => by
    rw [insOuter, if_pos (by omega)]
    have h1 := insInner_St hS a i i d (by omega) (Nat.le_refl _) (by omega) ⟨fun p q p1 p2 p3 p4 p5 => hs p q p1 p2 (by omega), fun q q1 q2 => by omega, fun p p1 p2 => hx p i p1 p2 (Nat.le_refl _) (by omega)⟩
    have h2 := insOuter_St hS a b n (i + 1) (insInner lt a i d) (by omega) (by omega) (by omega) (by rw [h1.2.1]; exact hb) h1.1 (fun p q p1 p2 p3 p4 => by
      rw [h1.2.2.1 q (by omega)]
      by_cases hp : p < i + 1
      · exact permIn_all d _ a (i + 1) (fun e => ix e < ix d[q]!) (by omega) h1.2 (fun k k1 k2 => hx k q k1 (by omega) (by omega) p4) p p1 hp
      · rw [h1.2.2.1 p (by omega)]; exact hx p q p1 p2 (by omega) p4)
    exact ⟨h2.1, permIn_trans _ _ _ _ _ (permIn_mono d _ a (i + 1) a b (Nat.le_refl _) (by omega) hb h1.2) h2.2⟩
theorem insertion_St (hS : SWO lt) (a b : Nat) (d : Array α) (hab : a ≤ b) (hb : b ≤ d.size) (hx : ∀ p q, a ≤ p → p < q → q < b → ix d[p]! < ix d[q]!) : St lt ix a b (insertionSort lt d a b) ∧ PermIn a b d (insertionSort lt d a b) := by
  rw [insertionSort]
  by_cases h : a + 1 ≤ b
  · exact insOuter_St hS a b _ (a + 1) d rfl (by omega) h hb (St.short (Nat.le_refl _)) (fun p q p1 p2 p3 p4 => hx p q p1 p2 p4)
  · rw [insOuter, if_neg (by omega)]
    exact ⟨St.short (by omega), permIn_refl _ _ _⟩
end
end Go.Proofs.YtkaeoflgnnlbeaaGreatDoor
/- What is proved: what the library's insertion sort, its change of two ranges and its turning about of two parts make of a list of entries. Conditions: the list lies in a block; the comparison's contract. -/
namespace Go.Proofs.YtkaeoflgnnlbeaaGreatDoor
open Go.Shelf Go.RowKit Go.Lib Go.Sort
set_option linter.unusedVariables false
def insEnts_ren : Go.Shelf.Ren := ⟨fun | 20 => 227 | n => n, fun | 22 => 184 | 24 => 212 | 25 => 263 | 3 => 3 | 0 => 0 | 4 => 4 | n => n, fun | n => n⟩
theorem insEnts : Go.Proofs.SlLaysF0.n20 Tryz.prog insEnts_ren := {
  mixed := by kernel_rfl
  f20 := ⟨Tryz.f227.name, by decide, Tryz.func227.trans (congrArg some (by kernel_rfl))⟩
  t0 := Tryz.underlying0
  a0 := Tryz.isAgg0
  z0 := Tryz.sizeOf0
  v0 := Tryz.zeroValue0
  t3 := Tryz.underlying3
  a3 := Tryz.isAgg3
  z3 := Tryz.sizeOf3
  v3 := Tryz.zeroValue3
  t4 := Tryz.underlying4
  a4 := Tryz.isAgg4
  z4 := Tryz.sizeOf4
  v4 := Tryz.zeroValue4
  t22 := Tryz.underlying184
  a22 := Tryz.isAgg184
  z22 := Tryz.sizeOf184
  v22 := Tryz.zeroValue184
  t25 := Tryz.underlying263
  a25 := Tryz.isAgg263
  z25 := Tryz.sizeOf263
  v25 := Tryz.zeroValue263 }
section
variable {α : Type} [Inhabited α]
/-- A world of the sort's, as one more sort's start. -/
theorem cmp_from {g : Nat} {cb : Array Value} {enc : α → List Value} {k : Nat} {cf : α → α → Int} {blk off : Nat} {d0 d : Array α} {w0 w : World} (h : CmpLays Tryz.prog g cb enc k cf blk off d0.size w0) (R : RowK enc k w0 blk off d0) (S : SWK enc k w0 blk off d w) (hs : d.size = d0.size) : CmpLays Tryz.prog g cb enc k cf blk off d.size w := by
  intro m os dk hdk x y
  obtain ⟨m2, os2, e⟩ := S.on R.hblk m dk os hdk
  rw [e]
  exact h m2 os2 dk (hdk.trans hs) x y
/-- Insertion, from a world of the sort's to a world of the sort's. -/
theorem Ginsertion_any (enc : α → List Value) (cf : α → α → Int) (g : Nat) (cb : Array Value) (blk off cap a b : Nat) (d0 d : Array α) (w0 w : World)
    (eg : ∀ args w, (callFunc g args).run Tryz.prog w = .ok (.enter g args) w) (hcmp : CmpLays Tryz.prog g cb enc 34 cf blk off d0.size w0) (R : RowK enc 34 w0 blk off d0) (hs : d0.size = d.size) (S : SWK enc 34 w0 blk off d w) (hO : SWO (ltOf cf)) (ix : α → Nat) (hx : ∀ p q, a ≤ p → p < q → q < b → ix d[p]! < ix d[q]!) (hab : a ≤ b) (hb : b ≤ d.size) (hsz : d.size < 4611686018427387904) :
    Calls Tryz.prog 227 #[.slice (some ⟨blk, off, none⟩) d.size cap, .int .i64 a, .int .i64 b, .func (.func g) #[] cb] w fun e w' => e = .returned (.tuple #[]) ∧ ∃ d', SWK enc 34 w0 blk off d' w' ∧ St (ltOf cf) ix a b d' ∧ PermIn a b d d' := by
  have hSt := insertion_St hO a b d hab hb hx
  have aE : ∀ w, (isAgg 212).run Tryz.prog w = .ok true w := fun _ => by kernel_rfl
  have zE : ∀ w, (Go.sizeOf 212).run Tryz.prog w = .ok 34 w := fun _ => by kernel_rfl
  have hcon := AnyQ.insertionSortCmpFunc insEnts 34 aE zE enc R.hk R.h1 cf g cb blk off cap a b d w eg (cmp_from hcmp R S hs.symm) (S.holds R.hblk R.hH hs.symm) (S.lt R.hblk) hab hb hsz
  refine Calls.mono hcon ?_
  rintro e w' ⟨he, n, os, rfl⟩
  exact ⟨he, _, S.on R.hblk n _ os hSt.2.1, hSt.1, hSt.2⟩
set_option maxHeartbeats 4000000 in
set_option maxRecDepth 1000000 in
/-- Two ranges change places. -/
theorem GswapRange_any (enc : α → List Value) (g : Nat) (cb : Array Value) (blk off cap a b n : Nat) (d0 d : Array α) (w0 w : World)
    (R : RowK enc 34 w0 blk off d0) (hs : d0.size = d.size) (S : SWK enc 34 w0 blk off d w) (hab : a + n ≤ b) (hb : b + n ≤ d.size) (hsz : d.size < 4611686018427387904) :
    Calls Tryz.prog 230 #[.slice (some ⟨blk, off, none⟩) d.size cap, .int .i64 a, .int .i64 b, .int .i64 n, .func (.func g) #[] cb] w fun e w' => e = .returned (.tuple #[]) ∧
      ∃ d', SWK enc 34 w0 blk off d' w' ∧ PermIn a (b + n) d d' ∧ ∀ k, d'[k]! = d[sw a b n k]! := by
  obtain ⟨T, hT⟩ : ∃ T : TypeId, T = 212 := ⟨_, rfl⟩
  obtain ⟨kn, hk⟩ : ∃ n : Nat, n = 34 := ⟨_, rfl⟩
  have aE : ∀ w, (isAgg T).run Tryz.prog w = .ok true w := by rw [hT]; exact fun _ => by kernel_rfl
  have zE : ∀ w, (sizeOf T).run Tryz.prog w = .ok kn w := by rw [hT, hk]; exact fun _ => by kernel_rfl
  have HK := Lib.hid hk
  have mixed : Tryz.prog.follows .mixedOrders = true := by kernel_rfl
  have S0 : Aside (SWK enc 34 w0 blk off d w) := S
  clear S hk
  go_enter Tryz.func230, Tryz.ntmps230
  rw [show Op.load 212 (.tmp 28) = Op.load T (.tmp 28) by rw [hT], show Op.load 212 (.tmp 34) = Op.load T (.tmp 34) by rw [hT], show Op.store 212 (.tmp 36) (.tmp 29) = Op.store T (.tmp 36) (.tmp 29) by rw [hT], show Op.store 212 (.tmp 37) (.tmp 35) = Op.store T (.tmp 37) (.tmp 35) by rw [hT]]
  clear hT
  go_wp2
  go_loopg [10] n (fun kx s10 wr => ∃ (i : Nat) (dk : Array α), s10 = .int .i64 i ∧ i ≤ n ∧ n - i ≤ kx ∧ dk.size = d.size ∧ Aside (SWK enc 34 w0 blk off dk wr) ∧ Hid (PermIn a (b + n) d dk) ∧ Hid (∀ k, dk[k]! = d[sw a b i k]!))
  case atStart => exact ⟨0, d, rfl, Nat.zero_le _, by omega, rfl, S0, Lib.hid (permIn_refl _ _ _), Lib.hid (fun k => by rw [sw_zero])⟩
  case round =>
    clear S0
    obtain ⟨i, dk, rfl, hi, hkx, hds, S1, HP, HW⟩ := hrel
    by_cases hlt : i < n
    · have hltz : (i : Int) < (n : Int) := by omega
      go_wp2_with fail
      have ea44 : ((a : Int) + (i : Int)).toNat = a + i := by omega
      have pa44 : (0 : Int) ≤ (a : Int) + (i : Int) := by omega
      have ba44 : (a : Int) + (i : Int) < (d.size : Int) := by omega
      have ra44 : IntKind.i64.wrap ((a : Int) + (i : Int)) = (a : Int) + (i : Int) := by rw [IntKind.wrap_i64]; omega
      have ec44 : ((b : Int) + (i : Int)).toNat = b + i := by omega
      have pc44 : (0 : Int) ≤ (b : Int) + (i : Int) := by omega
      have bc44 : (b : Int) + (i : Int) < (d.size : Int) := by omega
      have rc44 : IntKind.i64.wrap ((b : Int) + (i : Int)) = (b : Int) + (i : Int) := by rw [IntKind.wrap_i64]; omega
      have S2 : Aside (SWK enc 34 w0 blk off (swp dk (a + i) (b + i)) ((wr.drew.setCells blk (off + (a + i) * 34) (enc dk[b + i]!)).setCells blk (off + (b + i) * 34) (enc dk[a + i]!))) := S1.out.swapped R (a + i) (b + i) (by omega) (by omega)
      have l44a := S1.out.ld1 R (by omega) Tryz.prog (a + i) (by omega)
      have l44b := S1.out.ld1 R (by omega) Tryz.prog (b + i) (by omega)
      have s44a := S1.out.st1 R (by omega) Tryz.prog (a + i) (by omega) dk[b + i]!
      have s44b := S1.out.st2 R (by omega) Tryz.prog (a + i) (b + i) (by omega) (by omega) dk[b + i]! dk[a + i]!
      have n44a : (enc dk[a + i]!).length = kn := by rw [HK.out]; exact R.hk _
      have n44b : (enc dk[b + i]!).length = kn := by rw [HK.out]; exact R.hk _
      generalize enc dk[a + i]! = cI44 at S2 l44a s44b n44a
      generalize enc dk[b + i]! = cJ44 at S2 l44b s44a s44b n44b
      have l1 : Sem.run Tryz.prog (loadCellsFrom ⟨blk, off + (a + i) * 34, none⟩ 0 kn #[]) wr.drew = .ok cI44.toArray wr.drew := by rw [HK.out]; exact l44a
      have l2 : Sem.run Tryz.prog (loadCellsFrom ⟨blk, off + (b + i) * 34, none⟩ 0 kn #[]) wr.drew = .ok cJ44.toArray wr.drew := by rw [HK.out]; exact l44b
      clear S1 l44a l44b
      go_wp2_with fail
      go_big_region_o
      clear l1 l2 s44a s44b
      generalize (wr.drew.setCells blk (off + (a + i) * 34) cJ44).setCells blk (off + (b + i) * 34) cI44 = w2 at S2 ⊢
      go_wp2
      go_roundg (n - (i + 1))
      case measure => omega
      case rel => exact ⟨i + 1, swp dk (a + i) (b + i), by simp, by omega, Nat.le_refl _, by rw [size_swp]; exact hds, S2, Lib.hid (permIn_trans _ _ _ _ _ HP.out (swp_permIn dk a (b + n) (a + i) (b + i) (by omega) (by omega) (by omega) (by omega) (by omega))), Lib.hid (sw_step d dk a b i (by omega) (by omega) HW.out)⟩
    · have hltz : ¬ ((i : Int) < (n : Int)) := by omega
      go_wp2
      go_end0
      obtain rfl : i = n := by omega
      exact ⟨rfl, dk, S1.out, HP.out, HW.out⟩
set_option maxHeartbeats 4000000 in
set_option maxRecDepth 1000000 in
/-- Two parts change places. -/
theorem Grotate_any (enc : α → List Value) (g : Nat) (cb : Array Value) (blk off cap a m b : Nat) (d0 d : Array α) (w0 w : World)
    (R : RowK enc 34 w0 blk off d0) (hs : d0.size = d.size) (S : SWK enc 34 w0 blk off d w) (ham : a < m) (hmb : m < b) (hb : b ≤ d.size) (hsz : d.size < 4611686018427387904) :
    Calls Tryz.prog 229 #[.slice (some ⟨blk, off, none⟩) d.size cap, .int .i64 a, .int .i64 m, .int .i64 b, .func (.func g) #[] cb] w fun e w' => e = .returned (.tuple #[]) ∧
      ∃ d', SWK enc 34 w0 blk off d' w' ∧ PermIn a b d d' ∧ ∀ k, d'[k]! = d[src m (m - a) (b - m) k]! := by
  have S0 : Aside (SWK enc 34 w0 blk off d w) := S
  clear S
  go_enter Tryz.func229, Tryz.ntmps229
  go_wp2
  go_loopg [10, 11] (b - a) (fun kx s10 s11 wr => ∃ (i j : Nat) (dk : Array α), s10 = .int .i64 i ∧ s11 = .int .i64 j ∧ 0 < i ∧ 0 < j ∧ i ≤ m - a ∧ j ≤ b - m ∧ i + j ≤ kx ∧ dk.size = d.size ∧ Aside (SWK enc 34 w0 blk off dk wr) ∧ Hid (PermIn a b d dk) ∧ Hid (∀ k, dk[src m i j k]! = d[src m (m - a) (b - m) k]!))
  case atStart => exact ⟨m - a, b - m, d, by go_num, by go_num, by omega, by omega, by omega, by omega, by omega, rfl, S0, Lib.hid (permIn_refl _ _ _), Lib.hid (fun k => rfl)⟩
  case round =>
    clear S0
    obtain ⟨i, j, dk, rfl, rfl, hi0, hj0, hi, hj, hkx, hds, S1, HP, HW⟩ := hrel
    have em : (m : Int) - (i : Int) = ((m - i : Nat) : Int) := by omega
    have emj : (m : Int) + (j : Int) - (i : Int) = ((m + j - i : Nat) : Int) := by omega
    have hso : dk.size = d.size := hds
    by_cases hij : i = j
    · subst hij
      have hc := GswapRange_any enc g cb blk off cap (m - i) m i d0 dk w0 wr R (by omega) S1.out (by omega) (by omega) (by omega)
      rw [hds] at hc
      have HC := Lib.hid hc
      clear hc
      go_wp2_with (go_at_call 230; refine HC.out.mono ?_; rintro e w' ⟨rfl, d', S2, hp, hw⟩)
      go_end0
      exact ⟨rfl, d', S2, permIn_trans _ _ _ _ _ HP.out (permIn_mono _ _ _ _ _ _ (by omega) (by omega) (by omega) hp), fun k => by rw [hw, sw_even m i k (by omega)]; exact HW.out k⟩
    · have hne : ¬ ((i : Int) = (j : Int)) := by omega
      by_cases hlt : j < i
      · have hltz : (j : Int) < (i : Int) := by omega
        have hc := GswapRange_any enc g cb blk off cap (m - i) m j d0 dk w0 wr R (by omega) S1.out (by omega) (by omega) (by omega)
        rw [hds] at hc
        have HC := Lib.hid hc
        clear hc
        go_wp2_with (go_at_call 230; refine HC.out.mono ?_; rintro e w' ⟨rfl, d', S2, hp, hw⟩)
        go_roundg (i - j + j)
        case measure => omega
        case rel => exact ⟨i - j, j, d', by go_num, rfl, by omega, by omega, by omega, by omega, Nat.le_refl _, hp.1.trans hds, S2, Lib.hid (permIn_trans _ _ _ _ _ HP.out (permIn_mono _ _ _ _ _ _ (by omega) (by omega) (by omega) hp)), Lib.hid (fun k => by rw [hw, sw_more m i j k (by omega) hlt]; exact HW.out k)⟩
      · have hltz : ¬ ((j : Int) < (i : Int)) := by omega
        have hc := GswapRange_any enc g cb blk off cap (m - i) (m + j - i) i d0 dk w0 wr R (by omega) S1.out (by omega) (by omega) (by omega)
        rw [hds] at hc
        have HC := Lib.hid hc
        clear hc
        go_wp2_with (go_at_call 230; refine HC.out.mono ?_; rintro e w' ⟨rfl, d', S2, hp, hw⟩)
        go_roundg (i + (j - i))
        case measure => omega
        case rel => exact ⟨i, j - i, d', rfl, by go_num, by omega, by omega, by omega, by omega, Nat.le_refl _, hp.1.trans hds, S2, Lib.hid (permIn_trans _ _ _ _ _ HP.out (permIn_mono _ _ _ _ _ _ (by omega) (by omega) (by omega) hp)), Lib.hid (fun k => by rw [hw, sw_less m i j k (by omega) (by omega)]; exact HW.out k)⟩
end
end Go.Proofs.YtkaeoflgnnlbeaaGreatDoor

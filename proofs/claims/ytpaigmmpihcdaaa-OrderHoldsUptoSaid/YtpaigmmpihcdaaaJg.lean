/- What is proved: plain facts on the document's orders: each node that was asked for stands there once, and in those with children ahead no parent stands ahead of its child. Conditions: parents stand below. -/
import Derived.Test.YtpaigmmpihcdaaaJd
namespace Go.Proofs.Ytpaigmmpihcdaaa
set_option linter.unusedVariables false

/-- No one stands ahead of a child. -/
def Ahead (pr : Nat → List Nat) (l : List Nat) : Prop := l.Pairwise (fun x y => ¬ x ∈ pr y)
theorem outB_true {left : Nat → Bool} {n k : Nat} (h : outB left n k = true) : left k = true ∧ k ≠ n := by
  unfold outB at h
  split at h
  · cases h
  · rename_i e; exact ⟨h, e⟩
theorem cnt_zero {left : Nat → Bool} {N : Nat} (h : ∀ k, k < N → left k = false) : cnt left N = 0 := by
  unfold cnt selB
  rw [List.filter_eq_nil_iff.2 (fun k hk => by rw [h k (List.mem_range.1 hk)]; decide)]
  rfl
theorem no_ready {pr : Nat → List Nat} {N : Nat} (hD : Dn pr N) {left : Nat → Bool} (h : ∀ k, k < N → rdyB pr N left k = false) : ∀ k, k < N → left k = false := by
  have key : ∀ d k, k < N → N - k ≤ d → left k = false := by
    intro d
    induction d with
    | zero => intro k h1 h2; omega
    | succ d ih =>
      intro k hk hd
      rw [Bool.eq_false_iff]
      intro hl
      have hr := h k hk
      rw [Bool.eq_false_iff] at hr
      refine hr ((rdyB_iff pr N left k).2 ⟨hl, fun m hm hlm hkm => ?_⟩)
      have h1 := hD m hm k hkm
      rw [ih m hm (by omega)] at hlm
      cases hlm
  exact fun k hk => key (N - k) k hk (Nat.le_refl _)
theorem takeY_all {pick : (Nat → Bool) → Option Nat} {N : Nat} (hm : ∀ left n, pick left = some n → n < N ∧ left n = true) (hn : ∀ left, pick left = none → ∀ k, k < N → left k = false) : ∀ c left, cnt left N = c → (takeY pick c left).length = c ∧ ∀ x, x < N → left x = true → x ∈ takeY pick c left
  | 0, left, h => by
    refine ⟨rfl, fun x hx hl => ?_⟩
    exfalso
    have := cnt_out left x N hx hl
    omega
  | c + 1, left, h => by
    rw [takeY]
    cases hp : pick left with
    | none =>
      exfalso
      rw [cnt_zero (hn left hp)] at h
      cases h
    | some n =>
      obtain ⟨h1, h2⟩ := hm left n hp
      have h3 := cnt_out left n N h1 h2
      obtain ⟨k1, k2⟩ := takeY_all hm hn c (outB left n) (by omega)
      simp only
      refine ⟨by rw [List.length_cons, k1], fun x hx hl => ?_⟩
      by_cases e : x = n
      · rw [e]; simp
      · exact List.mem_cons_of_mem _ (k2 x hx (by unfold outB; rw [if_neg e]; exact hl))
theorem pickP_none {t : Nat → Int} {N : Nat} (left : Nat → Bool) (h : pickP t N left = none) : ∀ k, k < N → left k = false := yng_none _ _ N h
theorem pickD_none {pr : Nat → List Nat} {t : Nat → Int} {N : Nat} (hD : Dn pr N) (left : Nat → Bool) (h : pickD pr t N left = none) : ∀ k, k < N → left k = false := no_ready hD (yng_none _ _ N h)
theorem takeD_ahead {pr : Nat → List Nat} {t : Nat → Int} {N : Nat} : ∀ c left, Ahead pr (takeY (pickD pr t N) c left)
  | 0, left => List.Pairwise.nil
  | c + 1, left => by
    rw [takeY]
    cases hp : pickD pr t N left with
    | none => exact List.Pairwise.nil
    | some n =>
      refine List.pairwise_cons.2 ⟨fun y hy hny => ?_, takeD_ahead c (outB left n)⟩
      obtain ⟨h1, h2⟩ := (takeY_in (N := N) (fun left n h => pickD_mem h) c (outB left n)).1 y hy
      have h3 := (outB_true h2).1
      have h4 := (yng_mem _ _ N n hp).2
      exact ((rdyB_iff pr N left n).1 h4).2 y h1 h3 hny
theorem topo_in {pr : Nat → List Nat} {N : Nat} (hD : Dn pr N) (hN : ∀ n, n < N → (pr n).Nodup) : ∀ c s left, Stk pr N left s → (∀ x ∈ topoF pr N c s left, x < N ∧ left x = true) ∧ (topoF pr N c s left).Nodup ∧ Ahead pr (topoF pr N c s left)
  | 0, s, left, _ => ⟨fun x hx => by simp [topoF] at hx, by simp [topoF], List.Pairwise.nil⟩
  | c + 1, [], left, _ => ⟨fun x hx => by simp [topoF] at hx, by simp [topoF], List.Pairwise.nil⟩
  | c + 1, n :: s, left, h => by
    have h0 := (h.rd n (by simp))
    obtain ⟨h1, h2, h3⟩ := Stk.step hD (hN n h0.1) h
    obtain ⟨k1, k2, k3⟩ := topo_in hD hN c (pushL pr N left n ++ s) (outB left n) h3
    rw [topoF]
    refine ⟨fun x hx => ?_, List.nodup_cons.2 ⟨fun hx => ?_, k2⟩, List.pairwise_cons.2 ⟨fun y hy hny => ?_, k3⟩⟩
    · rw [List.mem_cons] at hx
      rcases hx with rfl | hx
      · exact ⟨h1, h2⟩
      · exact ⟨(k1 x hx).1, (outB_true (k1 x hx).2).1⟩
    · exact (outB_true (k1 n hx).2).2 rfl
    · exact ((rdyB_iff pr N left n).1 h0.2).2 y (k1 y hy).1 (outB_true (k1 y hy).2).1 hny
theorem topo_all {pr : Nat → List Nat} {N : Nat} (hD : Dn pr N) (hN : ∀ n, n < N → (pr n).Nodup) : ∀ c s left, cnt left N = c → Stk pr N left s → (∀ x, x < N → rdyB pr N left x = true → x ∈ s) → (topoF pr N c s left).length = c
  | 0, s, left, _, _, _ => rfl
  | c + 1, [], left, h, _, ha => by
    exfalso
    have : ∀ k, k < N → rdyB pr N left k = false := fun k hk => by
      rw [Bool.eq_false_iff]; intro e; exact absurd (ha k hk e) (by simp)
    rw [cnt_zero (no_ready hD this)] at h
    cases h
  | c + 1, n :: s, left, h, hs, ha => by
    have h0 := (hs.rd n (by simp))
    obtain ⟨h1, h2, h3⟩ := Stk.step hD (hN n h0.1) hs
    have h4 := cnt_out left n N h1 h2
    rw [topoF, List.length_cons, topo_all hD hN c (pushL pr N left n ++ s) (outB left n) (by omega) h3 (fun x hx hr => ?_)]
    rw [List.mem_append]
    by_cases e : rdyB pr N left x = true
    · have h5 := ha x hx e
      rw [List.mem_cons] at h5
      rcases h5 with rfl | h5
      · exact absurd rfl (outB_true ((rdyB_iff pr N (outB left x) x).1 hr).1).2
      · exact .inr h5
    · refine .inl ?_
      unfold pushL
      rw [List.mem_filter]
      refine ⟨?_, hr⟩
      apply Classical.byContradiction
      intro hn
      obtain ⟨h5, h6⟩ := (rdyB_iff pr N (outB left n) x).1 hr
      refine e ((rdyB_iff pr N left x).2 ⟨(outB_true h5).1, fun m hm hl hxm => ?_⟩)
      by_cases e2 : m = n
      · subst e2; exact hn hxm
      · exact h6 m hm (by unfold outB; rw [if_neg e2]; exact hl) hxm
/-- What the three orders have. -/
theorem plain_holds (t : Nat → Int) (N : Nat) (l : List Nat) : (∀ x ∈ plainL t N l, x < N ∧ x ∈ l) ∧ (plainL t N l).Nodup ∧ (plainL t N l).length = cnt (fun k => decide (k ∈ l)) N := by
  have h1 := takeY_in (N := N) (pick := pickP t N) (fun left n h => pickP_mem h) (cnt (fun k => decide (k ∈ l)) N) (fun k => decide (k ∈ l))
  exact ⟨fun x hx => ⟨(h1.1 x hx).1, by simpa using (h1.1 x hx).2⟩, h1.2, (takeY_all (fun left n h => pickP_mem h) (fun left h => pickP_none left h) _ _ rfl).1⟩
theorem date_holds {pr : Nat → List Nat} (t : Nat → Int) {N : Nat} (hD : Dn pr N) (l : List Nat) : (∀ x ∈ dateL pr t N l, x < N ∧ x ∈ l) ∧ (dateL pr t N l).Nodup ∧ Ahead pr (dateL pr t N l) ∧ (dateL pr t N l).length = cnt (fun k => decide (k ∈ l)) N := by
  have h1 := takeY_in (N := N) (pick := pickD pr t N) (fun left n h => pickD_mem h) (cnt (fun k => decide (k ∈ l)) N) (fun k => decide (k ∈ l))
  exact ⟨fun x hx => ⟨(h1.1 x hx).1, by simpa using (h1.1 x hx).2⟩, h1.2, takeD_ahead _ _, (takeY_all (fun left n h => pickD_mem h) (fun left h => pickD_none hD left h) _ _ rfl).1⟩
theorem topo_holds {pr : Nat → List Nat} (t : Nat → Int) {N : Nat} (hD : Dn pr N) (hN : ∀ n, n < N → (pr n).Nodup) (l : List Nat) : (∀ x ∈ topoL pr t N l, x < N ∧ x ∈ l) ∧ (topoL pr t N l).Nodup ∧ Ahead pr (topoL pr t N l) ∧ (topoL pr t N l).length = cnt (fun k => decide (k ∈ l)) N := by
  have hs := stk_start pr t N (fun k => decide (k ∈ l)) (cnt (rdyB pr N (fun k => decide (k ∈ l))) N)
  have h1 := topo_in hD hN (cnt (fun k => decide (k ∈ l)) N) _ _ hs
  exact ⟨fun x hx => ⟨(h1.1 x hx).1, by simpa using (h1.1 x hx).2⟩, h1.2.1, h1.2.2, topo_all hD hN _ _ _ rfl hs (fun x hx hr => (takeY_all (fun left n h => pickP_mem h) (fun left h => pickP_none left h) _ _ rfl).2 x hx hr)⟩
end Go.Proofs.Ytpaigmmpihcdaaa

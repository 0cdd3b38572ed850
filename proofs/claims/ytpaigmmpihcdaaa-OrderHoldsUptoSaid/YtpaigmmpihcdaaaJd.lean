/- What is proved: Topo of the document: line by line, from a pile. Conditions: the cells are there, the graph right, the numbers nodes'. -/
import Derived.Test.YtpaigmmpihcdaaaJc
namespace Go.Proofs.Ytpaigmmpihcdaaa
open Go.RowKit Go.Shelf
set_option linter.unusedVariables false

theorem rdyB_iff (pr : Nat → List Nat) (N : Nat) (left : Nat → Bool) (k : Nat) : rdyB pr N left k = true ↔ left k = true ∧ ∀ m, m < N → left m = true → ¬ k ∈ pr m := by
  unfold rdyB rdyTo
  rw [Bool.and_eq_true, Bool.not_eq_true', List.any_eq_false]
  refine and_congr_right fun _ => ⟨fun h m hm hl hk => ?_, fun h m hm hk => ?_⟩
  · have := h m (List.mem_range.2 hm)
    simp [hl, hk] at this
  · rw [Bool.and_eq_true, decide_eq_true_eq] at hk
    exact h m (List.mem_range.1 hm) hk.1 hk.2
/-- A pile, its top first: all on it are ready, each once. -/
structure Stk (pr : Nat → List Nat) (N : Nat) (left : Nat → Bool) (s : List Nat) : Prop where
  rd : ∀ x ∈ s, x < N ∧ rdyB pr N left x = true
  nd : s.Nodup
def pushL (pr : Nat → List Nat) (N : Nat) (left : Nat → Bool) (n : Nat) : List Nat := (pr n).filter (rdyB pr N (outB left n))
theorem Stk.step {pr : Nat → List Nat} {N : Nat} (hD : Dn pr N) {left : Nat → Bool} {n : Nat} {s : List Nat} (hN : (pr n).Nodup) (h : Stk pr N left (n :: s)) : n < N ∧ left n = true ∧ Stk pr N (outB left n) (pushL pr N left n ++ s) := by
  obtain ⟨h1, h2⟩ := h.rd n (by simp)
  have hl := ((rdyB_iff pr N left n).1 h2).1
  have hnd := List.nodup_cons.1 h.nd
  refine ⟨h1, hl, ⟨fun x hx => ?_, ?_⟩⟩
  · rw [List.mem_append] at hx
    rcases hx with hx | hx
    · unfold pushL at hx
      rw [List.mem_filter] at hx
      have := hD n h1 x hx.1
      exact ⟨by omega, hx.2⟩
    · obtain ⟨k1, k2⟩ := h.rd x (by simp [hx])
      refine ⟨k1, (rdyB_iff pr N (outB left n) x).2 ?_⟩
      obtain ⟨k3, k4⟩ := (rdyB_iff pr N left x).1 k2
      have hne : x ≠ n := fun e => hnd.1 (by rw [← e]; exact hx)
      refine ⟨by unfold outB; rw [if_neg hne]; exact k3, fun m hm hlm => k4 m hm ?_⟩
      unfold outB at hlm
      split at hlm
      · cases hlm
      · exact hlm
  · rw [List.nodup_append]
    refine ⟨hN.sublist List.filter_sublist, hnd.2, fun x hx y hy e => ?_⟩
    subst e
    unfold pushL at hx
    rw [List.mem_filter] at hx
    obtain ⟨_, k2⟩ := h.rd x (by simp [hy])
    exact ((rdyB_iff pr N left x).1 k2).2 n h1 hl hx.1
def topoF (pr : Nat → List Nat) (N : Nat) : Nat → List Nat → (Nat → Bool) → List Nat
  | 0, _, _ => []
  | c + 1, s, left => match s with | [] => [] | n :: s => n :: topoF pr N c (pushL pr N left n ++ s) (outB left n)
theorem topo_end (pr : Nat → List Nat) (N c : Nat) (left : Nat → Bool) : topoF pr N c [] left = [] := by cases c <;> rfl
theorem topo_step (pr : Nat → List Nat) (N n : Nat) (s : List Nat) (left : Nat → Bool) (hn : n < N) (hl : left n = true) : topoF pr N (cnt left N) (n :: s) left = n :: topoF pr N (cnt (outB left n) N) (pushL pr N left n ++ s) (outB left n) := by
  rw [← cnt_out left n N hn hl, topoF]
def topoL (pr : Nat → List Nat) (t : Nat → Int) (N : Nat) (l : List Nat) : List Nat :=
  topoF pr N (cnt (fun k => decide (k ∈ l)) N) (takeY (pickP t N) (cnt (rdyB pr N (fun k => decide (k ∈ l))) N) (rdyB pr N (fun k => decide (k ∈ l)))) (fun k => decide (k ∈ l))
theorem takeY_in {pick : (Nat → Bool) → Option Nat} {N : Nat} (h : ∀ left n, pick left = some n → n < N ∧ left n = true) : ∀ c left, (∀ x ∈ takeY pick c left, x < N ∧ left x = true) ∧ (takeY pick c left).Nodup
  | 0, left => ⟨fun x hx => by simp [takeY] at hx, by simp [takeY]⟩
  | c + 1, left => by
    rw [takeY]
    cases hp : pick left with
    | none => simp
    | some n =>
      simp only
      obtain ⟨h1, h2⟩ := h left n hp
      obtain ⟨k1, k2⟩ := takeY_in h c (outB left n)
      refine ⟨fun x hx => ?_, List.nodup_cons.2 ⟨fun hn => ?_, k2⟩⟩
      · rw [List.mem_cons] at hx
        rcases hx with rfl | hx
        · exact ⟨h1, h2⟩
        · obtain ⟨k3, k4⟩ := k1 x hx
          refine ⟨k3, ?_⟩
          unfold outB at k4
          split at k4
          · cases k4
          · exact k4
      · have := (k1 n hn).2
        unfold outB at this
        rw [if_pos rfl] at this
        cases this
theorem stk_start (pr : Nat → List Nat) (t : Nat → Int) (N : Nat) (left : Nat → Bool) (c : Nat) : Stk pr N left (takeY (pickP t N) c (rdyB pr N left)) :=
  ⟨fun x hx => (takeY_in (fun left n h => pickP_mem h) c (rdyB pr N left)).1 x hx, (takeY_in (N := N) (fun left n h => pickP_mem h) c (rdyB pr N left)).2⟩
theorem nodup_of_take : ∀ {l : List Int}, (∀ i, i < l.length → (l.take i).contains (l.getD i 0) = false) → l.Nodup := fun {l} h => by
  rw [List.nodup_iff_pairwise_ne, List.pairwise_iff_getElem]
  intro i j hi hj hij e
  have h1 := h j hj
  rw [Bool.eq_false_iff] at h1
  apply h1
  rw [List.contains_iff_mem, List.getD_eq_getElem?_getD, List.getElem?_eq_getElem hj, Option.getD_some, ← e]
  exact List.mem_iff_getElem.2 ⟨i, by rw [List.length_take]; omega, by rw [List.getElem_take]⟩
theorem pr_nodup {G : List Nd} (h : okG G = true) (n : Nat) (hn : n < G.length) : (prG G n).Nodup := by
  unfold okG at h
  rw [Bool.and_eq_true, decide_eq_true_eq, Bool.not_eq_true', List.any_eq_false] at h
  have h1 := h.2 n (List.mem_range.2 hn)
  rw [getD_nd G n hn] at h1
  have h2 : okN n G[n] = true := by simpa using h1
  unfold okN at h2
  rw [Bool.and_eq_true, Bool.and_eq_true, Bool.and_eq_true, decide_eq_true_eq, Bool.not_eq_true', List.any_eq_false] at h2
  have h3 : ∀ i, i < G[n].ps.length → 0 ≤ G[n].ps.getD i 0 ∧ (G[n].ps.take i).contains (G[n].ps.getD i 0) = false := fun i hi => by
    have h4 := h2.2.2.2 i (List.mem_range.2 hi)
    have h5 : badP n G[n].ps i = false := by simpa using h4
    unfold badP at h5
    rw [Bool.or_eq_false_iff, Bool.or_eq_false_iff, decide_eq_false_iff_not, decide_eq_false_iff_not] at h5
    exact ⟨by omega, h5.2.2⟩
  have h6 := nodup_of_take (fun i hi => (h3 i hi).2)
  unfold prG
  rw [getD_nd G n hn, List.nodup_iff_pairwise_ne, List.pairwise_map]
  refine (List.nodup_iff_pairwise_ne.1 h6).imp_of_mem (fun {a b} ha hb hab e => hab ?_)
  have k : ∀ z ∈ G[n].ps, 0 ≤ z := fun z hz => by
    obtain ⟨i, hi, rfl⟩ := List.getElem_of_mem hz
    have := (h3 i hi).1
    rwa [List.getD_eq_getElem?_getD, List.getElem?_eq_getElem hi, Option.getD_some] at this
  have := k a ha
  have := k b hb
  omega
end Go.Proofs.Ytpaigmmpihcdaaa

/- What is proved: plain facts on bytes as entries and entries as bytes: what was put is got, what is got is put as the same bytes. Conditions: none. -/
import Derived.Test.YtcbgpbcfpeanjaaTsg
namespace Go.Proofs.Ytcbgpbcfpeanjaa
open Go.RowKit Go.Sort Go.Shelf
set_option linter.unusedVariables false

theorem getW_err : ∀ (n : Nat) (l : List UInt8) (es : List Ent), l.length ≤ n → (getW l es).2 ≠ 0 → (getW l es).1 = [] := by
  intro n
  induction n with
  | zero =>
    intro l es hl h
    have : l = [] := List.eq_nil_of_length_eq_zero (by omega)
    subst this
    rw [getW_nil] at h ⊢
    exact if_neg h
  | succ n ih =>
    intro l es hl h
    by_cases h0 : l = []
    · subst h0
      rw [getW_nil] at h ⊢
      exact if_neg h
    · by_cases he : errT l = 0
      · rw [getW_step es h0 he] at h ⊢
        exact ih _ _ (by have := restT_lt h0 he; omega) h
      · rw [getW_bad es h0 he]
theorem getW_len : ∀ (n : Nat) (l : List UInt8) (es : List Ent), l.length ≤ n → (getW l es).1.length ≤ es.length + l.length := by
  intro n
  induction n with
  | zero =>
    intro l es hl
    have : l = [] := List.eq_nil_of_length_eq_zero (by omega)
    subst this
    rw [getW_nil]
    show (if chk es = 0 then es else []).length ≤ _
    split <;> simp
  | succ n ih =>
    intro l es hl
    by_cases h0 : l = []
    · subst h0
      rw [getW_nil]
      show (if chk es = 0 then es else []).length ≤ _
      split <;> simp
    · by_cases he : errT l = 0
      · rw [getW_step es h0 he]
        have h1 := restT_lt h0 he
        have := ih (restT l) (es ++ [entT l]) (by omega)
        rw [List.length_append, List.length_singleton] at this
        omega
      · rw [getW_bad es h0 he]
        simp

theorem errT_ok {l : List UInt8} (h0 : l ≠ []) (h : errT l = 0) : modeB (modeT l) = true ∧ 1 < l.length ∧ l.getD 1 0 = 32 ∧ nameB (nm (l.drop 2)) = true ∧ ¬ (bh (l.drop 2)).length < 32 := by
  have hp := List.length_pos_iff.2 h0
  cases h1 : modeB (modeT l) with
  | false => rw [err_mode h1] at h; cases h
  | true =>
    by_cases h2 : l.length = 1
    · rw [err_one h1 h2] at h; cases h
    · by_cases h3 : l.getD 1 0 = 32
      · cases h4 : nameB (nm (l.drop 2)) with
        | false => rw [err_name h1 (by omega) h3 h4] at h; cases h
        | true =>
          by_cases h5 : (bh (l.drop 2)).length < 32
          · rw [err_end h1 (by omega) h3 h4 h5] at h; cases h
          · exact ⟨rfl, by omega, h3, rfl, h5⟩
      · rw [err_blank h1 (by omega) h3] at h; cases h
theorem modeB_iff {m : Int} : modeB m = true ↔ 1 ≤ m ∧ m ≤ 3 := by rw [modeB, Bool.and_eq_true, decide_eq_true_eq, decide_eq_true_eq]
theorem digB_mode {l : List UInt8} (h : modeB (modeT l) = true) : digB (modeT l) = l.getD 0 0 := by
  have h1 := modeB_iff.1 h
  apply UInt8.toNat_inj.1
  have h2 := digB_cell (modeT l) h1.1 h1.2
  have h3 : ((l.getD 0 0).toNat : Int) = 48 + modeT l := by rw [modeT]; omega
  omega
theorem nm_bh {l : List UInt8} (h : bh l ≠ []) : l = nm l ++ [0] ++ bh l := by
  rcases idx0_cases l with ⟨_, _, h1, _⟩ | ⟨m, _, hm, h2, h3, h4, _⟩
  · exact absurd h1 h
  · rw [h2, h3, List.append_assoc, List.singleton_append]
    have h5 : l[m] = 0 := by rw [List.getElem?_eq_getElem hm] at h4; injection h4
    conv => lhs; rw [← List.take_append_drop m l, List.drop_eq_getElem_cons hm, h5]
theorem entT_is {l : List UInt8} (h : errT l = 0) (h0 : l ≠ []) : (entT l).name = nm (l.drop 2) ∧ (entT l).mode = modeT l ∧ (entT l).id = (bh (l.drop 2)).take 32 := by
  obtain ⟨_, _, _, h4, h5⟩ := errT_ok h0 h
  have h1 := name_small h4
  rw [entT, if_pos h, mkEnt, dif_pos ⟨by omega, modeT_range l, by rw [List.length_take]; omega⟩]
  exact ⟨rfl, rfl, rfl⟩
theorem took_bytes {l : List UInt8} (h0 : l ≠ []) (h : errT l = 0) : l = entB (entT l) ++ restT l := by
  obtain ⟨h1, h2, h3, h4, h5⟩ := errT_ok h0 h
  obtain ⟨e1, e2, e3⟩ := entT_is h h0
  have hb : bh (l.drop 2) ≠ [] := fun e => by rw [e] at h5; exact h5 (by decide)
  rw [entB, e1, e2, e3, digB_mode h1, restT, if_pos h]
  have s1 : l = [l.getD 0 0, l.getD 1 0] ++ l.drop 2 := by
    rcases l with _ | ⟨a, _ | ⟨b, l⟩⟩
    · exact absurd rfl h0
    · simp at h2
    · rfl
  conv => lhs; rw [s1, nm_bh hb, ← List.take_append_drop 32 (bh (l.drop 2)), h3]
  simp only [List.append_assoc]
/-- What is got is put as the same bytes. -/
theorem getW_ok : ∀ (n : Nat) (l : List UInt8) (es : List Ent), l.length ≤ n → (getW l es).2 = 0 → chk (getW l es).1 = 0 ∧ ∃ xs, (getW l es).1 = es ++ xs ∧ flatB xs = l := by
  intro n
  induction n with
  | zero =>
    intro l es hl h
    have : l = [] := List.eq_nil_of_length_eq_zero (by omega)
    subst this
    rw [getW_nil] at h ⊢
    have h' : chk es = 0 := h
    rw [if_pos h']
    exact ⟨h', [], by simp, rfl⟩
  | succ n ih =>
    intro l es hl h
    by_cases h0 : l = []
    · subst h0
      rw [getW_nil] at h ⊢
      have h' : chk es = 0 := h
      rw [if_pos h']
      exact ⟨h', [], by simp, rfl⟩
    · by_cases he : errT l = 0
      · rw [getW_step es h0 he] at h ⊢
        obtain ⟨c, xs, e1, e2⟩ := ih _ _ (by have := restT_lt h0 he; omega) h
        refine ⟨c, entT l :: xs, by rw [e1]; simp, ?_⟩
        show entB (entT l) ++ flatB xs = l
        rw [e2, ← took_bytes h0 he]
      · rw [getW_bad es h0 he] at h
        exact absurd h he
theorem put_got (l : List UInt8) (h : (getW l []).2 = 0) : chk (getW l []).1 = 0 ∧ putB (getW l []).1 = l := by
  obtain ⟨c, xs, e1, e2⟩ := getW_ok l.length l [] (Nat.le_refl _) h
  refine ⟨c, ?_⟩
  rw [putB, if_pos c, e1, List.nil_append, e2]

theorem name_zero {n : List UInt8} (h : nameB n = true) : ∀ j : Nat, j < n.length → n[j]? ≠ some 0 := by
  intro j hj e
  have hv : visB n = true := by
    unfold nameB at h
    simp only [Bool.and_eq_true] at h
    exact h.1.1.1.2
  unfold visB at hv
  rw [List.all_eq_true] at hv
  have h1 := hv 0 (List.mem_of_getElem? e)
  revert h1
  decide
theorem nm_ent {n r : List UInt8} (h : nameB n = true) : nm (n ++ 0 :: r) = n ∧ bh (n ++ 0 :: r) = r := by
  have h1 : nm (n ++ 0 :: r) = n := by
    have := nm_of (l := n ++ 0 :: r) (e := n.length) (fun j hj => by rw [List.getElem?_append_left hj]; exact name_zero h j hj) (.inr (by rw [List.getElem?_append_right (Nat.le_refl _)]; simp))
    rw [this]; simp
  refine ⟨h1, ?_⟩
  rw [bh, h1]
  simp
theorem got_put {e : Ent} {r : List UInt8} (hm : modeB e.mode = true) (hn : nameB e.name = true) : errT (entB e ++ r) = 0 ∧ entT (entB e ++ r) = e ∧ restT (entB e ++ r) = r ∧ entB e ++ r ≠ [] := by
  have m13 := modeB_iff.1 hm
  have e0 : entB e ++ r = digB e.mode :: 32 :: (e.name ++ 0 :: (e.id ++ r)) := by simp [entB]
  have hd : (entB e ++ r).drop 2 = e.name ++ 0 :: (e.id ++ r) := by rw [e0]; rfl
  have hmt : modeT (entB e ++ r) = e.mode := by
    rw [e0, modeT]
    have := digB_cell e.mode m13.1 m13.2
    show ((digB e.mode).toNat : Int) - 48 = _
    omega
  obtain ⟨n1, n2⟩ := nm_ent (r := e.id ++ r) hn
  have hne : entB e ++ r ≠ [] := by rw [e0]; simp
  have hbl : ¬ (bh ((entB e ++ r).drop 2)).length < 32 := by rw [hd, n2, List.length_append, e.hi]; omega
  have h1 : errT (entB e ++ r) = 0 := err_ok (by rw [hmt]; exact hm) (by rw [e0]; simp) (by rw [e0]; rfl) (by rw [hd, n1]; exact hn) hbl
  obtain ⟨q1, q2, q3⟩ := entT_is h1 hne
  refine ⟨h1, Ent.same (by rw [q1, hd, n1]) (by rw [q2, hmt]) (by rw [q3, hd, n2]; rw [List.take_append_of_le_length (by rw [e.hi]; exact Nat.le_refl _), List.take_of_length_le (by rw [e.hi]; exact Nat.le_refl _)]), ?_, hne⟩
  rw [restT, if_pos h1, hd, n2, List.drop_append, List.drop_of_length_le (by rw [e.hi]; exact Nat.le_refl _), e.hi]
  simp
theorem getW_flat : ∀ (xs es : List Ent), (∀ e ∈ xs, modeB e.mode = true ∧ nameB e.name = true) → getW (flatB xs) es = getW [] (es ++ xs)
  | [], es, _ => by simp [flatB]
  | e :: xs, es, h => by
    have he := h e (by simp)
    obtain ⟨h1, h2, h3, h4⟩ := got_put (r := flatB xs) he.1 he.2
    have e0 : flatB (e :: xs) = entB e ++ flatB xs := rfl
    rw [e0, getW_step es h4 h1, h2, h3, getW_flat xs _ (fun x hx => h x (by simp [hx]))]
    simp
/-- What was put is got. -/
theorem got_of_put (es : List Ent) (h : chk es = 0) : getW (putB es) [] = (es, 0) := by
  rw [putB, if_pos h, getW_flat es [] (firstBad_ok es (chk_zero h).1), getW_nil, List.nil_append, if_pos h, h]
end Go.Proofs.Ytcbgpbcfpeanjaa

/- What is proved: what the walks of this seat need of layers below, merged out of the texts Tsi (of each just what is needed). Conditions: each theorem names its own. -/
import Derived.Test.YtddckehejdpjcabGreatDoorBo
/- What is proved: plain facts on bytes as entries and entries as bytes: what was put is got, what is got is put as the same bytes. Conditions: none. -/
namespace Go.Proofs.YtddckehejdpjcabGreatDoor
open Go.RowKit Go.Sort Go.Shelf
set_option linter.unusedVariables false
theorem getW_err : ∀ (n : Nat) (l : List UInt8) (es : List Ent), l.length ≤ n → (getW l es).2 ≠ 0 → (getW l es).1 = [] := by
  intro n
  induction n with
  | zero =>
    intro l es hl h
    have : l = [] := List.eq_nil_of_length_eq_zero (by omega)
    subst this
    rw [getW_nil] at h ⊢
    exact if_neg h
  | succ n ih =>
    intro l es hl h
    by_cases h0 : l = []
    · subst h0
      rw [getW_nil] at h ⊢
      exact if_neg h
    · by_cases he : errT l = 0
      · rw [getW_step es h0 he] at h ⊢
        exact ih _ _ (by have := restT_lt h0 he; omega) h
      · rw [getW_bad es h0 he]
theorem getW_len : ∀ (n : Nat) (l : List UInt8) (es : List Ent), l.length ≤ n → (getW l es).1.length ≤ es.length + l.length := by
  intro n
  induction n with
  | zero =>
    intro l es hl
    have : l = [] := List.eq_nil_of_length_eq_zero (by omega)
    subst this
    rw [getW_nil]
    show (if chk es = 0 then es else []).length ≤ _
    split <;> simp
  | succ n ih =>
    intro l es hl
    by_cases h0 : l = []
    · subst h0
      rw [getW_nil]
      show (if chk es = 0 then es else []).length ≤ _
      split <;> simp
    · by_cases he : errT l = 0
      · rw [getW_step es h0 he]
        have h1 := restT_lt h0 he
        have := ih (restT l) (es ++ [entT l]) (by omega)
        rw [List.length_append, List.length_singleton] at this
        omega
      · rw [getW_bad es h0 he]
        simp
end Go.Proofs.YtddckehejdpjcabGreatDoor

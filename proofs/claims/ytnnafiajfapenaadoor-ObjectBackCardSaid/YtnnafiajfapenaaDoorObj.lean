/- What is proved: what the walks of this seat need of layers below, merged out of the texts Obj (of each just what is needed). Conditions: each theorem names its own. -/
import Derived.Test.YtnnafiajfapenaaDoorBn
import Derived.Test.YtnnafiajfapenaaDoorObi
/- What is proved: bytes as a kind and a body, by the document. Conditions: the bytes' cells are there. -/
namespace Go.Proofs.YtnnafiajfapenaaDoor
open Go.RowKit Go.Sort Go.Shelf
set_option linter.unusedVariables false
theorem headT_at {b : List UInt8} {e : Nat} (h1 : ∀ i, i < e → b[i]? ≠ some 0) (h2 : b[e]? = some 0) (h4 : e < 20) :
    headT b = if kindB (blA (b.take e)) = 0 ∨ (numW (blB (b.take e))).2 ≠ 0 then none else some (kindB (blA (b.take e)), (numW (blB (b.take e))).1, b.drop (e + 1)) := by
  have hel : e < b.length := (List.getElem?_eq_some_iff.1 h2).1
  rcases idx0_cases (b.take 20) with ⟨_, _, _, h⟩ | ⟨m, hm, hml, hn, _, h5, h6⟩
  · exact absurd (by rw [List.getElem?_take_of_lt h4]; exact h2) (h e)
  · rw [List.length_take] at hml
    have hme : m = e := by
      rcases Nat.lt_trichotomy m e with h | h | h
      · rw [List.getElem?_take_of_lt (by omega)] at h5
        exact absurd h5 (h1 m h)
      · exact h
      · exact absurd (by rw [List.getElem?_take_of_lt h4]; exact h2) (h6 e h)
    subst hme
    rw [headT, if_neg (by omega), hn, List.take_take, Nat.min_eq_left (by omega), List.length_take, Nat.min_eq_left (by omega)]
theorem bl_at {h : List UInt8} {e : Nat} (h1 : ∀ i, i < e → h[i]? ≠ some 32) (h2 : h[e]? = some 32) : blA h = h.take e ∧ blB h = h.drop (e + 1) := by
  have hel : e < h.length := (List.getElem?_eq_some_iff.1 h2).1
  rcases idx32_cases h with ⟨_, hn, _⟩ | ⟨m, _, hml, e0, hn, _, e1, e2⟩
  · exact absurd rfl (hn 32 (List.mem_of_getElem? h2))
  · have hme : m = e := by
      rcases Nat.lt_trichotomy m e with hh | hh | hh
      · exfalso
        refine h1 m hh ?_
        conv => lhs; rw [e0]
        rw [List.getElem?_append_right (by rw [List.length_take]; omega), List.length_take, Nat.min_eq_left (by omega), Nat.sub_self]
        rfl
      · exact hh
      · exfalso
        refine hn 32 ?_ rfl
        rw [List.mem_take_iff_getElem]
        exact ⟨e, by omega, by have := (List.getElem?_eq_some_iff.1 h2).2; exact this⟩
    subst hme
    exact ⟨e1, e2⟩
theorem numW_nil : (numW []).2 = 12 := by rw [numW_bad (by decide)]
end Go.Proofs.YtnnafiajfapenaaDoor

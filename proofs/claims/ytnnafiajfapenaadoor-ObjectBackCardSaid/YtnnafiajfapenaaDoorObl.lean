/- What is proved: what the walks of this seat need of layers below, merged out of the texts Obl (of each just what is needed). Conditions: each theorem names its own. -/
import Derived.Test.YtnnafiajfapenaaDoorBf
import Derived.Test.YtnnafiajfapenaaDoorObe
import Derived.Test.YtnnafiajfapenaaDoorObj
/- What is proved: plainly: what an object is laid as is taken as that object; what is taken is just what it is laid as. Conditions: none. -/
namespace Go.Proofs.YtnnafiajfapenaaDoor
open Go.RowKit Go.Sort Go.Shelf
set_option linter.unusedVariables false
theorem chkO_small {k : Int} {l : List UInt8} (h : chkO k l = 0) : 1 ≤ k ∧ k ≤ 4 ∧ l.length ≤ 4000 := by
  by_cases hk : k < 1 ∨ 4 < k
  · rw [chkO_bad hk] at h; cases h
  · by_cases h2 : 4000 < l.length
    · rw [chkO_long hk h2] at h; cases h
    · omega
theorem wordB_no {k : Int} : ∀ x ∈ kwordB k, x ≠ 0 ∧ x ≠ 32 := by
  rcases kind_cases k with rfl | rfl | rfl | rfl | ⟨h, _⟩
  · decide
  · decide
  · decide
  · decide
  · rw [wordB_none h]; simp
theorem dec_no (n : Nat) : ∀ x ∈ Lib.decDigits n, x ≠ 0 := fun x hx e => by
  have h := (dec_props n).1
  rw [List.all_eq_true] at h
  have := (isDig_iff x).1 (h x hx)
  rw [e] at this
  exact absurd this.1 (by decide)
theorem numW_dec {n : Nat} (h : n < 1000000000000000) : numW (Lib.decDigits n) = ((n : Int), 0) := by
  have h1 := readN_dec n h
  rcases numW_cases (Lib.decDigits n) with ⟨h2, h3, _⟩ | ⟨h2, _⟩
  · rw [h1] at h2
    injection h2 with h2
    rw [h3, ← h2]
  · rw [h1] at h2; cases h2
theorem get_no {l : List UInt8} {x : UInt8} (h : ∀ y ∈ l, y ≠ x) (i : Nat) : l[i]? ≠ some x := fun e => h x (List.mem_of_getElem? e) rfl
/-- What an object is laid as is taken as that object. -/
theorem split_obj {k : Int} {l : List UInt8} (h : chkO k l = 0) : splitB (objB k l) = (k, l, 0) := by
  obtain ⟨h1, h4, hl⟩ := chkO_small h
  have hd : digS (l.length : Int) = Lib.decDigits l.length := by rw [digS, if_neg (by omega), Int.toNat_natCast]
  have hw := wordB_len k
  have h10 : l.length < 10 ^ 4 := Nat.lt_of_le_of_lt hl (by decide)
  have hdl : (Lib.decDigits l.length).length ≤ 4 := (dec_props l.length).2.2.2.2 4 (by omega) h10
  obtain ⟨D, hD⟩ : ∃ D, Lib.decDigits l.length = D := ⟨_, rfl⟩
  have hdn := dec_no l.length
  have hnw := numW_dec (n := l.length) (by omega)
  have hwn := wordB_no (k := k)
  have hkk := kindB_wordB h1 h4
  have hob : objB k l = (kwordB k ++ 32 :: D) ++ 0 :: l := by rw [objB, if_pos h, headB, hd, hD]; simp
  rw [hD] at hdl hdn hnw
  obtain ⟨W, hW⟩ : ∃ W, kwordB k = W := ⟨_, rfl⟩
  rw [hW] at hw hob hwn hkk
  have hhl : (W ++ 32 :: D).length = W.length + D.length + 1 := by simp; omega
  have hno : ∀ i, i < (W ++ 32 :: D).length → ((W ++ 32 :: D) ++ 0 :: l)[i]? ≠ some 0 := fun i hi => by
    rw [List.getElem?_append_left hi]
    refine get_no (fun y hy => ?_) i
    rw [List.mem_append, List.mem_cons] at hy
    rcases hy with hy | rfl | hy
    · exact (hwn y hy).1
    · decide
    · exact hdn y hy
  have hat : ((W ++ 32 :: D) ++ 0 :: l)[(W ++ 32 :: D).length]? = some 0 := by
    rw [List.getElem?_append_right (Nat.le_refl _), Nat.sub_self]; rfl
  have htk : ((W ++ 32 :: D) ++ 0 :: l).take (W ++ 32 :: D).length = W ++ 32 :: D := List.take_left
  have hdr : ((W ++ 32 :: D) ++ 0 :: l).drop ((W ++ 32 :: D).length + 1) = l := by
    rw [List.drop_append, List.drop_of_length_le (by omega), List.nil_append, Nat.add_sub_cancel_left]; rfl
  have hb := bl_at (h := W ++ 32 :: D) (e := W.length) (fun i hi => by
    rw [List.getElem?_append_left hi]
    exact get_no (fun y hy => (hwn y hy).2) i) (by rw [List.getElem?_append_right (Nat.le_refl _), Nat.sub_self]; rfl)
  have hbA : (W ++ 32 :: D).take W.length = W := List.take_left
  have hbB : (W ++ 32 :: D).drop (W.length + 1) = D := by
    rw [List.drop_append, List.drop_of_length_le (by omega), List.nil_append, Nat.add_sub_cancel_left]; rfl
  rw [hbA, hbB] at hb
  have hT := headT_at hno hat (by omega)
  rw [htk, hdr, hb.1, hb.2, hkk, hnw, if_neg (by rintro (e | e); omega; exact e rfl)] at hT
  rw [splitB, hob, hT, splitG]
  simp only []
  rw [if_neg (by omega), if_neg (by omega), if_pos h]
theorem headT_some {b : List UInt8} {k m : Int} {r : List UInt8} (h : headT b = some (k, m, r)) : ∃ D, (numW D).2 = 0 ∧ (numW D).1 = m ∧ 1 ≤ k ∧ k ≤ 4 ∧ b = (kwordB k ++ 32 :: D) ++ 0 :: r := by
  unfold headT at h
  split at h
  · cases h
  · rename_i hx
    split at h
    · cases h
    · rename_i hc
      injection h with h
      injection h with hk h
      injection h with hm hr
      have hc1 : kindB (blA (nm (b.take 20))) ≠ 0 := fun e => hc (.inl e)
      have hc2 : (numW (blB (nm (b.take 20)))).2 = 0 := Decidable.byContradiction (fun e => hc (.inr e))
      rcases idx0_cases (b.take 20) with ⟨h0, _⟩ | ⟨e, he, hel, hn, _, h5, _⟩
      · exact absurd h0 hx
      · rw [List.length_take] at hel
        rw [List.getElem?_take_of_lt (by omega)] at h5
        have htt : (b.take 20).take e = b.take e := by rw [List.take_take]; congr 1; omega
        rw [htt] at hn
        rw [hn] at hc1 hc2 hk hm hr
        rw [List.length_take, Nat.min_eq_left (by omega)] at hr
        have hbe : b = b.take e ++ 0 :: r := by
          conv => lhs; rw [← List.take_append_drop e b, List.drop_eq_getElem_cons (by omega)]
          rw [(List.getElem?_eq_some_iff.1 h5).2, hr]
        obtain ⟨hkr0, hkr4⟩ := kindB_range (blA (b.take e))
        refine ⟨blB (b.take e), hc2, hm, by omega, by omega, ?_⟩
        rcases idx32_cases (b.take e) with ⟨_, _, _, _, e2⟩ | ⟨g, _, _, e0, _, _, e1, e2⟩
        · rw [e2, numW_nil] at hc2; cases hc2
        · have hwk := wordB_kindB hc1
          rw [hk] at hwk
          rw [hwk, e1, e2, ← e0]
          exact hbe
/-- What is taken is just what it is laid as. -/
theorem obj_split {b : List UInt8} (h : (splitB b).2.2 = 0) : chkO (splitB b).1 (splitB b).2.1 = 0 ∧ objB (splitB b).1 (splitB b).2.1 = b := by
  cases hG : headT b with
  | none => rw [splitB, hG] at h; cases h
  | some x =>
    obtain ⟨k, m, r⟩ := x
    have hs : splitB b = if (r.length : Int) < m then (0, [], 10) else if m < (r.length : Int) then (0, [], 12) else if chkO k r = 0 then (k, r, 0) else (0, [], chkO k r) := by rw [splitB, hG, splitG]
    by_cases h1 : (r.length : Int) < m
    · rw [hs, if_pos h1] at h; cases h
    · by_cases h2 : m < (r.length : Int)
      · rw [hs, if_neg h1, if_pos h2] at h; cases h
      · by_cases h3 : chkO k r = 0
        · rw [hs, if_neg h1, if_neg h2, if_pos h3]
          obtain ⟨D, hD2, hD1, _, _, hb⟩ := headT_some hG
          refine ⟨h3, ?_⟩
          show objB k r = b
          have hdn : Lib.decDigits r.length = D := by
            rcases numW_cases D with ⟨q1, q2, _⟩ | ⟨_, _, q2⟩
            · rw [q2] at hD1
              have := dec_readN q1
              rw [this]
              congr 1
              have : ((valN D : Nat) : Int) = m := hD1
              omega
            · rw [q2] at hD2; cases hD2
          have hd : digS (r.length : Int) = Lib.decDigits r.length := by rw [digS, if_neg (by omega), Int.toNat_natCast]
          rw [objB, if_pos h3, headB, hd, hdn, hb]
          simp
        · rw [hs, if_neg h1, if_neg h2, if_neg h3] at h; exact absurd h h3
theorem split_bad {b : List UInt8} (h : (splitB b).2.2 ≠ 0) : (splitB b).1 = 0 ∧ (splitB b).2.1 = [] := by
  cases hG : headT b with
  | none => rw [splitB, hG]; exact ⟨rfl, rfl⟩
  | some x =>
    obtain ⟨k, m, r⟩ := x
    have hs : splitB b = if (r.length : Int) < m then (0, [], 10) else if m < (r.length : Int) then (0, [], 12) else if chkO k r = 0 then (k, r, 0) else (0, [], chkO k r) := by rw [splitB, hG, splitG]
    rw [hs] at h ⊢
    split
    · exact ⟨rfl, rfl⟩
    · split
      · exact ⟨rfl, rfl⟩
      · split
        · rename_i h1 h2 h3
          rw [if_neg h1, if_neg h2, if_pos h3] at h
          exact absurd rfl h
        · exact ⟨rfl, rfl⟩
end Go.Proofs.YtnnafiajfapenaaDoor

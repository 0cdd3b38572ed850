/- What is proved: texts that stand one behind the other: Pwa. Conditions: each theorem names its own. -/
import Derived.Test.YtkaeoflgnnlbeaaGreatDoorQPgc
import Derived.Test.YtkaeoflgnnlbeaaGreatDoorQPga
/- What is proved: plain facts on a pack that is written: what each object's entry is laid as, by which other one it is told, how long all is. Conditions: each names its own. -/
namespace Go.Proofs.YtkaeoflgnnlbeaaGreatDoor
open Go.RowKit
set_option linter.unusedVariables false

/-- Bytes with an entry behind them: the object's kind, or how far back its base's begins; its load. -/
def layE (xs : List UInt8) (k : Int) (load : List UInt8) (back : Option Nat) : List UInt8 :=
  (match back with
   | none => xs ++ [toB k] ++ varB load.length
   | some d => xs ++ [5] ++ varB load.length ++ varB d) ++ hiB (crcI load) 4 4 ++ load
/-- What is laid so far; where each entry begins, and its load's sum; how deep it lies. -/
abbrev PkS := List UInt8 × List (Nat × Int) × List Int
def stepW (dl : List UInt8 → List UInt8 → List UInt8 × Int) (ps : List PIt) (chain : Int) (k : Nat) (p : PIt) (s : PkS) : PkS :=
  if (tdL dl ps s.2.2 p.k p.b chain k (-1, p.b, 0)).1 < 0 then
    (layE s.1 p.k (tdL dl ps s.2.2 p.k p.b chain k (-1, p.b, 0)).2 none, s.2.1 ++ [(s.1.length, crcI (tdL dl ps s.2.2 p.k p.b chain k (-1, p.b, 0)).2)], s.2.2 ++ [0])
  else (layE s.1 p.k (tdL dl ps s.2.2 p.k p.b chain k (-1, p.b, 0)).2 (some (s.1.length - (s.2.1.getD (tdL dl ps s.2.2 p.k p.b chain k (-1, p.b, 0)).1.toNat (0, 0)).1)),
    s.2.1 ++ [(s.1.length, crcI (tdL dl ps s.2.2 p.k p.b chain k (-1, p.b, 0)).2)], s.2.2 ++ [s.2.2.getD (tdL dl ps s.2.2 p.k p.b chain k (-1, p.b, 0)).1.toNat 0 + 1])
def headP (n : Nat) : List UInt8 := [80, 65, 67, 75] ++ hiB 1 4 4 ++ hiB n 4 4
def wrN (dl : List UInt8 → List UInt8 → List UInt8 × Int) (ps : List PIt) (chain : Int) : Nat → PkS
  | 0 => (headP ps.length, [], [])
  | k + 1 => match ps[k]? with
    | some p => stepW dl ps chain k p (wrN dl ps chain k)
    | none => wrN dl ps chain k

/-- Which objects one may be told by, n being left to look at, s seats. -/
def candL (ps : List PIt) (ds : List Int) (kk chain : Int) : Nat → Nat → List Nat
  | 0, _ => []
  | j + 1, s =>
    if s = 0 then []
    else if ((ps[j]?).map PIt.k) ≠ some kk then candL ps ds kk chain j s
    else if ds.getD j 0 < chain then j :: candL ps ds kk chain j (s - 1)
    else candL ps ds kk chain j (s - 1)
/-- The shortest of their scripts. -/
def bestL (dl : List UInt8 → List UInt8 → List UInt8 × Int) (ps : List PIt) (tb : List UInt8) : List Nat → Option Nat × List UInt8 → Option Nat × List UInt8
  | [], st => st
  | c :: cs, st => if (dl (((ps[c]?).map PIt.b).getD []) tb).1.length < st.2.length then bestL dl ps tb cs (some c, (dl (((ps[c]?).map PIt.b).getD []) tb).1) else bestL dl ps tb cs st
def encO (o : Option Nat) : Int := match o with | none => -1 | some c => (c : Int)
theorem candL_none (ps : List PIt) (ds : List Int) (kk chain : Int) (n : Nat) : candL ps ds kk chain n 0 = [] := by cases n <;> simp [candL]
theorem tdL_best (dl : List UInt8 → List UInt8 → List UInt8 × Int) (ps : List PIt) (ds : List Int) (kk : Int) (tb : List UInt8) (chain : Int) (hdl : ∀ p ∈ ps, (dl p.b tb).2 = 0) (n : Nat) (hn : n ≤ ps.length) (o : Option Nat) (ld : List UInt8) (sn : Nat) (hs : sn ≤ 4) :
    tdL dl ps ds kk tb chain n (encO o, ld, sn) = (encO (bestL dl ps tb (candL ps ds kk chain n (4 - sn)) (o, ld)).1, (bestL dl ps tb (candL ps ds kk chain n (4 - sn)) (o, ld)).2) := by
  induction n generalizing o ld sn with
  | zero => simp [tdL, candL, bestL]
  | succ j ih =>
    unfold tdL
    by_cases h4 : sn = 4
    · subst h4
      rw [if_pos (.inr rfl), ih (by omega) o ld 4 (by omega), Nat.sub_self, candL_none, candL_none]
    · by_cases hk : ((ps[j]?).map PIt.k) ≠ some kk
      · rw [if_pos (.inl hk), ih (by omega) o ld sn hs]
        conv => rhs; unfold candL
        rw [if_neg (show ¬ 4 - sn = 0 by omega), if_pos hk]
      · rw [if_neg (by intro e; rcases e with e | e; exact hk e; exact h4 e)]
        conv => rhs; unfold candL
        rw [if_neg (show ¬ 4 - sn = 0 by omega), if_neg hk, show 4 - sn - 1 = 4 - (sn + 1) by omega]
        by_cases hc : chain ≤ ds.getD j 0
        · rw [if_pos hc, if_neg (show ¬ ds.getD j 0 < chain by omega), ih (by omega) o ld (sn + 1) (by omega)]
        · rw [if_neg hc, if_pos (show ds.getD j 0 < chain by omega)]
          have hpj : ps[j]? = some ps[j] := List.getElem?_eq_getElem (by omega)
          have h0 : (dl (((ps[j]?).map PIt.b).getD []) tb).2 = 0 := by rw [hpj]; exact hdl _ (List.getElem_mem _)
          simp only
          generalize hD : dl (((ps[j]?).map PIt.b).getD []) tb = D at h0
          unfold bestL
          rw [hD]
          by_cases hl : D.1.length < ld.length
          · rw [if_pos ⟨h0, hl⟩, if_pos hl]
            exact ih (by omega) (some j) D.1 (sn + 1) (by omega)
          · rw [if_neg (fun e => hl e.2), if_neg hl]
            exact ih (by omega) o ld (sn + 1) (by omega)
theorem candL_lt (ps : List PIt) (ds : List Int) (kk chain : Int) (n s : Nat) : ∀ c ∈ candL ps ds kk chain n s, c < n ∧ ((ps[c]?).map PIt.k) = some kk ∧ ds.getD c 0 < chain := by
  induction n generalizing s with
  | zero => simp [candL]
  | succ j ih =>
    intro c hc
    unfold candL at hc
    split at hc
    · simp at hc
    · split at hc
      · have := ih _ c hc; exact ⟨by omega, this.2⟩
      · rename_i hk
        split at hc
        · rename_i hd
          rcases List.mem_cons.1 hc with h | h
          · subst h; exact ⟨by omega, Decidable.not_not.1 hk, hd⟩
          · have := ih _ c h; exact ⟨by omega, this.2⟩
        · have := ih _ c hc; exact ⟨by omega, this.2⟩
theorem candL_len (ps : List PIt) (ds : List Int) (kk chain : Int) (n s : Nat) : (candL ps ds kk chain n s).length ≤ s := by
  induction n generalizing s with
  | zero => simp [candL]
  | succ j ih =>
    unfold candL
    split
    · simp
    · split
      · exact ih _
      · split
        · have := ih (s - 1); simp; omega
        · have := ih (s - 1); omega
theorem bestL_prop (dl : List UInt8 → List UInt8 → List UInt8 × Int) (ps : List PIt) (tb : List UInt8) (cs : List Nat) (st : Option Nat × List UInt8) :
    (bestL dl ps tb cs st = st ∨ ∃ c ∈ cs, (bestL dl ps tb cs st).1 = some c ∧ (bestL dl ps tb cs st).2 = (dl (((ps[c]?).map PIt.b).getD []) tb).1) ∧ (bestL dl ps tb cs st).2.length ≤ st.2.length := by
  induction cs generalizing st with
  | nil => exact ⟨.inl rfl, Nat.le_refl _⟩
  | cons c cs ih =>
    unfold bestL
    split
    · rename_i h
      have h1 := ih (some c, (dl (((ps[c]?).map PIt.b).getD []) tb).1)
      refine ⟨.inr ?_, by have := h1.2; simp only at this; omega⟩
      rcases h1.1 with h2 | ⟨c', hc', h2⟩
      · rw [h2]; exact ⟨c, by simp, rfl, rfl⟩
      · exact ⟨c', by simp [hc'], h2⟩
    · have h1 := ih st
      refine ⟨?_, h1.2⟩
      rcases h1.1 with h2 | ⟨c', hc', h2⟩
      · exact .inl h2
      · exact .inr ⟨c', by simp [hc'], h2⟩
/-- What is told of an object: it is whole, or by one ahead of it, of its kind, whose depth is below; the load is its script. -/
theorem tdL_prop (dl : List UInt8 → List UInt8 → List UInt8 × Int) (ps : List PIt) (ds : List Int) (kk : Int) (tb : List UInt8) (chain : Int) (hdl : ∀ p ∈ ps, (dl p.b tb).2 = 0) (n : Nat) (hn : n ≤ ps.length) :
    ((tdL dl ps ds kk tb chain n (-1, tb, 0)).1 = -1 ∧ (tdL dl ps ds kk tb chain n (-1, tb, 0)).2 = tb ∨
      ∃ (c : Nat) (p : PIt), (tdL dl ps ds kk tb chain n (-1, tb, 0)).1 = c ∧ c < n ∧ ps[c]? = some p ∧ p.k = kk ∧ ds.getD c 0 < chain ∧ (tdL dl ps ds kk tb chain n (-1, tb, 0)).2 = (dl p.b tb).1) ∧
    (tdL dl ps ds kk tb chain n (-1, tb, 0)).2.length ≤ tb.length := by
  have h := tdL_best dl ps ds kk tb chain hdl n hn none tb 0 (by omega)
  simp only [encO] at h
  rw [h]
  have h1 := bestL_prop dl ps tb (candL ps ds kk chain n (4 - 0)) (none, tb)
  refine ⟨?_, h1.2⟩
  rcases h1.1 with h2 | ⟨c, hc, h2, h3⟩
  · rw [h2]; exact .inl ⟨rfl, rfl⟩
  · obtain ⟨g1, g2, g3⟩ := candL_lt _ _ _ _ _ _ c hc
    obtain ⟨p, hp⟩ : ∃ p, ps[c]? = some p := ⟨_, List.getElem?_eq_getElem (by omega)⟩
    rw [hp] at g2 h3
    exact .inr ⟨c, p, by rw [h2], g1, hp, by simpa using g2, g3, by rw [h3]; rfl⟩

theorem layE_len (xs : List UInt8) (k : Int) (load : List UInt8) (back : Option Nat) : xs.length + 6 ≤ (layE xs k load back).length - load.length ∧ (layE xs k load back).length ≤ xs.length + 25 + load.length := by
  have h1 := varB_length load.length
  unfold layE
  cases back with
  | none => simp only [List.length_append, hiB_length, List.length_cons, List.length_nil]; omega
  | some d => have h2 := varB_length d; simp only [List.length_append, hiB_length, List.length_cons, List.length_nil]; omega
/-- How long all is, and how many of each there are. -/
theorem wrN_len (dl : List UInt8 → List UInt8 → List UInt8 × Int) (ps : List PIt) (chain : Int) (m : Nat) (hm : ∀ p ∈ ps, p.b.length ≤ m) (hdl : ∀ p ∈ ps, ∀ q ∈ ps, (dl p.b q.b).2 = 0) (hc : 0 ≤ chain) (k : Nat) (hk : k ≤ ps.length) :
    12 ≤ (wrN dl ps chain k).1.length ∧ (wrN dl ps chain k).1.length ≤ 12 + k * (25 + m) ∧ (wrN dl ps chain k).2.1.length = k ∧ (wrN dl ps chain k).2.2.length = k ∧ (∀ x ∈ (wrN dl ps chain k).2.1, 12 ≤ x.1 ∧ x.1 + 6 ≤ (wrN dl ps chain k).1.length ∧ 0 ≤ x.2 ∧ x.2 < 4294967296) ∧ (∀ d ∈ (wrN dl ps chain k).2.2, 0 ≤ d ∧ d ≤ chain) := by
  induction k with
  | zero => refine ⟨?_, ?_, rfl, rfl, by simp [wrN], by simp [wrN]⟩ <;> simp [wrN, headP, hiB_length]
  | succ k ih =>
    obtain ⟨i0, i1, i2, i3, i4, i5⟩ := ih (by omega)
    obtain ⟨p, hp⟩ : ∃ p, ps[k]? = some p := ⟨_, List.getElem?_eq_getElem (by omega)⟩
    have hpi := List.mem_of_getElem? hp
    have hpm := hm p hpi
    unfold wrN
    rw [hp]
    simp only
    have hT := tdL_prop dl ps (wrN dl ps chain k).2.2 p.k p.b chain (fun q hq => hdl q hq p hpi) k (by omega)
    generalize wrN dl ps chain k = s at i0 i1 i2 i3 i4 i5 hT
    unfold stepW
    generalize tdL dl ps s.2.2 p.k p.b chain k (-1, p.b, 0) = t at hT
    have hsum : ∀ l, 0 ≤ crcI l ∧ crcI l < 4294967296 := fun l => ⟨rI_lo _, rI_hi _⟩
    have hmul : (k + 1) * (25 + m) = k * (25 + m) + (25 + m) := by rw [Nat.add_mul, Nat.one_mul]
    have key : ∀ (back : Option Nat) (d : Int), 0 ≤ d ∧ d ≤ chain → (fun z : PkS => 12 ≤ z.1.length ∧ z.1.length ≤ 12 + (k + 1) * (25 + m) ∧ z.2.1.length = k + 1 ∧ z.2.2.length = k + 1 ∧ (∀ x ∈ z.2.1, 12 ≤ x.1 ∧ x.1 + 6 ≤ z.1.length ∧ 0 ≤ x.2 ∧ x.2 < 4294967296) ∧ (∀ d ∈ z.2.2, 0 ≤ d ∧ d ≤ chain)) (layE s.1 p.k t.2 back, s.2.1 ++ [(s.1.length, crcI t.2)], s.2.2 ++ [d]) := by
      intro back d hd
      have hl := layE_len s.1 p.k t.2 back
      refine ⟨by simp only; omega, by simp only; have := hT.2; omega, by simp [i2], by simp [i3], fun x hx => ?_, fun x hx => ?_⟩
      · rcases List.mem_append.1 hx with h | h
        · have := i4 x h
          simp only at *
          omega
        · rw [List.mem_singleton.1 h]
          have := hsum t.2
          simp only
          omega
      · rcases List.mem_append.1 hx with h | h
        · exact i5 x h
        · rw [List.mem_singleton.1 h]; exact hd
    split
    · exact key none 0 (by omega)
    · rename_i hb
      refine key (some _) _ ?_
      rcases hT.1 with h | ⟨c, pc, h1, h2, h3, h4, h5, h6⟩
      · omega
      · rw [h1, Int.toNat_natCast]
        have hcd : s.2.2.getD c 0 ∈ s.2.2 := by
          rw [List.getD_eq_getElem?_getD, List.getElem?_eq_getElem (by omega)]
          exact List.getElem_mem _
        have := i5 _ hcd
        omega
end Go.Proofs.YtkaeoflgnnlbeaaGreatDoor

/- What is proved: plain facts on names, paths, patterns, and what follows from them. Conditions: none; no program is named. -/
import Derived.Test.YtppddpbacpeadaaDoorRta
namespace Go.Proofs.YtppddpbacpeadaaDoor
set_option linter.unusedVariables false

def visB (l : List UInt8) : Bool := l.all fun b => decide (33 ≤ (b.toNat : Int)) && decide ((b.toNat : Int) ≤ 126)
def nameB (l : List UInt8) : Bool := decide (1 ≤ l.length) && decide (l.length ≤ 32) && visB l && !l.contains 47 && !(l == [46]) && !(l == [46, 46])
def rightB (l : List UInt8) : Bool := !(l == []) && decide (l.length ≤ 120) && (decide ((spl l).length ≤ 6) && (spl l).all nameB)
def patB (l : List UInt8) : Bool := !(l == []) && decide (l.length ≤ 120) && visB l && (decide ((spl l).length ≤ 8) && !(spl l).contains [])
def joinB (d n : List UInt8) : List UInt8 := if d = [] then n else d ++ 47 :: n
def underB (s d : List UInt8) : Bool := d == [] || (s == d || (d ++ [47]).isPrefixOf s)

/-- The place of the last stroke; -1: there is none. -/
def lastI : List UInt8 → Int
  | [] => -1
  | b :: r => if 0 ≤ lastI r then lastI r + 1 else if b = 47 then 0 else -1
structure LastAt (l : List UInt8) (v : Int) : Prop where
  lo : -1 ≤ v
  hi : v < l.length
  none : ∀ j : Nat, v < j → j < l.length → l.getD j 0 ≠ 47
  here : 0 ≤ v → l.getD v.toNat 0 = 47
theorem lastI_at (l : List UInt8) : LastAt l (lastI l) := by
  induction l with
  | nil => exact ⟨by decide, by decide, fun j _ hj => by simp at hj, fun h => by revert h; decide⟩
  | cons b r ih =>
    obtain ⟨h1, h2, h3, h4⟩ := ih
    simp only [lastI]
    split
    · rename_i h
      refine ⟨by omega, by simp; omega, fun j hj hl => ?_, fun _ => ?_⟩
      · cases j with
        | zero => omega
        | succ j => rw [List.getD_cons_succ]; exact h3 j (by omega) (by simpa using hl)
      · rw [show (lastI r + 1).toNat = (lastI r).toNat + 1 by omega, List.getD_cons_succ]; exact h4 h
    · rename_i h
      split
      · rename_i hb
        refine ⟨by omega, by simp only [List.length_cons]; omega, fun j hj hl => ?_, fun _ => by simpa using hb⟩
        cases j with
        | zero => omega
        | succ j => rw [List.getD_cons_succ]; exact h3 j (by omega) (by simpa using hl)
      · rename_i hb
        refine ⟨by omega, by simp only [List.length_cons]; omega, fun j hj hl => ?_, fun h => by omega⟩
        cases j with
        | zero => simpa using hb
        | succ j => rw [List.getD_cons_succ]; exact h3 j (by omega) (by simpa using hl)
theorem lastAt_unique {l : List UInt8} {v u : Int} (h : LastAt l v) (k : LastAt l u) : v = u := by
  have a := h.lo; have b := h.hi; have c := k.lo; have d := k.hi
  rcases Int.lt_trichotomy v u with hlt | he | hlt
  · exfalso
    exact h.none u.toNat (by omega) (by omega) (k.here (by omega))
  · exact he
  · exfalso
    exact k.none v.toNat (by omega) (by omega) (h.here (by omega))
def dirB (l : List UInt8) : List UInt8 := l.take (lastI l).toNat
def baseB (l : List UInt8) : List UInt8 := l.drop (lastI l + 1).toNat
theorem last_cut {l : List UInt8} (h : 0 ≤ lastI l) : l = dirB l ++ 47 :: baseB l := by
  obtain ⟨h1, h2, h3, h4⟩ := lastI_at l
  obtain ⟨v, hv⟩ : ∃ v : Nat, lastI l = v := ⟨(lastI l).toNat, by omega⟩
  have hvl : v < l.length := by omega
  have e := h4 h
  rw [dirB, baseB, hv] at *
  simp only [Int.toNat_natCast] at *
  rw [show ((v : Int) + 1).toNat = v + 1 by omega]
  have e2 : l[v] = 47 := by rw [List.getD_eq_getElem?_getD, List.getElem?_eq_getElem hvl] at e; simpa using e
  conv => lhs; rw [← List.take_append_drop v l, List.drop_eq_getElem_cons hvl, e2]
theorem base_plain (l : List UInt8) : ∀ b ∈ baseB l, b ≠ 47 := by
  obtain ⟨h1, h2, h3, h4⟩ := lastI_at l
  intro b hb
  obtain ⟨j, hj, rfl⟩ := List.getElem_of_mem hb
  rw [baseB, List.length_drop] at hj
  have := h3 ((lastI l + 1).toNat + j) (by omega) (by omega)
  rw [List.getD_eq_getElem?_getD, List.getElem?_eq_getElem (by omega)] at this
  simpa [baseB] using this
theorem no_last {l : List UInt8} (h : lastI l < 0) : dirB l = [] ∧ baseB l = l := by
  obtain ⟨h1, _, _, _⟩ := lastI_at l
  rw [dirB, baseB, show (lastI l).toNat = 0 by omega, show (lastI l + 1).toNat = 0 by omega]
  simp
theorem dir_above {l : List UInt8} (h : dirB l ≠ []) : l = dirB l ++ 47 :: baseB l := by
  by_cases hl : 0 ≤ lastI l
  · exact last_cut hl
  · exact absurd (no_last (by omega)).1 h

/-! What a path's parts are. -/
structure PathP (l : List UInt8) : Prop where
  ne : l ≠ []
  len : l.length ≤ 120
  parts : (spl l).length ≤ 6
  names : ∀ p ∈ spl l, nameB p = true
theorem right_iff (l : List UInt8) : rightB l = true ↔ PathP l := by
  simp only [rightB, Bool.and_eq_true, Bool.not_eq_true', decide_eq_true_eq, List.all_eq_true, beq_eq_false_iff_ne]
  exact ⟨fun ⟨⟨a, b⟩, c, d⟩ => ⟨a, b, c, d⟩, fun ⟨a, b, c, d⟩ => ⟨⟨a, b⟩, c, d⟩⟩
theorem name_ne {p : List UInt8} (h : nameB p = true) : p ≠ [] := by rintro rfl; revert h; decide
theorem right_dir {d c : List UInt8} (h : rightB (d ++ 47 :: c) = true) (hd : d ≠ []) : rightB d = true := by
  rw [right_iff] at *
  obtain ⟨h1, h2, h3, h4⟩ := h
  rw [spl_stroke] at h3 h4
  simp at h2 h3
  exact ⟨hd, by omega, by omega, fun p hp => h4 p (by simp [hp])⟩
theorem back_base {s : List UInt8} (h : rightB s = true) : nameB (baseB s) = true ∧ joinB (dirB s) (baseB s) = s := by
  have hs := (right_iff s).1 h
  by_cases hl : 0 ≤ lastI s
  · have e := last_cut hl
    have hsp : spl s = spl (dirB s) ++ [baseB s] := by
      conv => lhs; rw [e]
      rw [spl_stroke, spl_plain _ (base_plain s)]
    have hn := hs.names (baseB s) (by rw [hsp]; simp)
    refine ⟨hn, ?_⟩
    have hd : dirB s ≠ [] := by
      intro h0
      have := hs.names [] (by rw [hsp, h0]; simp [spl])
      revert this; decide
    rw [joinB, if_neg hd, ← e]
  · have e := no_last (l := s) (by omega)
    rw [e.1, e.2]
    have hp := base_plain s
    rw [e.2] at hp
    refine ⟨hs.names s (by rw [spl_plain s hp]; simp), by simp [joinB]⟩
theorem under_self (s : List UInt8) : underB s s = true := by simp [underB]
theorem under_none (s : List UInt8) : underB s [] = true := by simp [underB]
theorem under_above (d c : List UInt8) : underB (d ++ 47 :: c) d = true := by
  have : (d ++ [47]).isPrefixOf (d ++ 47 :: c) = true := by
    rw [List.isPrefixOf_iff_prefix]
    exact ⟨c, by simp⟩
  simp [underB, this]

/-! What patterns stand for. -/
def wordB : List UInt8 → List UInt8 → Bool := mat (fun c => c == 42) (fun c x => c == 63 || c == x)
def standB : List (List UInt8) → List (List UInt8) → Bool := mat (fun p => p == [42, 42]) wordB
def fitB (pat s : List UInt8) : Bool := patB pat && rightB s && (List.range (prt s).length).any fun n => standB (prt pat) ((prt s).take (n + 1))
def inB (ps : List (List UInt8)) (s : List UInt8) : Bool := rightB s && (decide (ps.length = 0) || ps.any fun p => fitB p s)
/-- A right pattern, by its parts: it touches a directory's parts. -/
def tchB (P L : List (List UInt8)) : Bool := (List.range (P.length + 1)).any (fun n => standB (P.take n) L) || (List.range (L.length + 1)).any (fun n => standB P (L.take n))
def touB (pat d : List UInt8) : Bool := patB pat && tchB (prt pat) (prt d)
def touchB (ps : List (List UInt8)) (d : List UInt8) : Bool := decide (ps.length = 0) || ps.any fun p => touB p d

theorem any_range {n : Nat} {f : Nat → Bool} : (List.range n).any f = true ↔ ∃ k, k < n ∧ f k = true := by simp
theorem fit_iff (pat s : List UInt8) : fitB pat s = true ↔ patB pat = true ∧ rightB s = true ∧ ∃ n, 1 ≤ n ∧ n ≤ (prt s).length ∧ standB (prt pat) ((prt s).take n) = true := by
  simp only [fitB, Bool.and_eq_true, any_range]
  constructor
  · rintro ⟨⟨a, b⟩, k, hk, h⟩; exact ⟨a, b, k + 1, by omega, by omega, h⟩
  · rintro ⟨a, b, n, h1, h2, h⟩; exact ⟨⟨a, b⟩, n - 1, by omega, by rw [show n - 1 + 1 = n by omega]; exact h⟩
theorem prt_join {s m : List UInt8} (hs : s ≠ []) : prt (joinB s m) = prt s ++ spl m := by
  rw [joinB, if_neg hs, prt_of (by simp), prt_of hs, spl_stroke]
theorem fit_more {pat s m : List UInt8} (h : fitB pat s = true) (hr : rightB (joinB s m) = true) : fitB pat (joinB s m) = true := by
  obtain ⟨a, b, n, h1, h2, h3⟩ := (fit_iff _ _).1 h
  have hs := ((right_iff s).1 b).ne
  refine (fit_iff _ _).2 ⟨a, hr, n, h1, by rw [prt_join hs, List.length_append]; omega, ?_⟩
  rw [prt_join hs, List.take_append_of_le_length h2]
  exact h3
theorem in_more {ps : List (List UInt8)} {s m : List UInt8} (h : inB ps s = true) (hr : rightB (joinB s m) = true) : inB ps (joinB s m) = true := by
  simp only [inB, Bool.and_eq_true, Bool.or_eq_true, List.any_eq_true] at h ⊢
  refine ⟨hr, h.2.imp id (fun ⟨p, hp, hf⟩ => ⟨p, hp, fit_more hf hr⟩)⟩
theorem tou_above {pat d c : List UInt8} (h : fitB pat (d ++ 47 :: c) = true) (hd : d ≠ []) : touB pat d = true := by
  obtain ⟨a, b, n, h1, h2, h3⟩ := (fit_iff _ _).1 h
  have e : prt (d ++ 47 :: c) = prt d ++ spl c := by rw [prt_of (by simp), prt_of hd, spl_stroke]
  simp only [touB, tchB, Bool.and_eq_true, Bool.or_eq_true, any_range]
  refine ⟨a, ?_⟩
  rw [e] at h2 h3
  rcases Nat.lt_or_ge (prt d).length n with hlt | hle
  · left
    rw [List.take_append, List.take_of_length_le (by omega)] at h3
    obtain ⟨j, hj, h4⟩ := mat_front _ _ _ h3
    exact ⟨j, by omega, h4⟩
  · right
    rw [List.take_append_of_le_length hle] at h3
    exact ⟨n, by omega, h3⟩
theorem tou_root {pat : List UInt8} (h : patB pat = true) : touB pat [] = true := by
  simp only [touB, tchB, Bool.and_eq_true, Bool.or_eq_true, any_range]
  exact ⟨h, .inl ⟨0, by omega, by simp [prt, standB, mat_nil]⟩⟩
theorem touch_above {ps : List (List UInt8)} {d c : List UInt8} (h : inB ps (d ++ 47 :: c) = true) (hd : d ≠ []) : touchB ps d = true := by
  simp only [inB, touchB, Bool.and_eq_true, Bool.or_eq_true, List.any_eq_true] at h ⊢
  exact h.2.imp id (fun ⟨p, hp, hf⟩ => ⟨p, hp, tou_above hf hd⟩)
theorem touch_root {ps : List (List UInt8)} {s : List UInt8} (h : inB ps s = true) : touchB ps [] = true := by
  simp only [inB, touchB, Bool.and_eq_true, Bool.or_eq_true, List.any_eq_true] at h ⊢
  exact h.2.imp id (fun ⟨p, hp, hf⟩ => ⟨p, hp, tou_root ((fit_iff _ _).1 hf).1⟩)
end Go.Proofs.YtppddpbacpeadaaDoor

/- What is proved: plain facts on refs: tables, their places, what is set and dropped. Conditions: none; no program is named. -/
import Derived.Test.YtoakbdmfoepdgaaDoorBc
import Derived.Test.YtoakbdmfoepdgaaDoorBd
namespace Go.Proofs.YtoakbdmfoepdgaaDoor
open Go.RowKit
set_option linter.unusedVariables false

/-! Refs. -/
structure Rf where
  name : List UInt8
  id : Nat
  hn : name.length ≤ 140737488355327
  hi : id < Ids.big
instance : Inhabited Rf := ⟨⟨[], 0, by decide, by decide⟩⟩
theorem Rf.same {a b : Rf} (h1 : a.name = b.name) (h2 : a.id = b.id) : a = b := by
  cases a; cases b; cases h1; cases h2; rfl
def rfEq (a b : Rf) : Bool := (a.name == b.name) && (a.id == b.id)
theorem rfEq_iff (a b : Rf) : rfEq a b = true ↔ a = b := by
  simp only [rfEq, Bool.and_eq_true, beq_iff_eq]
  exact ⟨fun h => Rf.same h.1 h.2, fun h => by rw [h]; exact ⟨rfl, rfl⟩⟩
theorem rf_some {l : List Rf} {i : Nat} (h : i < l.length) : l[i]? = some l[i]! := by
  rw [List.getElem?_eq_getElem h, getElem!_pos l i h]
theorem rf_mem {l : List Rf} {i : Nat} (h : i < l.length) : l[i]! ∈ l := by
  rw [getElem!_pos l i h]; exact List.getElem_mem h
theorem rf_snoc (l : List Rf) (k : Nat) (h : k < l.length) : l.take (k + 1) = l.take k ++ [l[k]!] := by
  rw [List.take_add_one, rf_some h]; rfl
theorem rf_drop (l : List Rf) (k : Nat) (h : k < l.length) : l.drop k = l[k]! :: l.drop (k + 1) := by
  rw [List.drop_eq_getElem_cons h, getElem!_pos l k h]

/-- Two of one name. -/
def twR (l : List Rf) : Bool := !decide ((l.map Rf.name).Nodup)
theorem twR_at {l : List Rf} {j k : Nat} (h1 : j < k) (h2 : k < l.length) (h : l[j]!.name = l[k]!.name) : twR l = true := by
  rw [twR, Bool.not_eq_true', decide_eq_false_iff_not]
  intro hn
  have := List.pairwise_iff_getElem.1 hn j k (by simp; omega) (by simpa using h2) h1
  rw [getElem!_pos l j (by omega), getElem!_pos l k h2] at h
  simp [h] at this
theorem twR_none {l : List Rf} (h : ∀ j k, j < k → k < l.length → l[j]!.name ≠ l[k]!.name) : twR l = false := by
  rw [twR, Bool.not_eq_false', decide_eq_true_eq]
  refine List.pairwise_iff_getElem.2 (fun i j hi hj hij e => ?_)
  have hi2 : i < l.length := by simpa using hi
  have hj2 : j < l.length := by simpa using hj
  refine h i j hij hj2 ?_
  rw [getElem!_pos l i hi2, getElem!_pos l j hj2]
  simpa using e
/-- The names rise. -/
def risR (l : List Rf) : Bool := (List.range (l.length - 1)).all fun k => ltB l[k]!.name l[k + 1]!.name
theorem risR_iff (l : List Rf) : risR l = true ↔ ∀ k, k + 1 < l.length → ltB l[k]!.name l[k + 1]!.name = true := by
  rw [risR, List.all_eq_true]
  exact ⟨fun h k hk => h k (by rw [List.mem_range]; omega), fun h k hk => h k (by rw [List.mem_range] at hk; omega)⟩
/-- None stands ahead of the one before it. -/
def isrR (l : List Rf) : Bool := (List.range (l.length - 1)).all fun k => !ltB l[k + 1]!.name l[k]!.name
theorem isrR_iff (l : List Rf) : isrR l = true ↔ ∀ k, k + 1 < l.length → ltB l[k + 1]!.name l[k]!.name = false := by
  rw [isrR, List.all_eq_true]
  exact ⟨fun h k hk => by simpa using h k (by rw [List.mem_range]; omega), fun h k hk => by simpa using h k (by rw [List.mem_range] at hk; omega)⟩
theorem ris_isrR (l : List Rf) (h1 : twR l = false) : risR l = isrR l := by
  rw [Bool.eq_iff_iff, risR_iff, isrR_iff]
  constructor
  · exact fun h k hk => ltB_asymm _ _ (h k hk)
  · intro h k hk
    cases hq : ltB l[k]!.name l[k + 1]!.name with
    | true => rfl
    | false =>
      have := twR_at (l := l) (j := k) (k := k + 1) (by omega) hk (ltB_total _ _ hq (h k hk))
      rw [h1] at this
      cases this
/-- Whether refs may be a table. -/
def chkR (l : List Rf) : Int := if 64 < l.length then 5 else if l.all (fun r => rightB r.name) = true then (if twR l = true then 17 else if isrR l = true then 0 else 18) else 15
/-- A table. -/
structure TabR (l : List Rf) : Prop where
  len : l.length ≤ 64
  right : ∀ r ∈ l, rightB r.name = true
  rise : l.Pairwise fun a b => ltB a.name b.name = true
theorem rise_of (l : List Rf) (h : ∀ k, k + 1 < l.length → ltB l[k]!.name l[k + 1]!.name = true) : l.Pairwise fun a b => ltB a.name b.name = true := by
  have h2 : ∀ n j, j + (n + 1) < l.length → ltB l[j]!.name l[j + (n + 1)]!.name = true := by
    intro n
    induction n with
    | zero => intro j hj; exact h j hj
    | succ n ih => intro j hj; exact ltB_trans _ _ _ (ih j (by omega)) (h (j + (n + 1)) (by omega))
  refine List.pairwise_iff_getElem.2 (fun i j hi hj hij => ?_)
  have := h2 (j - i - 1) i (by omega)
  rw [show i + (j - i - 1 + 1) = j by omega, getElem!_pos l i hi, getElem!_pos l j hj] at this
  exact this
theorem rise_next {l : List Rf} (h : l.Pairwise fun a b => ltB a.name b.name = true) (k : Nat) (hk : k + 1 < l.length) : ltB l[k]!.name l[k + 1]!.name = true := by
  rw [getElem!_pos l k (by omega), getElem!_pos l (k + 1) hk]
  exact List.pairwise_iff_getElem.1 h k (k + 1) (by omega) hk (by omega)
theorem rise_tw {l : List Rf} (h : l.Pairwise fun a b => ltB a.name b.name = true) : twR l = false := by
  refine twR_none (fun j k hjk hk e => ?_)
  have := List.pairwise_iff_getElem.1 h j k (by omega) hk hjk
  rw [← getElem!_pos l j (by omega), ← getElem!_pos l k hk, e, ltB_irrefl] at this
  cases this
theorem chkR_tab (l : List Rf) : chkR l = 0 ↔ TabR l := by
  unfold chkR
  constructor
  · intro h
    split at h
    · cases h
    · rename_i h1
      split at h
      · rename_i h2
        split at h
        · cases h
        · rename_i h3
          split at h
          · rename_i h4
            have h3 : twR l = false := by simpa using h3
            rw [← ris_isrR l h3] at h4
            exact ⟨by omega, fun r hr => List.all_eq_true.1 h2 r hr, rise_of l ((risR_iff l).1 h4)⟩
          · cases h
      · cases h
  · intro h
    have h3 := rise_tw h.rise
    rw [if_neg (by have := h.len; omega), if_pos (List.all_eq_true.2 h.right), if_neg (by rw [h3]; simp), if_pos]
    rw [← ris_isrR l h3]
    exact (risR_iff l).2 (rise_next h.rise)

/-- The first ref of a name. -/
def findR (l : List Rf) (n : List UInt8) : Option Rf := l.find? fun r => r.name == n
theorem findR_nil (n : List UInt8) : findR [] n = none := rfl
theorem findR_cons (r : Rf) (l : List Rf) (n : List UInt8) : findR (r :: l) n = if (r.name == n) = true then some r else findR l n := by
  rw [findR, List.find?_cons, findR]
  cases r.name == n <;> rfl
theorem findR_drop (l : List Rf) (n : List UInt8) (k : Nat) (hk : k < l.length) : findR (l.drop k) n = if (l[k]!.name == n) = true then some l[k]! else findR (l.drop (k + 1)) n := by
  rw [rf_drop l k hk, findR_cons]
theorem findR_some {l : List Rf} {n : List UInt8} {r : Rf} (h : findR l n = some r) : r ∈ l ∧ r.name = n := ⟨List.mem_of_find?_eq_some h, by simpa using List.find?_some h⟩
theorem findR_none {l : List Rf} {n : List UInt8} : findR l n = none ↔ ∀ r ∈ l, r.name ≠ n := by
  rw [findR, List.find?_eq_none]; simp
/-- Of the first of these names that there is. -/
def firstR (l : List Rf) : List (List UInt8) → Option Rf
  | [] => none
  | n :: ns => match findR l n with
    | some r => some r
    | none => firstR l ns
theorem firstR_none (l : List Rf) (n : List UInt8) (ns : List (List UInt8)) (h : findR l n = none) : firstR l (n :: ns) = firstR l ns := by rw [firstR, h]
theorem firstR_some (l : List Rf) (n : List UInt8) (ns : List (List UInt8)) (r : Rf) (h : findR l n = some r) : firstR l (n :: ns) = some r := by rw [firstR, h]
theorem firstR_one (l : List Rf) (n : List UInt8) : firstR l [n] = findR l n := by
  rw [firstR]; cases findR l n <;> rfl
theorem twR_take (l : List Rf) (h : ∀ k, k < l.length → findR (l.take k) l[k]!.name = none) : twR l = false := by
  refine twR_none (fun j k hjk hk e => ?_)
  have := findR_none.1 (h k hk) l[j]! (by
    rw [getElem!_pos l j (by omega), List.mem_take_iff_getElem]
    exact ⟨j, by omega, rfl⟩)
  exact this e
theorem twR_found (l : List Rf) (k : Nat) (hk : k < l.length) (r : Rf) (h : findR (l.take k) l[k]!.name = some r) : twR l = true := by
  obtain ⟨hm, hn⟩ := findR_some h
  obtain ⟨j, hj, rfl⟩ := List.mem_take_iff_getElem.1 hm
  exact twR_at (j := j) (k := k) (by omega) hk (by rw [getElem!_pos l j (by omega)]; exact hn)
/-- Those under a directory. -/
def undR (l : List Rf) (d : List UInt8) : List Rf := l.filter fun r => underB r.name d
theorem undR_snoc (l : List Rf) (d : List UInt8) (k : Nat) (hk : k < l.length) : undR (l.take (k + 1)) d = undR (l.take k) d ++ (if underB l[k]!.name d = true then [l[k]!] else []) := by
  rw [rf_snoc l k hk, undR, List.filter_append, undR]
  congr 1
  rw [List.filter_cons, List.filter_nil]
/-- Those of other names. -/
def witR (l : List Rf) (n : List UInt8) : List Rf := l.filter fun r => !(r.name == n)
theorem witR_snoc (l : List Rf) (n : List UInt8) (k : Nat) (hk : k < l.length) : witR (l.take (k + 1)) n = witR (l.take k) n ++ (if (l[k]!.name == n) = true then [] else [l[k]!]) := by
  rw [rf_snoc l k hk, witR, List.filter_append, witR]
  congr 1
  rw [List.filter_cons, List.filter_nil]
  cases l[k]!.name == n <;> rfl

/-- Where a name stands among others, or would stand. -/
def plcR : List Rf → List UInt8 → Nat
  | [], _ => 0
  | r :: l, n => if ltB r.name n = true then plcR l n + 1 else 0
theorem plcR_le : ∀ (l : List Rf) (n : List UInt8), plcR l n ≤ l.length
  | [], _ => Nat.le_refl _
  | r :: l, n => by
    rw [plcR]
    have := plcR_le l n
    split
    · rw [List.length_cons]; omega
    · exact Nat.zero_le _
theorem plcR_step (l : List Rf) (n : List UInt8) (k : Nat) (hk : k < l.length) : plcR (l.drop k) n = if ltB l[k]!.name n = true then plcR (l.drop (k + 1)) n + 1 else 0 := by
  rw [rf_drop l k hk, plcR]
theorem plcR_app : ∀ (a b : List Rf) (n : List UInt8), (∀ r ∈ a, ltB r.name n = true) → (∀ r, b.head? = some r → ltB r.name n = false) → plcR (a ++ b) n = a.length
  | [], [], _, _, _ => rfl
  | [], r :: b, n, _, h => by
    rw [List.nil_append, plcR, h r rfl]; rfl
  | x :: a, b, n, h1, h2 => by
    rw [List.cons_append, plcR, h1 x (by simp), if_pos rfl, plcR_app a b n (fun r hr => h1 r (by simp [hr])) h2]
    rfl
theorem plcR_below : ∀ (l : List Rf) (n : List UInt8), ∀ r ∈ l.take (plcR l n), ltB r.name n = true
  | [], _ => by simp
  | x :: l, n => by
    rw [plcR]
    split
    · rename_i h
      intro r hr
      rw [List.take_succ_cons] at hr
      rcases List.mem_cons.1 hr with rfl | hr
      · exact h
      · exact plcR_below l n r hr
    · simp
theorem plcR_head : ∀ (l : List Rf) (n : List UInt8) (r : Rf), (l.drop (plcR l n)).head? = some r → ltB r.name n = false
  | [], _, r, h => by simp at h
  | x :: l, n, r, h => by
    rw [plcR] at h
    split at h
    · exact plcR_head l n r (by simpa using h)
    · rename_i h1
      simp at h
      subst h
      simpa using h1
/-- Whether it stands there. -/
def hasR (l : List Rf) (n : List UInt8) : Bool := match (l.drop (plcR l n)).head? with
  | some r => r.name == n
  | none => false
/-- With a ref in its place. -/
def setL (l : List Rf) (x : Rf) : List Rf := (witR l x.name).take (plcR (witR l x.name) x.name) ++ x :: (witR l x.name).drop (plcR (witR l x.name) x.name)
theorem witR_all {l : List Rf} {n : List UInt8} (h : ∀ r ∈ l, r.name ≠ n) : witR l n = l := by
  rw [witR, List.filter_eq_self]
  intro r hr
  simpa using h r hr
theorem ltB_ne {a b : List UInt8} (h : ltB a b = true) : a ≠ b := fun e => by rw [e, ltB_irrefl] at h; cases h
theorem ltB_ne' {a b : List UInt8} (h : ltB a b = true) : b ≠ a := fun e => ltB_ne h e.symm
/-- A rising list around the place of a name. -/
theorem around {l : List Rf} (h : l.Pairwise fun a b => ltB a.name b.name = true) (n : List UInt8) :
    (hasR l n = true ∧ ∃ a c b, l = a ++ c :: b ∧ a.length = plcR l n ∧ c.name = n ∧ witR l n = a ++ b ∧ (∀ r ∈ a, ltB r.name n = true) ∧ (∀ r ∈ b, ltB n r.name = true)) ∨
    (hasR l n = false ∧ ∃ a b, l = a ++ b ∧ a.length = plcR l n ∧ witR l n = l ∧ (∀ r ∈ a, ltB r.name n = true) ∧ (∀ r ∈ b, ltB n r.name = true)) := by
  have hle := plcR_le l n
  have ha := plcR_below l n
  have hh := plcR_head l n
  have hsp : l = l.take (plcR l n) ++ l.drop (plcR l n) := (List.take_append_drop _ _).symm
  have hl : (l.take (plcR l n)).length = plcR l n := by rw [List.length_take]; omega
  have hp := h
  rw [hsp, List.pairwise_append] at hp
  have hu : hasR l n = (match (l.drop (plcR l n)).head? with | some r => r.name == n | none => false) := rfl
  generalize l.take (plcR l n) = a at *
  generalize l.drop (plcR l n) = b at *
  rw [hu]
  have hna : ∀ r ∈ a, r.name ≠ n := fun r hr => ltB_ne (ha r hr)
  rcases b with _ | ⟨c, b⟩
  · refine .inr ⟨rfl, a, [], hsp, hl, ?_, ha, fun r hr => by cases hr⟩
    rw [hsp, List.append_nil]; exact witR_all hna
  · have hc := hh c rfl
    have hb := List.pairwise_cons.1 hp.2.1
    cases hq : (c.name == n) with
    | true =>
      have hq : c.name = n := by simpa using hq
      subst hq
      refine .inl ⟨by simp, a, c, b, hsp, hl, rfl, ?_, ha, hb.1⟩
      rw [hsp, witR, List.filter_append, List.filter_cons, ← witR, ← witR, witR_all hna, witR_all (fun r hr => ltB_ne' (hb.1 r hr))]
      simp
    | false =>
      have hq : c.name ≠ n := by simpa using hq
      have hlt : ltB n c.name = true := by
        cases e : ltB n c.name with
        | true => rfl
        | false => exact absurd (ltB_total _ _ hc e) hq
      have hgt : ∀ r ∈ c :: b, ltB n r.name = true := fun r hr => by
        rcases List.mem_cons.1 hr with rfl | hr
        · exact hlt
        · exact ltB_trans _ _ _ hlt (hb.1 r hr)
      refine .inr ⟨by simp [hq], a, c :: b, hsp, hl, ?_, ha, hgt⟩
      refine witR_all (fun r hr => ?_)
      rw [hsp, List.mem_append] at hr
      rcases hr with hr | hr
      · exact hna r hr
      · exact ltB_ne' (hgt r hr)
theorem setL_of {l : List Rf} {x : Rf} {a b : List Rf} (hw : witR l x.name = a ++ b) (ha : ∀ r ∈ a, ltB r.name x.name = true) (hb : ∀ r ∈ b, ltB x.name r.name = true) : setL l x = a ++ x :: b := by
  have hp : plcR (a ++ b) x.name = a.length := plcR_app a b x.name ha (fun r hr => ltB_asymm _ _ (hb r (List.mem_of_head? hr)))
  rw [setL, hw, hp, List.take_left, List.drop_left]
theorem set_has {l : List Rf} {x : Rf} (h : l.Pairwise fun a b => ltB a.name b.name = true) (hh : hasR l x.name = true) : plcR l x.name < l.length ∧ setL l x = l.set (plcR l x.name) x ∧ (witR l x.name).length + 1 = l.length := by
  rcases around h x.name with ⟨_, a, c, b, h1, h2, h3, h4, h5, h6⟩ | ⟨h0, _⟩
  · refine ⟨?_, ?_, ?_⟩
    · rw [← h2, h1, List.length_append, List.length_cons]; omega
    · rw [setL_of h4 h5 h6, ← h2]
      conv => rhs; rw [h1]
      simp
    · rw [h4, h1]; simp; omega
  · rw [hh] at h0; cases h0
theorem set_not {l : List Rf} {x : Rf} (h : l.Pairwise fun a b => ltB a.name b.name = true) (hh : hasR l x.name = false) : setL l x = l.take (plcR l x.name) ++ x :: l.drop (plcR l x.name) ∧ witR l x.name = l := by
  rcases around h x.name with ⟨h0, _⟩ | ⟨_, a, b, h1, h2, h3, h4, h5⟩
  · rw [hh] at h0; cases h0
  · refine ⟨?_, h3⟩
    rw [setL_of (h3.trans h1) h4 h5, ← h2]
    conv => rhs; rw [h1]
    simp
theorem drop_has {l : List Rf} {n : List UInt8} (h : l.Pairwise fun a b => ltB a.name b.name = true) (hh : hasR l n = true) : plcR l n < l.length ∧ witR l n = l.take (plcR l n) ++ l.drop (plcR l n + 1) := by
  rcases around h n with ⟨_, a, c, b, h1, h2, h3, h4, h5, h6⟩ | ⟨h0, _⟩
  · refine ⟨?_, ?_⟩
    · rw [← h2, h1, List.length_append, List.length_cons]; omega
    · rw [h4, ← h2]
      conv => rhs; rw [h1]
      simp
  · rw [hh] at h0; cases h0
theorem has_find {l : List Rf} {n : List UInt8} (h : l.Pairwise fun a b => ltB a.name b.name = true) : hasR l n = (findR l n).isSome := by
  rcases around h n with ⟨h0, a, c, b, h1, h2, h3, h4, h5, h6⟩ | ⟨h0, a, b, h1, h2, h3, h4, h5⟩
  · rw [h0]
    cases e : findR l n with
    | some r => rfl
    | none => exact absurd h3 (findR_none.1 e c (by rw [h1]; simp))
  · rw [h0]
    cases e : findR l n with
    | none => rfl
    | some r =>
      obtain ⟨hm, hn⟩ := findR_some e
      rw [h1, List.mem_append] at hm
      rcases hm with hm | hm
      · exact absurd hn (ltB_ne (h4 r hm))
      · exact absurd hn (ltB_ne' (h5 r hm))
theorem findR_mem {l : List Rf} (h : l.Pairwise fun a b => ltB a.name b.name = true) {r : Rf} (hr : r ∈ l) : findR l r.name = some r := by
  induction l with
  | nil => cases hr
  | cons x l ih =>
    have hp := List.pairwise_cons.1 h
    rw [findR_cons]
    rcases List.mem_cons.1 hr with rfl | hr
    · simp
    · rw [if_neg (by simpa using ltB_ne (hp.1 r hr))]
      exact ih hp.2 hr
/-- A table with a ref is a table, which has that ref, and all others. -/
theorem set_tab {l : List Rf} {x : Rf} (h : TabR l) (hx : rightB x.name = true) (hw : (witR l x.name).length ≠ 64) :
    TabR (setL l x) ∧ findR (setL l x) x.name = some x ∧ (∀ r ∈ l, r.name ≠ x.name → findR (setL l x) r.name = some r) ∧ witR (setL l x) x.name = witR l x.name ∧ (setL l x).length = (witR l x.name).length + 1 := by
  have key : ∃ a b, witR l x.name = a ++ b ∧ (∀ r ∈ a, ltB r.name x.name = true) ∧ (∀ r ∈ b, ltB x.name r.name = true) := by
    rcases around h.rise x.name with ⟨_, a, c, b, h1, h2, h3, h4, h5, h6⟩ | ⟨_, a, b, h1, h2, h3, h4, h5⟩
    · exact ⟨a, b, h4, h5, h6⟩
    · exact ⟨a, b, h3.trans h1, h4, h5⟩
  obtain ⟨a, b, h1, h2, h3⟩ := key
  have hs := setL_of h1 h2 h3
  have hsub : (witR l x.name).Sublist l := List.filter_sublist
  have hp := h.rise.sublist hsub
  have hlen := hsub.length_le
  have hmem : ∀ r ∈ a ++ b, r ∈ l := fun r hr => hsub.subset (by rw [h1]; exact hr)
  rw [h1, List.pairwise_append] at hp
  have hr : (a ++ x :: b).Pairwise fun a b => ltB a.name b.name = true := by
    rw [List.pairwise_append]
    refine ⟨hp.1, List.pairwise_cons.2 ⟨h3, hp.2.1⟩, fun p hp1 q hq => ?_⟩
    rcases List.mem_cons.1 hq with rfl | hq
    · exact h2 p hp1
    · exact hp.2.2 p hp1 q hq
  have hT : TabR (setL l x) := by
    rw [hs]
    refine ⟨?_, ?_, hr⟩
    · rw [h1] at hw hlen
      have := h.len
      simp at hw hlen ⊢
      omega
    · intro r hr
      simp only [List.mem_append, List.mem_cons] at hr
      rcases hr with hr | rfl | hr
      · exact h.right r (hmem r (by simp [hr]))
      · exact hx
      · exact h.right r (hmem r (by simp [hr]))
  refine ⟨hT, findR_mem hT.rise (by rw [hs]; simp), fun r hr hne => findR_mem hT.rise ?_, ?_, ?_⟩
  · have : r ∈ witR l x.name := by rw [witR, List.mem_filter]; exact ⟨hr, by simpa using hne⟩
    rw [h1] at this
    rw [hs]
    simp only [List.mem_append, List.mem_cons] at this ⊢
    rcases this with h | h
    · exact .inl h
    · exact .inr (.inr h)
  · rw [hs, h1, witR, List.filter_append, List.filter_cons, ← witR, ← witR, witR_all (fun r hr => ltB_ne (h2 r hr)), witR_all (fun r hr => ltB_ne' (h3 r hr))]
    simp
  · rw [hs, h1]; simp; omega
theorem wit_find (l : List Rf) (n : List UInt8) : findR (witR l n) n = none := findR_none.2 (fun r hr => by
  rw [witR, List.mem_filter] at hr
  simpa using hr.2)
end Go.Proofs.YtoakbdmfoepdgaaDoor

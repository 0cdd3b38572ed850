/- What is proved: texts that stand one behind the other: Pra Prb. Conditions: each theorem names its own. -/
import Derived.Test.YtkaeoflgnnlbeaaGreatDoorQPga
/- What is proved: plain facts on an entry that is read through a window of its bytes, and on the chain of entries that lie on one another. Conditions: each names its own. -/
namespace Go.Proofs.YtkaeoflgnnlbeaaGreatDoor
open Go.RowKit
set_option linter.unusedVariables false

/-- A number of more than one digit has so many. -/
theorem scan_min (f k a : Nat) (l : List UInt8) (h : (scan f k a l).2.2 = 0) : (scan f k a l).2.1 = 1 ∨ 128 ^ ((scan f k a l).2.1 - 1) ≤ (scan f k a l).1 := by
  induction f generalizing k a l with
  | zero => simp [scan] at h
  | succ f ih =>
    cases l with
    | nil => simp [scan] at h
    | cons c t =>
      unfold scan at h ⊢
      split at h
      · simp at h
      · rename_i h1
        rw [if_neg h1]
        split at h
        · rename_i h2
          rw [if_pos h2]
          by_cases hk : k = 0
          · left; simp [hk]
          · right
            have hc : 1 ≤ c.toNat % 128 := by
              have : ¬ c.toNat = 0 := fun e => h1 (.inr ⟨by omega, e⟩)
              omega
            show 128 ^ (k + 1 - 1) ≤ a + c.toNat % 128 * 128 ^ k
            rw [Nat.add_sub_cancel]
            have := Nat.mul_le_mul_right (128 ^ k) hc
            omega
        · rename_i h2
          rw [if_neg h2]
          exact ih _ _ _ h
theorem scan_take (f k a m : Nat) (l : List UInt8) (h : f ≤ m) : scan f k a (l.take m) = scan f k a l := by
  induction f generalizing k a l m with
  | zero => rfl
  | succ f ih =>
    cases l with
    | nil => simp
    | cons c t =>
      obtain ⟨m, rfl⟩ : ∃ n, m = n + 1 := ⟨m - 1, by omega⟩
      rw [List.take_succ_cons]
      unfold scan
      rw [ih (k + 1) _ m t (by omega)]
/-- Of what is read of a number that is most at most: where it ends. -/
theorem varO_end (bs : List UInt8) (p : Nat) (er most : Int) (h : (varO bs p er most).2.2 = 0) : er = 0 ∧ p + 1 ≤ (varO bs p er most).2.1 ∧ (varO bs p er most).2.1 ≤ bs.length ∧ ((varO bs p er most).2.1 = p + 1 ∨ (128 : Int) ^ ((varO bs p er most).2.1 - p - 1) ≤ most) := by
  unfold varO at h ⊢
  split at h
  · rename_i h1; exact absurd h h1
  · rename_i h1
    rw [if_neg h1]
    split at h
    · cases h
    · rename_i h2
      rw [if_neg h2]
      have g1 : (digR bs p er).2.2 = 0 := by simpa using h1
      clear h1
      unfold digR at g1 h2 ⊢
      split at g1
      · rename_i he
        subst he
        rw [if_pos rfl] at h2 ⊢
        have h3 := scan_size 10 0 0 (bs.drop p) g1
        have h4 := scan_min 10 0 0 (bs.drop p) g1
        have hv : varR (bs.drop p) = scan 10 0 0 (bs.drop p) := rfl
        rw [hv] at h2 ⊢
        obtain ⟨⟨a, b, c⟩, hs⟩ : ∃ z, scan 10 0 0 (bs.drop p) = z := ⟨_, rfl⟩
        rw [hs] at h2 h3 h4 ⊢
        simp only [List.length_drop] at h2 h3 h4 ⊢
        refine ⟨trivial, by omega, by omega, ?_⟩
        rcases h4 with h4 | h4
        · left; omega
        · right
          rw [show p + b - p - 1 = b - 1 by omega]
          have : (128 : Int) ^ (b - 1) ≤ a := by exact_mod_cast h4
          omega
      · rename_i he; exact absurd g1 he
theorem varO_2 {bs : List UInt8} {p : Nat} {er : Int} (h : (varO bs p er 4000).2.2 = 0) : (varO bs p er 4000).2.1 ≤ p + 2 := by
  obtain ⟨_, h1, _, h2⟩ := varO_end bs p er 4000 h
  obtain ⟨q, hq⟩ : ∃ q, (varO bs p er 4000).2.1 = q := ⟨_, rfl⟩
  rw [hq] at h1 h2 ⊢
  rcases h2 with h2 | h2
  · omega
  · by_cases e : p + 2 < q
    · exfalso
      have : (128 : Int) ^ 2 ≤ 128 ^ (q - p - 1) := by
        have := Nat.pow_le_pow_right (n := 128) (by decide) (show 2 ≤ q - p - 1 by omega)
        exact_mod_cast this
      omega
    · omega
theorem varO_3 {bs : List UInt8} {p : Nat} {er : Int} (h : (varO bs p er 1048576).2.2 = 0) : (varO bs p er 1048576).2.1 ≤ p + 3 := by
  obtain ⟨_, h1, _, h2⟩ := varO_end bs p er 1048576 h
  obtain ⟨q, hq⟩ : ∃ q, (varO bs p er 1048576).2.1 = q := ⟨_, rfl⟩
  rw [hq] at h1 h2 ⊢
  rcases h2 with h2 | h2
  · omega
  · by_cases e : p + 3 < q
    · exfalso
      have : (128 : Int) ^ 3 ≤ 128 ^ (q - p - 1) := by
        have := Nat.pow_le_pow_right (n := 128) (by decide) (show 3 ≤ q - p - 1 by omega)
        exact_mod_cast this
      omega
    · omega
theorem varO_10 (bs : List UInt8) (p : Nat) (er most : Int) : p ≤ (varO bs p er most).2.1 ∧ (varO bs p er most).2.1 ≤ p + 10 := by
  unfold varO
  split
  · exact ⟨Nat.le_refl _, by simp⟩
  · split
    · exact ⟨Nat.le_refl _, by simp⟩
    · rename_i h1 _
      have g1 : (digR bs p er).2.2 = 0 := by simpa using h1
      clear h1
      unfold digR at g1 ⊢
      split at g1
      · rename_i he
        rw [if_pos he]
        have := scan_size 10 0 0 (bs.drop p) g1
        unfold varR
        simp only
        omega
      · rename_i he
        exact absurd g1 he

/-- The window's functions, by the whole. -/
structure Win (D W : List UInt8) (P : Nat) : Prop where
  eq : W = (D.drop P).take 4025
  lt : P < D.length
section
variable {D W : List UInt8} {P : Nat}
theorem Win.len (h : Win D W P) : W.length = min 4025 (D.length - P) := by rw [h.eq, List.length_take, List.length_drop]
theorem Win.drp (h : Win D W P) (p : Nat) : W.drop p = (D.drop (P + p)).take (4025 - p) := by rw [h.eq, List.drop_take, List.drop_drop]
theorem Win.err (h : Win D W P) (p n : Nat) (er : Int) (hp : p + n ≤ 4025) (hq : P + p ≤ D.length) : hasErr W.length p er n = hasErr D.length (P + p) er n := by
  have := h.len
  have := h.lt
  unfold hasErr
  by_cases he : er = 0
  · rw [if_pos he, if_pos he]
    by_cases hn : (n : Int) ≤ (W.length : Int) - p
    · rw [if_pos hn, if_pos (by push_cast; omega)]
    · rw [if_neg hn, if_neg (by push_cast; omega)]
  · rw [if_neg he, if_neg he]
theorem Win.step (h : Win D W P) (p n : Nat) (er : Int) (hp : p + n ≤ 4025) : P + stepAt W.length p er n = stepAt D.length (P + p) er n := by
  have := h.len
  have := h.lt
  unfold stepAt
  by_cases he : er = 0 ∧ p + n ≤ W.length
  · rw [if_pos he, if_pos ⟨he.1, by omega⟩]; omega
  · rw [if_neg he, if_neg (fun e => he ⟨e.1, by omega⟩)]
theorem Win.tk (h : Win D W P) (p n : Nat) (hp : p + n ≤ 4025) : (W.drop p).take n = (D.drop (P + p)).take n := by
  rw [h.drp, List.take_take, Nat.min_eq_left (by omega)]
theorem Win.num (h : Win D W P) (p n : Nat) (er : Int) (hp : p + n ≤ 4025) (hq : P + p ≤ D.length) : numV W p er n = numV D (P + p) er n := by
  unfold numV
  rw [h.err p n er hp hq, h.tk p n hp]
theorem Win.var (h : Win D W P) (p : Nat) (er most : Int) (hp : p + 10 ≤ 4025) : varO D (P + p) er most = ((varO W p er most).1, P + (varO W p er most).2.1, (varO W p er most).2.2) := by
  have e : digR W p er = digR D (P + p) er := by
    unfold digR
    split
    · unfold varR
      rw [h.drp, scan_take _ _ _ _ _ (by omega)]
    · rfl
  unfold varO
  rw [e]
  split
  · rfl
  · split
    · rfl
    · simp only [Nat.add_assoc]
theorem Win.rerr (h : Win D W P) (p n : Nat) (er : Int) (hp : p + n ≤ 4025) (hq : P + p ≤ D.length) : rawErr W.length p er n = rawErr D.length (P + p) er n := by
  rw [rawErr_num, rawErr_num, h.err p n er hp hq]
theorem Win.rat (h : Win D W P) (p n : Nat) (er : Int) (hp : p + n ≤ 4025) : P + rawAt W.length p er n = rawAt D.length (P + p) er n := by
  rw [rawAt_num, rawAt_num, h.step p n er hp]
theorem Win.rb (h : Win D W P) (p n : Nat) (er : Int) (hp : p + n ≤ 4025) (hq : P + p ≤ D.length) : rawB W p er n = rawB D (P + p) er n := by
  unfold rawB
  have hn : ¬ (n : Int) < 0 := by omega
  rw [if_neg hn, if_neg hn, h.err p n er hp hq, Int.toNat_natCast, h.tk p n hp]
end

/-- The rest of an entry, behind its numbers, through the window. -/
def entT (W : List UInt8) (P : Int) (ml : Bool) (k base size : Int) (p : Nat) (er : Int) : EntR :=
  if hasErr W.length p er 4 ≠ 0 then zE (hasErr W.length p er 4)
  else if k = 5 ∧ ml = false then zE 20
  else if rawErr W.length (stepAt W.length p er 4) 0 size ≠ 0 then zE (rawErr W.length (stepAt W.length p er 4) 0 size)
  else if crcI (rawB W (stepAt W.length p er 4) 0 size) ≠ numV W p er 4 then zE 13
  else ((k, base, P + rawAt W.length (stepAt W.length p er 4) 0 size, numV W p er 4, rawB W (stepAt W.length p er 4) 0 size), 0)
def entK (W : List UInt8) (P : Int) (ml : Bool) (k : Int) (z : Nat × Nat × Int) : EntR :=
  if k < 1 ∨ 5 < k then zE 19
  else if k = 5 then
    (if (varO W z.2.1 z.2.2 1048576).2.2 = 0 ∧ ¬ (12 ≤ P - (varO W z.2.1 z.2.2 1048576).1 ∧ P - (varO W z.2.1 z.2.2 1048576).1 < P) then zE 21
     else entT W P ml 5 (P - (varO W z.2.1 z.2.2 1048576).1) z.1 (varO W z.2.1 z.2.2 1048576).2.1 (varO W z.2.1 z.2.2 1048576).2.2)
  else entT W P ml k 0 z.1 z.2.1 z.2.2
def entW (W : List UInt8) (P : Int) (ml : Bool) : EntR := entK W P ml (byteAt W 0 0).toNat (varO W 1 0 4000)

theorem hasErr_er {len p n : Nat} {er : Int} (h : hasErr len p er n = 0) : er = 0 := by
  by_cases e : er = 0
  · exact e
  · rw [hasErr_err e] at h; exact absurd h e
theorem entT_opn {D W : List UInt8} {P : Nat} (h : Win D W P) (ml : Bool) (k base : Int) (s p : Nat) (er : Int) (hp : p ≤ 21) (hq : P + p ≤ D.length) (hs : s ≤ 4000) (hd : k = 5 → ml = true) :
    entT W P ml k base s p er = opnT D k base s (P + p) er := by
  unfold entT opnT
  have e4 : ∀ (n : Nat) (q : Nat) (r : Int), hasErr n q r 4 = hasErr n q r ((4 : Nat) : Int) := fun _ _ _ => rfl
  rw [e4, e4, h.err p 4 er (by omega) hq, h.num p 4 er (by omega) hq, ← h.step p 4 er (by omega)]
  have hp4 : stepAt W.length p er 4 ≤ p + 4 ∧ P + stepAt W.length p er 4 ≤ D.length := by
    have := h.len
    have := h.lt
    unfold stepAt
    split
    · omega
    · omega
  generalize stepAt W.length p er 4 = p4 at hp4
  by_cases h4 : hasErr D.length (P + p) er (4 : Nat) = 0
  · rw [h4, if_neg (by simp), if_neg (by intro ⟨e1, e2⟩; rw [hd e1] at e2; cases e2)]
    rw [h.rerr p4 s 0 (by omega) (by omega), h.rb p4 s 0 (by omega) (by omega), ← h.rat p4 s 0 (by omega)]
    rfl
  · rw [if_pos h4, if_pos]
    · rw [rawErr_num, hasErr_err h4]
    · rw [rawErr_num, hasErr_err h4]; exact h4
theorem byteAt_win {D W : List UInt8} {P : Nat} (h : Win D W P) : numV D P 0 1 = (byteAt W 0 0).toNat ∧ stepAt D.length P 0 1 = P + 1 ∧ hasErr D.length P 0 1 = 0 := by
  have hl := h.lt
  have e0 : hasErr D.length P 0 1 = 0 := hasErr_ok (by omega)
  refine ⟨?_, by unfold stepAt; rw [if_pos ⟨rfl, by omega⟩], e0⟩
  unfold numV byteAt
  rw [show hasErr D.length P 0 (1 : Nat) = 0 from e0, if_pos rfl, if_pos rfl]
  have hw : W.getD 0 0 = D.getD P 0 := by
    rw [h.eq, List.getD_eq_getElem?_getD, List.getD_eq_getElem?_getD, List.getElem?_take, if_pos (by decide), List.getElem?_drop]
    rfl
  have e1 : (D.drop P).take 1 = [D[P]] := by rw [List.drop_eq_getElem_cons hl]; rfl
  rw [hw, e1, List.getD_eq_getElem?_getD, List.getElem?_eq_getElem hl]
  simp [bigV]
/-- An entry through its window is the entry. -/
theorem entW_opn {D W : List UInt8} {P : Nat} (h : Win D W P) (h12 : 12 ≤ P) (ml : Bool) (over : Int) (hm : (ml = true ∧ over ≠ 8) ∨ (ml = false ∧ over = 8 ∧ P + 10 ≤ D.length)) :
    entW W P ml = opnD D P over := by
  obtain ⟨b1, b2, b3⟩ := byteAt_win h
  unfold entW opnD
  rw [Int.toNat_natCast, b1, b2, b3, h.var 1 0 4000 (by omega)]
  have hz := varO_10 W 1 0 4000
  have hz2 : (varO W 1 0 4000).2.1 ≤ W.length := by
    by_cases e : (varO W 1 0 4000).2.2 = 0
    · exact (varO_end W 1 0 4000 e).2.2.1
    · have : (varO W 1 0 4000).2.1 = 1 := by
        unfold varO at e ⊢
        split
        · rfl
        · rename_i h1
          rw [if_neg h1] at e
          split
          · rfl
          · rename_i h2
            rw [if_neg h2] at e
            exact absurd rfl e
      rw [this, h.len]
      have := h.lt
      omega
  have hzm := varO_mostP W 1 0 4000 (by omega)
  have hz3 := varO_2 (bs := W) (p := 1) (er := 0)
  obtain ⟨⟨v, q, r⟩, hv⟩ : ∃ z, varO W 1 0 4000 = z := ⟨_, rfl⟩
  rw [hv] at hz hz2 hzm hz3 ⊢
  simp only at hz hz2 hzm hz3 ⊢
  have hlen := h.len
  have hlt := h.lt
  generalize ((byteAt W 0 0).toNat : Int) = k
  unfold entK opnK
  by_cases hk : k < 1 ∨ 5 < k
  · rw [if_pos hk, if_pos hk]
  · rw [if_neg hk, if_neg hk]
    by_cases h5 : k = 5
    · rw [if_pos h5, if_pos h5]
      simp only
      rw [h.var q r 1048576 (by omega)]
      have hy := varO_10 W q r 1048576
      have hy2 : (varO W q r 1048576).2.1 ≤ W.length := by
        by_cases e : (varO W q r 1048576).2.2 = 0
        · exact (varO_end W q r 1048576 e).2.2.1
        · have : (varO W q r 1048576).2.1 = q := by
            unfold varO at e ⊢
            split
            · rfl
            · rename_i h1
              rw [if_neg h1] at e
              split
              · rfl
              · rename_i h2
                rw [if_neg h2] at e
                exact absurd rfl e
          rw [this]; exact hz2
      have hy3 := varO_3 (bs := W) (p := q) (er := r)
      have hy4 := varO_end W q r 1048576
      obtain ⟨⟨v2, q2, r2⟩, hv2⟩ : ∃ z, varO W q r 1048576 = z := ⟨_, rfl⟩
      rw [hv2] at hy hy2 hy3 hy4 ⊢
      simp only at hy hy2 hy3 hy4 ⊢
      by_cases hb : r2 = 0 ∧ ¬ (12 ≤ (P : Int) - v2 ∧ (P : Int) - v2 < P)
      · rw [if_pos hb, if_pos ⟨hb.1, by have := hb.2; omega⟩]
      · rw [if_neg hb, if_neg (fun e => hb ⟨e.1, by omega⟩)]
        rcases hm with ⟨rfl, ho⟩ | ⟨rfl, rfl, hr⟩
        · rw [if_neg (fun e => ho e.2), entT_opn h true 5 _ v q2 r2 (by omega) (by omega) (by omega) (fun _ => rfl)]
        · by_cases he : r2 = 0
          · rw [if_pos ⟨he, rfl⟩]
            have a3 := hy3 he
            have a0 := (hy4 he).1
            have a2 := hz3 a0
            subst he
            unfold entT
            rw [show hasErr W.length q2 0 4 = 0 from hasErr_ok (by omega), if_neg (by simp), if_pos ⟨rfl, rfl⟩]
          · rw [if_neg (fun e => he e.1)]
            have e4 : hasErr W.length q2 r2 4 = r2 := hasErr_err he
            have e5 : hasErr D.length (P + q2) r2 4 = r2 := hasErr_err he
            unfold entT opnT
            rw [e4, e5, if_pos he, rawErr_num, hasErr_err he, if_pos he]
    · rw [if_neg h5, if_neg h5]
      exact entT_opn h ml k 0 v q r (by omega) (by omega) (by omega) (fun e => absurd e h5)
end Go.Proofs.YtkaeoflgnnlbeaaGreatDoor
/- What is proved: plain facts on the chain of entries that lie on one another, and what they make. Conditions: each names its own. -/
namespace Go.Proofs.YtkaeoflgnnlbeaaGreatDoor
open Go.RowKit
set_option linter.unusedVariables false

abbrev Ent := Int × Int × Int × Int × List UInt8
/-- The entry at a place and all that it lies on, the whole one last. -/
def chP (bs : List UInt8) : Nat → Int → List Ent × Int
  | 0, at' => if (opnE bs at' 8).2 ≠ 0 then ([], (opnE bs at' 8).2) else ([(opnE bs at' 8).1], 0)
  | n + 1, at' =>
    if (opnE bs at' (8 - (n + 1))).2 ≠ 0 then ([], (opnE bs at' (8 - (n + 1))).2)
    else if (opnE bs at' (8 - (n + 1))).1.1 < 5 then ([(opnE bs at' (8 - (n + 1))).1], 0)
    else if (chP bs n (opnE bs at' (8 - (n + 1))).1.2.1).2 ≠ 0 then ([], (chP bs n (opnE bs at' (8 - (n + 1))).1.2.1).2)
    else ((opnE bs at' (8 - (n + 1))).1 :: (chP bs n (opnE bs at' (8 - (n + 1))).1.2.1).1, 0)
/-- What scripts make of a body, one behind the other. -/
def mdR (rd : List UInt8 → (Int × Int × List DOp) × Int) (ap : List UInt8 → Int → Int → List DOp → List UInt8 × Int) : List UInt8 → List Ent → List UInt8 × Int
  | body, [] => (body, 0)
  | body, x :: r =>
    if (rd x.2.2.2.2).2 ≠ 0 then ([], (rd x.2.2.2.2).2)
    else if (ap body (rd x.2.2.2.2).1.1 (rd x.2.2.2.2).1.2.1 (rd x.2.2.2.2).1.2.2).2 ≠ 0 then ([], (ap body (rd x.2.2.2.2).1.1 (rd x.2.2.2.2).1.2.1 (rd x.2.2.2.2).1.2.2).2)
    else mdR rd ap (ap body (rd x.2.2.2.2).1.1 (rd x.2.2.2.2).1.2.1 (rd x.2.2.2.2).1.2.2).1 r
def madeP (rd : List UInt8 → (Int × Int × List DOp) × Int) (ap : List UInt8 → Int → Int → List DOp → List UInt8 × Int) : List Ent → (Int × List UInt8) × Int
  | [] => ((0, []), 0)
  | x :: r => if (mdR rd ap x.2.2.2.2 r).2 ≠ 0 then ((0, []), (mdR rd ap x.2.2.2.2 r).2) else ((x.1, (mdR rd ap x.2.2.2.2 r).1), 0)
theorem mdR_snoc (rd : List UInt8 → (Int × Int × List DOp) × Int) (ap : List UInt8 → Int → Int → List DOp → List UInt8 × Int) (body : List UInt8) (r : List Ent) (x : Ent) :
    mdR rd ap body (r ++ [x]) = if (mdR rd ap body r).2 ≠ 0 then ([], (mdR rd ap body r).2) else mdR rd ap (mdR rd ap body r).1 [x] := by
  induction r generalizing body with
  | nil =>
    rw [List.nil_append]
    rw [show mdR rd ap body [] = (body, 0) from rfl, if_neg (by simp)]
  | cons y r ih =>
    rw [List.cons_append]
    rw [show mdR rd ap body (y :: (r ++ [x])) = (if (rd y.2.2.2.2).2 ≠ 0 then ([], (rd y.2.2.2.2).2)
      else if (ap body (rd y.2.2.2.2).1.1 (rd y.2.2.2.2).1.2.1 (rd y.2.2.2.2).1.2.2).2 ≠ 0 then ([], (ap body (rd y.2.2.2.2).1.1 (rd y.2.2.2.2).1.2.1 (rd y.2.2.2.2).1.2.2).2)
      else mdR rd ap (ap body (rd y.2.2.2.2).1.1 (rd y.2.2.2.2).1.2.1 (rd y.2.2.2.2).1.2.2).1 (r ++ [x])) from rfl]
    rw [show mdR rd ap body (y :: r) = (if (rd y.2.2.2.2).2 ≠ 0 then ([], (rd y.2.2.2.2).2)
      else if (ap body (rd y.2.2.2.2).1.1 (rd y.2.2.2.2).1.2.1 (rd y.2.2.2.2).1.2.2).2 ≠ 0 then ([], (ap body (rd y.2.2.2.2).1.1 (rd y.2.2.2.2).1.2.1 (rd y.2.2.2.2).1.2.2).2)
      else mdR rd ap (ap body (rd y.2.2.2.2).1.1 (rd y.2.2.2.2).1.2.1 (rd y.2.2.2.2).1.2.2).1 r) from rfl]
    generalize rd y.2.2.2.2 = s
    by_cases h1 : s.2 ≠ 0
    · rw [if_pos h1, if_pos h1, if_pos h1]
    · rw [if_neg h1, if_neg h1]
      generalize ap body s.1.1 s.1.2.1 s.1.2.2 = a
      by_cases h2 : a.2 ≠ 0
      · rw [if_pos h2, if_pos h2, if_pos h2]
      · rw [if_neg h2, if_neg h2, ih]
theorem chP_ne (bs : List UInt8) (n : Nat) (at' : Int) (h : (chP bs n at').2 = 0) : (chP bs n at').1 ≠ [] := by
  cases n with
  | zero =>
    unfold chP at h ⊢
    split
    · rename_i h1; rw [if_pos h1] at h; exact absurd h h1
    · simp
  | succ n =>
    unfold chP at h ⊢
    split
    · rename_i h1; rw [if_pos h1] at h; exact absurd h h1
    · rename_i h1
      rw [if_neg h1] at h
      split
      · simp
      · rename_i h2
        rw [if_neg h2] at h
        split
        · rename_i h3; rw [if_pos h3] at h; exact absurd h h3
        · simp
theorem readP_ch (rd : List UInt8 → (Int × Int × List DOp) × Int) (ap : List UInt8 → Int → Int → List DOp → List UInt8 × Int) (bs : List UInt8) (n : Nat) (at' : Int) :
    readP rd ap bs n at' = if (chP bs n at').2 ≠ 0 then ((0, []), (chP bs n at').2) else madeP rd ap (chP bs n at').1.reverse := by
  have hm : ∀ (y : Ent) (t : List Ent), madeP rd ap (y :: t) = if (mdR rd ap y.2.2.2.2 t).2 ≠ 0 then ((0, []), (mdR rd ap y.2.2.2.2 t).2) else ((y.1, (mdR rd ap y.2.2.2.2 t).1), 0) := fun _ _ => rfl
  induction n generalizing at' with
  | zero =>
    unfold readP chP
    simp only
    by_cases h : (opnE bs at' 8).2 ≠ 0
    · rw [if_pos h, if_pos h]; exact (if_pos h).symm
    · rw [if_neg h, if_neg h, if_neg (by simp)]
      simp only [List.reverse_singleton, hm]
      rw [if_neg (by simp [mdR])]
      rfl
  | succ n ih =>
    unfold readP chP
    simp only
    generalize opnE bs at' (8 - (n + 1)) = x
    by_cases h1 : x.2 ≠ 0
    · rw [if_pos h1, if_pos h1]; exact (if_pos h1).symm
    · rw [if_neg h1, if_neg h1]
      by_cases h2 : x.1.1 < 5
      · rw [if_pos h2, if_pos h2, if_neg (by simp)]
        simp only [List.reverse_singleton, hm]
        rw [if_neg (by simp [mdR])]
        rfl
      · rw [if_neg h2, if_neg h2, ih]
        have hne := chP_ne bs n x.1.2.1
        generalize chP bs n x.1.2.1 = r at hne
        by_cases h3 : r.2 ≠ 0
        · rw [if_pos h3, if_pos h3]
          simp only
          rw [if_pos h3, if_pos h3]
        · rw [if_neg h3, if_neg h3]
          have hne := hne (by simpa using h3)
          obtain ⟨y, t, hy⟩ : ∃ y t, r.1.reverse = y :: t := List.exists_cons_of_ne_nil (by simpa using hne)
          simp only [List.reverse_cons, hy, List.cons_append, hm, mdR_snoc]
          generalize mdR rd ap y.2.2.2.2 t = u
          have h00 : ¬ (0 : Int) ≠ 0 := by simp
          rw [if_neg h00]
          by_cases h4 : u.2 ≠ 0
          · rw [if_pos h4, if_pos h4]
            simp only
            rw [if_pos h4, if_pos h4]
          · rw [if_neg h4, if_neg h4]
            simp only
            rw [if_neg (by simp)]
            rw [show mdR rd ap u.1 [x.1] = (if (rd x.1.2.2.2.2).2 ≠ 0 then ([], (rd x.1.2.2.2.2).2)
      else if (ap u.1 (rd x.1.2.2.2.2).1.1 (rd x.1.2.2.2.2).1.2.1 (rd x.1.2.2.2.2).1.2.2).2 ≠ 0 then ([], (ap u.1 (rd x.1.2.2.2.2).1.1 (rd x.1.2.2.2.2).1.2.1 (rd x.1.2.2.2.2).1.2.2).2)
      else mdR rd ap (ap u.1 (rd x.1.2.2.2.2).1.1 (rd x.1.2.2.2.2).1.2.1 (rd x.1.2.2.2.2).1.2.2).1 []) from rfl]
            generalize rd x.1.2.2.2.2 = s
            by_cases h5 : s.2 ≠ 0
            · rw [if_pos h5, if_pos h5]
              simp only
              rw [if_pos h5]
            · rw [if_neg h5, if_neg h5]
              generalize ap u.1 s.1.1 s.1.2.1 s.1.2.2 = a
              by_cases h6 : a.2 ≠ 0
              · rw [if_pos h6, if_pos h6]
                simp only
                rw [if_pos h6]
              · rw [if_neg h6, if_neg h6]
                simp [mdR]
theorem rawErr_er {len p : Nat} {er n : Int} (h : rawErr len p er n = 0) : er = 0 := by
  by_cases e : er = 0
  · exact e
  · exfalso
    unfold rawErr at h
    split at h
    · unfold failErr at h; rw [if_neg e] at h; exact e h
    · rw [hasErr_err e] at h; exact e h
/-- Of an entry that is told: there is room behind where it begins; its base is ahead of it. -/
theorem opnE_room {bs : List UInt8} {at' over : Int} (h : (opnE bs at' over).2 = 0) : 44 ≤ bs.length ∧ 12 ≤ at' ∧ at' + 6 ≤ bs.length - 32 ∧ ((opnE bs at' over).1.1 < 5 ∨ (12 ≤ (opnE bs at' over).1.2.1 ∧ (opnE bs at' over).1.2.1 < at')) := by
  have hT : ∀ (D : List UInt8) (k base s : Int) (p : Nat) (er : Int), (opnT D k base s p er).2 = 0 → p + 4 ≤ D.length ∧ (opnT D k base s p er).1.1 = k ∧ (opnT D k base s p er).1.2.1 = base := by
    intro D k base s p er h
    unfold opnT at h ⊢
    split at h
    · rename_i h1; exact absurd h h1
    · rename_i h1
      rw [if_neg h1]
      split at h
      · exact absurd h (by simp [zE])
      · rename_i h2
        rw [if_neg h2]
        refine ⟨?_, rfl, rfl⟩
        have h1 : rawErr D.length (stepAt D.length p er 4) (hasErr D.length p er 4) s = 0 := by simpa using h1
        have h3 : hasErr D.length p er 4 = 0 := rawErr_er h1
        have := hasErr_zero h3
        omega
  unfold opnE at h ⊢
  split at h
  · cases h
  · rename_i h1
    rw [if_neg h1]
    split at h
    · cases h
    · rename_i h2
      rw [if_neg h2]
      obtain ⟨P, rfl⟩ := Int.eq_ofNat_of_zero_le (show 0 ≤ at' by omega)
      have hl : (bs.take (bs.length - 32)).length = bs.length - 32 := by rw [List.length_take]; omega
      generalize bs.take (bs.length - 32) = D at h hl ⊢
      unfold opnD opnK at h ⊢
      rw [Int.toNat_natCast] at h ⊢
      have hs1 : stepAt D.length P 0 1 = P + 1 := by unfold stepAt; rw [if_pos ⟨rfl, by omega⟩]
      rw [hs1] at h ⊢
      have hz := varO_end D (P + 1) (hasErr D.length P 0 1) 4000
      have hz0 := varO_10 D (P + 1) (hasErr D.length P 0 1) 4000
      generalize varO D (P + 1) (hasErr D.length P 0 1) 4000 = z at h hz hz0 ⊢
      generalize (numV D P 0 1 : Int) = k at h ⊢
      have hzq : ∀ (k base s : Int), (opnT D k base s z.2.1 z.2.2).2 = 0 → P + 6 ≤ D.length := by
        intro k base s h
        have h3 := (hT _ _ _ _ _ _ h).1
        by_cases e : z.2.2 = 0
        · have := hz e; omega
        · exfalso
          unfold opnT at h
          have e1 : hasErr D.length z.2.1 z.2.2 4 = z.2.2 := hasErr_err e
          rw [e1] at h
          have e2 : rawErr D.length (stepAt D.length z.2.1 z.2.2 4) z.2.2 s ≠ 0 := fun e0 => e (rawErr_er e0)
          rw [if_pos e2] at h
          exact e2 h
      split at h
      · cases h
      · rename_i h3
        rw [if_neg h3]
        split at h
        · rename_i h4
          rw [if_pos h4]
          have hy0 := varO_10 D z.2.1 z.2.2 1048576
          have hy := varO_end D z.2.1 z.2.2 1048576
          generalize varO D z.2.1 z.2.2 1048576 = y at h hy hy0 ⊢
          split at h
          · cases h
          · rename_i h5
            rw [if_neg h5]
            split at h
            · cases h
            · rename_i h6
              rw [if_neg h6]
              obtain ⟨g1, g2, g3⟩ := hT _ _ _ _ _ _ h
              have g4 : y.2.2 = 0 := by
                have := (opnT_ok h).2.2 (by omega)
                exact this
              have := hz (hy g4).1
              have := hy g4
              rw [g2, g3]
              have : ¬ ((y.1 : Int) = 0 ∨ (P : Int) - y.1 < 12) := fun e => h5 ⟨g4, by simpa using e⟩
              refine ⟨by omega, by omega, by omega, .inr ⟨by omega, by omega⟩⟩
        · rename_i h4
          rw [if_neg h4]
          obtain ⟨g1, g2, g3⟩ := hT _ _ _ _ _ _ h
          have := hzq _ _ _ h
          rw [g2]
          refine ⟨by omega, by omega, by omega, .inl (by omega)⟩
end Go.Proofs.YtkaeoflgnnlbeaaGreatDoor

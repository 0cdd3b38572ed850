/- What is proved: plainly: the entry of a name; the first entry of each name of a list in order; two such lists merged; the names of two lists; the merged rows are the names with what each list has. Conditions: none. -/
import Derived.Test.YtinjednmamkjgaaBn
namespace Go.Proofs.Ytinjednmamkjgaa
open Go.RowKit Go.Sort Go.Shelf
set_option linter.unusedVariables false

theorem dropWhile_head {α : Type} (p : α → Bool) : ∀ (l : List α) (y : α) (t : List α), l.dropWhile p = y :: t → p y = false
  | [], _, _, h => by cases h
  | x :: l, y, t, h => by
    rw [List.dropWhile_cons] at h
    cases hx : p x with
    | true => rw [hx, if_pos rfl] at h; exact dropWhile_head p l y t h
    | false => rw [hx, if_neg (by simp)] at h; cases h; exact hx
/-- The entry of a name. -/
def findE (es : List Ent) (n : List UInt8) : Option Ent := es.find? (fun e => e.name == n)
theorem findE_nil (n : List UInt8) : findE [] n = none := rfl
theorem findE_cons (e : Ent) (es : List Ent) (n : List UInt8) : findE (e :: es) n = if e.name = n then some e else findE es n := by
  rw [findE, List.find?_cons]
  by_cases h : e.name = n
  · rw [if_pos h, h]; simp
  · have hb : (e.name == n) = false := by simp [h]
    rw [if_neg h, hb]; rfl
theorem findE_app (a b : List Ent) (n : List UInt8) : findE (a ++ b) n = (findE a n).or (findE b n) := by rw [findE, List.find?_append]; rfl
theorem findE_none {es : List Ent} {n : List UInt8} : findE es n = none ↔ ∀ e ∈ es, e.name ≠ n := by
  rw [findE, List.find?_eq_none]; simp
theorem findE_some {es : List Ent} {n : List UInt8} {e : Ent} (h : findE es n = some e) : e ∈ es ∧ e.name = n := by
  rw [findE] at h
  exact ⟨List.mem_of_find?_eq_some h, by simpa using List.find?_some h⟩

/-- Names' order. -/
def nlt (a b : Ent) : Bool := ltB a.name b.name
theorem nlt_eq : ltOf nameCmp = nlt := by funext a b; exact ltOf_name a b
theorem nlt_swo : SWO nlt := swoB (fun e : Ent => e.name)
/-- Putting in order keeps what is found. -/
theorem findE_ins (out : List Ent) (x : Ent) (n : List UInt8) : findE (insB nlt out x) n = findE (out ++ [x]) n := by
  obtain ⟨h1, h2, _⟩ := insPos_spec nlt x out out.length
  rw [insB]
  generalize insPos nlt x out out.length = p at h1 h2
  have hs : out = out.take p ++ out.drop p := (List.take_append_drop p out).symm
  rw [findE_app, findE_cons]
  conv => rhs; rw [hs, List.append_assoc, findE_app, findE_app]
  congr 1
  by_cases hx : x.name = n
  · rw [if_pos hx]
    have : findE (out.drop p) n = none := by
      rw [findE_none]
      intro e he
      obtain ⟨i, hi, rfl⟩ := List.getElem_of_mem he
      rw [List.length_drop] at hi
      rw [List.getElem_drop]
      have h3 := h2 (p + i) (by omega) (by omega)
      rw [get!_of out _ (by omega)] at h3
      intro e2
      rw [nlt, e2, hx, ltB_irrefl] at h3
      cases h3
    rw [this, findE_cons, if_pos hx]; rfl
  · rw [if_neg hx, findE_cons, if_neg hx, findE_nil]; simp
theorem findE_srt (l : List Ent) (n : List UInt8) : findE (srt nlt l) n = findE l n := by
  suffices h : ∀ (l out : List Ent), findE (l.foldl (insB nlt) out) n = findE (out ++ l) n by simpa [srt] using h l []
  intro l
  induction l with
  | nil => intro out; simp
  | cons x l ih =>
    intro out
    rw [List.foldl_cons, ih, findE_app, findE_ins, ← findE_app, List.append_assoc]; rfl
/-- What is in order rises, not strictly. -/
def NR (l : List Ent) : Prop := l.Pairwise fun a b => ltB b.name a.name = false
theorem NR_ins {out : List Ent} (x : Ent) (h : NR out) : NR (insB nlt out x) := by
  obtain ⟨h1, h2, h3⟩ := insPos_spec nlt x out out.length
  rw [insB]
  generalize insPos nlt x out out.length = p at h1 h2 h3
  have hpp := List.pairwise_iff_getElem.1 h
  rw [NR, List.pairwise_append]
  have hlow : ∀ y ∈ out.take p, ltB x.name y.name = false := fun y hy => by
    obtain ⟨i, hi, rfl⟩ := List.getElem_of_mem hy
    rw [List.length_take] at hi
    rw [List.getElem_take]
    have h4 := h3 (by omega)
    rw [get!_of out (p - 1) (by omega)] at h4
    by_cases hip : i = p - 1
    · subst hip; exact h4
    · exact ltB_ntrans _ _ _ h4 (hpp i (p - 1) (by omega) (by omega) (by omega))
  have hhigh : ∀ z ∈ out.drop p, ltB z.name x.name = false := fun z hz => by
    obtain ⟨i, hi, rfl⟩ := List.getElem_of_mem hz
    rw [List.length_drop] at hi
    rw [List.getElem_drop]
    have := h2 (p + i) (by omega) (by omega)
    rw [get!_of out _ (by omega)] at this
    exact ltB_asymm _ _ this
  refine ⟨h.sublist (List.take_sublist _ _), List.pairwise_cons.2 ⟨hhigh, h.sublist (List.drop_sublist _ _)⟩, fun a ha b hb => ?_⟩
  rcases List.mem_cons.1 hb with rfl | hb
  · exact hlow a ha
  · exact ltB_ntrans _ _ _ (hhigh b hb) (hlow a ha)
theorem NR_srt (l : List Ent) : NR (srt nlt l) := by
  suffices h : ∀ (l out : List Ent), NR out → NR (l.foldl (insB nlt) out) from h l [] .nil
  intro l
  induction l with
  | nil => intro out h; exact h
  | cons x l ih => intro out h; rw [List.foldl_cons]; exact ih _ (NR_ins x h)

/-- What is left behind the entries of one name. -/
def skip (x : Ent) (r : List Ent) : List Ent := r.dropWhile (fun e => e.name == x.name)
theorem skip_len (x : Ent) (r : List Ent) : (skip x r).length ≤ r.length := (List.dropWhile_sublist _).length_le
/-- The first entry of each name of a list in order. -/
def dd : List Ent → List Ent
  | [] => []
  | x :: r => x :: dd (skip x r)
termination_by l => l.length
decreasing_by have := skip_len x r; simp only [List.length_cons]; omega
theorem dd_nil : dd [] = [] := by rw [dd]
theorem dd_cons (x : Ent) (r : List Ent) : dd (x :: r) = x :: dd (skip x r) := by rw [dd]
theorem skip_NR {x : Ent} {r : List Ent} (h : NR (x :: r)) : NR (skip x r) ∧ (∀ e ∈ skip x r, ltB x.name e.name = true) := by
  have hc := List.pairwise_cons.1 h
  have hs : NR (skip x r) := hc.2.sublist (List.dropWhile_sublist _)
  refine ⟨hs, ?_⟩
  cases hk : skip x r with
  | nil => intro e he; cases he
  | cons y t =>
    have hy : ¬ y.name = x.name := by
      have := dropWhile_head _ _ _ _ hk
      simpa using this
    have hym : y ∈ r := (List.dropWhile_sublist (l := r) (fun e : Ent => e.name == x.name)).subset (by show y ∈ skip x r; rw [hk]; simp)
    have hxy : ltB x.name y.name = true := by
      cases e : ltB x.name y.name with
      | true => rfl
      | false => exact absurd (ltB_total _ _ (hc.1 y hym) e) hy
    intro e he
    rw [hk] at hs
    rcases List.mem_cons.1 he with rfl | he
    · exact hxy
    · have h3 := (List.pairwise_cons.1 hs).1 e he
      cases e4 : ltB x.name e.name with
      | true => rfl
      | false => rw [ltB_ntrans _ _ _ e4 h3] at hxy; cases hxy
theorem dd_mem : ∀ (n : Nat) (l : List Ent), l.length ≤ n → ∀ e ∈ dd l, e ∈ l := by
  intro n
  induction n with
  | zero =>
    intro l hl e he
    rw [List.eq_nil_of_length_eq_zero (l := l) (by omega), dd_nil] at he; cases he
  | succ n ih =>
    intro l hl e he
    cases l with
    | nil => rw [dd_nil] at he; cases he
    | cons x r =>
      rw [dd_cons] at he
      rcases List.mem_cons.1 he with rfl | he
      · simp
      · have := skip_len x r
        rw [List.length_cons] at hl
        have h2 := ih _ (by omega) e he
        exact List.mem_cons_of_mem _ ((List.dropWhile_sublist _).subset h2)
theorem findE_skip {x : Ent} {r : List Ent} {n : List UInt8} (h : x.name ≠ n) : findE (skip x r) n = findE r n := by
  induction r with
  | nil => rfl
  | cons y r ih =>
    rw [skip, List.dropWhile_cons]
    by_cases hy : y.name = x.name
    · rw [if_pos (by simp [hy]), findE_cons, if_neg (fun e => h (hy.symm.trans e))]
      exact ih
    · rw [if_neg (by simp [hy])]
/-- It rises, and finds what the list finds. -/
theorem dd_facts : ∀ (n : Nat) (l : List Ent), l.length ≤ n → NR l → (dd l).Pairwise (fun a b => ltB a.name b.name = true) ∧ ∀ k, findE (dd l) k = findE l k := by
  intro n
  induction n with
  | zero =>
    intro l hl _
    rw [List.eq_nil_of_length_eq_zero (l := l) (by omega), dd_nil]
    exact ⟨.nil, fun _ => rfl⟩
  | succ n ih =>
    intro l hl h
    cases l with
    | nil => rw [dd_nil]; exact ⟨.nil, fun _ => rfl⟩
    | cons x r =>
      have hsl := skip_len x r
      rw [List.length_cons] at hl
      obtain ⟨hs, ha⟩ := skip_NR h
      obtain ⟨i1, i2⟩ := ih (skip x r) (by omega) hs
      rw [dd_cons]
      refine ⟨List.pairwise_cons.2 ⟨fun e he => ha e (dd_mem _ _ (Nat.le_refl _) e he), i1⟩, fun k => ?_⟩
      rw [findE_cons, findE_cons]
      by_cases hx : x.name = k
      · rw [if_pos hx, if_pos hx]
      · rw [if_neg hx, if_neg hx, i2, findE_skip hx]

/-! Two such lists merged. -/
structure Rw where
  n : List UInt8
  a : Option Ent
  b : Option Ent
def mg : List Ent → List Ent → List Rw
  | [], [] => []
  | x :: xs, [] => ⟨x.name, some x, none⟩ :: mg xs []
  | [], y :: ys => ⟨y.name, none, some y⟩ :: mg [] ys
  | x :: xs, y :: ys =>
    if ltB x.name y.name = true then ⟨x.name, some x, none⟩ :: mg xs (y :: ys)
    else if ltB y.name x.name = true then ⟨y.name, none, some y⟩ :: mg (x :: xs) ys
    else ⟨x.name, some x, some y⟩ :: mg xs ys
termination_by a b => a.length + b.length
theorem mg_nil : mg [] [] = [] := by rw [mg]
theorem mg_a (x : Ent) (xs : List Ent) : mg (x :: xs) [] = ⟨x.name, some x, none⟩ :: mg xs [] := by rw [mg]
theorem mg_b (y : Ent) (ys : List Ent) : mg [] (y :: ys) = ⟨y.name, none, some y⟩ :: mg [] ys := by rw [mg]
theorem mg_ab (x y : Ent) (xs ys : List Ent) : mg (x :: xs) (y :: ys) = if ltB x.name y.name = true then ⟨x.name, some x, none⟩ :: mg xs (y :: ys)
    else if ltB y.name x.name = true then ⟨y.name, none, some y⟩ :: mg (x :: xs) ys else ⟨x.name, some x, some y⟩ :: mg xs ys := by rw [mg]
def Ris (l : List Ent) : Prop := l.Pairwise fun a b => ltB a.name b.name = true
theorem Ris.none {x : Ent} {xs : List Ent} (h : Ris (x :: xs)) : findE xs x.name = .none := by
  rw [findE_none]
  intro e he e2
  have := (List.pairwise_cons.1 h).1 e he
  rw [e2, ltB_irrefl] at this
  cases this
theorem Ris.above {x : Ent} {xs : List Ent} (h : Ris (x :: xs)) {n : List UInt8} (hn : ltB n x.name = true) : findE (x :: xs) n = .none := by
  rw [findE_none]
  intro e he e2
  rcases List.mem_cons.1 he with rfl | he
  · rw [e2, ltB_irrefl] at hn; cases hn
  · have := ltB_trans _ _ _ hn ((List.pairwise_cons.1 h).1 e he)
    rw [e2, ltB_irrefl] at this; cases this
theorem mg_facts : ∀ (n : Nat) (a b : List Ent), a.length + b.length ≤ n → Ris a → Ris b →
    ((mg a b).map (·.n)).Pairwise (fun x y => ltB x y = true) ∧ (∀ r ∈ mg a b, r.a = findE a r.n ∧ r.b = findE b r.n) ∧ (∀ k, k ∈ (mg a b).map (·.n) ↔ (∃ e ∈ a, e.name = k) ∨ ∃ e ∈ b, e.name = k) := by
  intro n
  induction n with
  | zero =>
    intro a b hl _ _
    rw [List.eq_nil_of_length_eq_zero (l := a) (by omega), List.eq_nil_of_length_eq_zero (l := b) (by omega), mg_nil]
    exact ⟨.nil, fun r hr => (by cases hr), fun k => by simp⟩
  | succ n ih =>
    have tail : ∀ (r0 : Rw) (a b a' b' : List Ent), a'.length + b'.length ≤ n → Ris a' → Ris b' → r0.a = findE a r0.n → r0.b = findE b r0.n →
        (∀ k, k ≠ r0.n → findE a' k = findE a k ∧ findE b' k = findE b k) → (∀ e ∈ a', ltB r0.n e.name = true) → (∀ e ∈ b', ltB r0.n e.name = true) →
        (∀ k, (∃ e ∈ a, e.name = k) ∨ (∃ e ∈ b, e.name = k) ↔ k = r0.n ∨ (∃ e ∈ a', e.name = k) ∨ ∃ e ∈ b', e.name = k) →
        ((r0 :: mg a' b').map (·.n)).Pairwise (fun x y => ltB x y = true) ∧ (∀ r ∈ r0 :: mg a' b', r.a = findE a r.n ∧ r.b = findE b r.n) ∧ (∀ k, k ∈ (r0 :: mg a' b').map (·.n) ↔ (∃ e ∈ a, e.name = k) ∨ ∃ e ∈ b, e.name = k) := by
      intro r0 a b a' b' hl ha hb h1 h2 h3 h4 h5 h6
      obtain ⟨i1, i2, i3⟩ := ih a' b' hl ha hb
      have hup : ∀ k, k ∈ (mg a' b').map (·.n) → ltB r0.n k = true := fun k hk => by
        rcases (i3 k).1 hk with ⟨e, he, rfl⟩ | ⟨e, he, rfl⟩
        · exact h4 e he
        · exact h5 e he
      refine ⟨by rw [List.map_cons]; exact List.pairwise_cons.2 ⟨hup, i1⟩, fun r hr => ?_, fun k => ?_⟩
      · rcases List.mem_cons.1 hr with rfl | hr
        · exact ⟨h1, h2⟩
        · have hne : r.n ≠ r0.n := fun e => by
            have := hup r.n (List.mem_map.2 ⟨r, hr, rfl⟩)
            rw [e, ltB_irrefl] at this; cases this
          obtain ⟨q1, q2⟩ := i2 r hr
          obtain ⟨q3, q4⟩ := h3 r.n hne
          exact ⟨q1.trans q3, q2.trans q4⟩
      · rw [List.map_cons, List.mem_cons, i3 k, h6 k]
    intro a b hl ha hb
    cases a with
    | nil =>
      cases b with
      | nil => rw [mg_nil]; exact ⟨.nil, fun r hr => (by cases hr), fun k => by simp⟩
      | cons y ys =>
        rw [mg_b]
        have hb' := List.pairwise_cons.1 hb
        refine tail ⟨y.name, none, some y⟩ [] (y :: ys) [] ys (by simp at hl ⊢; omega) ha hb'.2 rfl (by rw [findE_cons, if_pos rfl]) (fun k hk => ⟨rfl, by rw [findE_cons, if_neg (fun e => hk e.symm)]⟩) (fun e he => nomatch he) hb'.1 (fun k => by simp [eq_comm])
    | cons x xs =>
      have ha' := List.pairwise_cons.1 ha
      cases b with
      | nil =>
        rw [mg_a]
        refine tail ⟨x.name, some x, none⟩ (x :: xs) [] xs [] (by simp at hl ⊢; omega) ha'.2 hb (by rw [findE_cons, if_pos rfl]) rfl (fun k hk => ⟨by rw [findE_cons, if_neg (fun e => hk e.symm)], rfl⟩) ha'.1 (fun e he => nomatch he) (fun k => by simp [eq_comm])
      | cons y ys =>
        have hb' := List.pairwise_cons.1 hb
        rw [mg_ab]
        by_cases h1 : ltB x.name y.name = true
        · rw [if_pos h1]
          refine tail ⟨x.name, some x, none⟩ (x :: xs) (y :: ys) xs (y :: ys) (by simp at hl ⊢; omega) ha'.2 hb (by rw [findE_cons, if_pos rfl]) (hb.above h1).symm (fun k hk => ⟨by rw [findE_cons, if_neg (fun e => hk e.symm)], rfl⟩) ha'.1 (fun e he => ?_) (fun k => ?_)
          · rcases List.mem_cons.1 he with rfl | he
            · exact h1
            · exact ltB_trans _ _ _ h1 (hb'.1 e he)
          · simp only [List.mem_cons, exists_eq_or_imp]
            constructor
            · rintro ((h | h) | h)
              · exact .inl h.symm
              · exact .inr (.inl h)
              · exact .inr (.inr h)
            · rintro (h | h | h)
              · exact .inl (.inl h.symm)
              · exact .inl (.inr h)
              · exact .inr h
        · rw [if_neg h1]
          by_cases h2 : ltB y.name x.name = true
          · rw [if_pos h2]
            refine tail ⟨y.name, none, some y⟩ (x :: xs) (y :: ys) (x :: xs) ys (by simp at hl ⊢; omega) ha hb'.2 (ha.above h2).symm (by rw [findE_cons, if_pos rfl]) (fun k hk => ⟨rfl, by rw [findE_cons y, if_neg (fun e => hk e.symm)]⟩) (fun e he => ?_) hb'.1 (fun k => ?_)
            · rcases List.mem_cons.1 he with rfl | he
              · exact h2
              · exact ltB_trans _ _ _ h2 (ha'.1 e he)
            · simp only [List.mem_cons, exists_eq_or_imp]
              constructor
              · rintro (h | h | h)
                · exact .inr (.inl h)
                · exact .inl h.symm
                · exact .inr (.inr h)
              · rintro (h | h | h)
                · exact .inr (.inl h.symm)
                · exact .inl h
                · exact .inr (.inr h)
          · rw [if_neg h2]
            have hxy : x.name = y.name := ltB_total _ _ (by simpa using h1) (by simpa using h2)
            refine tail ⟨x.name, some x, some y⟩ (x :: xs) (y :: ys) xs ys (by simp at hl ⊢; omega) ha'.2 hb'.2 (by rw [findE_cons, if_pos rfl]) (by rw [findE_cons, if_pos hxy.symm]) (fun k hk => ⟨by rw [findE_cons x, if_neg (fun e => hk e.symm)], by rw [findE_cons y, if_neg (fun e => hk (e.symm.trans hxy.symm))]⟩) ha'.1 (fun e he => by show ltB x.name e.name = true; rw [hxy]; exact hb'.1 e he) (fun k => ?_)
            simp only [List.mem_cons, exists_eq_or_imp, ← hxy]
            constructor
            · rintro ((h | h) | h | h)
              · exact .inl h.symm
              · exact .inr (.inl h)
              · exact .inl h.symm
              · exact .inr (.inr h)
            · rintro (h | h | h)
              · exact .inl (.inl h.symm)
              · exact .inl (.inr h)
              · exact .inr (.inr h)

/-! The names of a list, rising, each once. -/
def atN (out : List (List UInt8)) (n : List UInt8) : Nat := (out.takeWhile fun m => ltB m n).length
def insN (out : List (List UInt8)) (n : List UInt8) : List (List UInt8) := if out[atN out n]? = some n then out else out.take (atN out n) ++ n :: out.drop (atN out n)
def nms (l : List Ent) : List (List UInt8) := l.foldl (fun out e => insN out e.name) []
def RisN (l : List (List UInt8)) : Prop := l.Pairwise fun a b => ltB a b = true
theorem atN_le (out : List (List UInt8)) (n : List UInt8) : atN out n ≤ out.length := (List.takeWhile_sublist _).length_le
theorem insN_facts {out : List (List UInt8)} (n : List UInt8) (h : RisN out) : RisN (insN out n) ∧ ∀ k, k ∈ insN out n ↔ k = n ∨ k ∈ out := by
  have hsplit : out.takeWhile (fun m => ltB m n) ++ out.dropWhile (fun m => ltB m n) = out := List.takeWhile_append_dropWhile
  have ht : out.take (atN out n) = out.takeWhile (fun m => ltB m n) := by
    have h0 : (out.takeWhile (fun m => ltB m n) ++ out.dropWhile (fun m => ltB m n)).take (atN out n) = out.takeWhile (fun m => ltB m n) := List.take_left' rfl
    rwa [hsplit] at h0
  have hd : out.drop (atN out n) = out.dropWhile (fun m => ltB m n) := by
    have h0 : (out.takeWhile (fun m => ltB m n) ++ out.dropWhile (fun m => ltB m n)).drop (atN out n) = out.dropWhile (fun m => ltB m n) := List.drop_left' rfl
    rwa [hsplit] at h0
  have hlow : ∀ m ∈ out.takeWhile (fun m => ltB m n), ltB m n = true := fun m hm => by
    have := List.all_takeWhile (p := fun m => ltB m n) (l := out)
    exact List.all_eq_true.1 this m hm
  rw [insN]
  by_cases hx : out[atN out n]? = some n
  · rw [if_pos hx]
    exact ⟨h, fun k => ⟨.inr, fun e => e.elim (fun e => by rw [e]; exact List.mem_of_getElem? hx) id⟩⟩
  · rw [if_neg hx, ht, hd]
    have hdw : RisN (out.dropWhile fun m => ltB m n) := h.sublist (List.dropWhile_sublist _)
    have hhigh : ∀ m ∈ out.dropWhile (fun m => ltB m n), ltB n m = true := by
      cases hk : out.dropWhile (fun m => ltB m n) with
      | nil => intro m hm; cases hm
      | cons y t =>
        have hy : ltB y n = false := by
          have := dropWhile_head _ _ _ _ hk
          exact this
        have hyn : y ≠ n := fun e => hx (by
          have : out[atN out n]? = (out.drop (atN out n))[0]? := by simp
          rw [this, hd, hk, e]; rfl)
        have hny : ltB n y = true := by
          cases e : ltB n y with
          | true => rfl
          | false => exact absurd (ltB_total _ _ hy e) hyn
        intro m hm
        rcases List.mem_cons.1 hm with rfl | hm
        · exact hny
        · rw [hk] at hdw
          exact ltB_trans _ _ _ hny ((List.pairwise_cons.1 hdw).1 m hm)
    refine ⟨?_, fun k => ?_⟩
    · rw [RisN, List.pairwise_append]
      refine ⟨h.sublist (List.takeWhile_sublist _), List.pairwise_cons.2 ⟨hhigh, hdw⟩, fun a ha b hb => ?_⟩
      rcases List.mem_cons.1 hb with rfl | hb
      · exact hlow a ha
      · exact ltB_trans _ _ _ (hlow a ha) (hhigh b hb)
    · conv => rhs; rw [← hsplit]
      simp only [List.mem_append, List.mem_cons]
      constructor
      · rintro (h | h | h)
        · exact .inr (.inl h)
        · exact .inl h
        · exact .inr (.inr h)
      · rintro (h | h | h)
        · exact .inr (.inl h)
        · exact .inl h
        · exact .inr (.inr h)
theorem nms_facts (l : List Ent) : RisN (nms l) ∧ ∀ k, k ∈ nms l ↔ ∃ e ∈ l, e.name = k := by
  suffices h : ∀ (l : List Ent) (out : List (List UInt8)), RisN out → RisN (l.foldl (fun out e => insN out e.name) out) ∧ ∀ k, k ∈ l.foldl (fun out e => insN out e.name) out ↔ k ∈ out ∨ ∃ e ∈ l, e.name = k by
    have := h l [] .nil
    exact ⟨this.1, fun k => by have := this.2 k; simpa [nms] using this⟩
  intro l
  induction l with
  | nil => intro out h; exact ⟨h, fun k => by simp⟩
  | cons x l ih =>
    intro out h
    obtain ⟨i1, i2⟩ := insN_facts x.name h
    obtain ⟨j1, j2⟩ := ih _ i1
    refine ⟨j1, fun k => ?_⟩
    rw [List.foldl_cons, j2 k, i2 k]
    simp only [List.mem_cons, exists_eq_or_imp]
    constructor
    · rintro ((h | h) | h)
      · exact .inr (.inl h.symm)
      · exact .inl h
      · exact .inr (.inr h)
    · rintro (h | h | h)
      · exact .inl (.inr h)
      · exact .inl (.inl h.symm)
      · exact .inr h
theorem risN_one : ∀ {a b : List (List UInt8)}, RisN a → RisN b → (∀ k, k ∈ a ↔ k ∈ b) → a = b := by
  intro a b ha hb h
  have nd : ∀ {l : List (List UInt8)}, RisN l → l.Nodup := fun hl => hl.imp (fun {x y} hxy e => by rw [e, ltB_irrefl] at hxy; cases hxy)
  exact List.Perm.eq_of_pairwise (le := fun x y => ltB x y = true) (fun x y _ _ h1 h2 => by rw [ltB_asymm x y h1] at h2; cases h2) ha hb ((List.perm_ext_iff_of_nodup (nd ha) (nd hb)).2 h)

/-- The rows of two lists. -/
def rowsM (a b : List Ent) : List Rw := mg (dd (srt nlt a)) (dd (srt nlt b))
theorem rowsM_eq (a b : List Ent) : rowsM a b = (nms (a ++ b)).map fun n => ⟨n, findE a n, findE b n⟩ := by
  obtain ⟨a1, a2⟩ := dd_facts _ (srt nlt a) (Nat.le_refl _) (NR_srt a)
  obtain ⟨b1, b2⟩ := dd_facts _ (srt nlt b) (Nat.le_refl _) (NR_srt b)
  obtain ⟨m1, m2, m3⟩ := mg_facts _ (dd (srt nlt a)) (dd (srt nlt b)) (Nat.le_refl _) a1 b1
  obtain ⟨n1, n2⟩ := nms_facts (a ++ b)
  have hin : ∀ (l l' : List Ent), (∀ k, findE l k = findE l' k) → ∀ k, (∃ e ∈ l, e.name = k) → ∃ e ∈ l', e.name = k := fun l l' h k ⟨e, he, hk⟩ => by
    cases hf : findE l' k with
    | some y => exact ⟨y, findE_some hf⟩
    | none => rw [← h] at hf; exact absurd hk (findE_none.1 hf e he)
  have ea : ∀ k, findE (dd (srt nlt a)) k = findE a k := fun k => (a2 k).trans (findE_srt a k)
  have eb : ∀ k, findE (dd (srt nlt b)) k = findE b k := fun k => (b2 k).trans (findE_srt b k)
  have hn : (rowsM a b).map (·.n) = nms (a ++ b) := risN_one m1 n1 (fun k => by
    rw [show (rowsM a b) = mg (dd (srt nlt a)) (dd (srt nlt b)) from rfl, m3 k, n2 k]
    constructor
    · rintro (h | h)
      · obtain ⟨e, he, hk⟩ := hin _ _ ea k h; exact ⟨e, List.mem_append_left _ he, hk⟩
      · obtain ⟨e, he, hk⟩ := hin _ _ eb k h; exact ⟨e, List.mem_append_right _ he, hk⟩
    · rintro ⟨e, he, hk⟩
      rcases List.mem_append.1 he with he | he
      · exact .inl (hin _ _ (fun k => (ea k).symm) k ⟨e, he, hk⟩)
      · exact .inr (hin _ _ (fun k => (eb k).symm) k ⟨e, he, hk⟩))
  rw [← hn, List.map_map]
  conv => lhs; rw [← List.map_id (rowsM a b)]
  refine List.map_congr_left (fun r hr => ?_)
  obtain ⟨q1, q2⟩ := m2 r hr
  obtain ⟨rn, ra, rb⟩ := r
  simp only at q1 q2
  show (⟨rn, ra, rb⟩ : Rw) = ⟨rn, findE a rn, findE b rn⟩
  rw [q1, q2, ea, eb]
end Go.Proofs.Ytinjednmamkjgaa

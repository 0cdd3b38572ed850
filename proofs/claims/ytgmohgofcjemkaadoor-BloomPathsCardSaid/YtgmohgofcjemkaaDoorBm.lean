/- What is proved: what the walks of this seat need of layers below, merged out of the texts Mga Mgd (of each just what is needed). Conditions: each theorem names its own. -/
import Derived.Deep.CutBlock
import Derived.Deep.DeepCutAuto
import Derived.Test.YtgmohgofcjemkaaDoorBd
/- What is proved: plainly: the entry of a name; the first entry of each name of a list in order; two such lists merged; the names of two lists; the merged rows are the names with what each list has. Conditions: none. -/
namespace Go.Proofs.YtgmohgofcjemkaaDoor
open Go.RowKit Go.Sort Go.Shelf
set_option linter.unusedVariables false
theorem dropWhile_head {α : Type} (p : α → Bool) : ∀ (l : List α) (y : α) (t : List α), l.dropWhile p = y :: t → p y = false
  | [], _, _, h => by cases h
  | x :: l, y, t, h => by
    rw [List.dropWhile_cons] at h
    cases hx : p x with
    | true => rw [hx, if_pos rfl] at h; exact dropWhile_head p l y t h
    | false => rw [hx, if_neg (by simp)] at h; cases h; exact hx
/-- The entry of a name. -/
def findE (es : List Ent) (n : List UInt8) : Option Ent := es.find? (fun e => e.name == n)
theorem findE_none {es : List Ent} {n : List UInt8} : findE es n = none ↔ ∀ e ∈ es, e.name ≠ n := by
  rw [findE, List.find?_eq_none]; simp
def Ris (l : List Ent) : Prop := l.Pairwise fun a b => ltB a.name b.name = true
theorem Ris.none {x : Ent} {xs : List Ent} (h : Ris (x :: xs)) : findE xs x.name = .none := by
  rw [findE_none]
  intro e he e2
  have := (List.pairwise_cons.1 h).1 e he
  rw [e2, ltB_irrefl] at this
  cases this
/-! The names of a list, rising, each once. -/
def atN (out : List (List UInt8)) (n : List UInt8) : Nat := (out.takeWhile fun m => ltB m n).length
def insN (out : List (List UInt8)) (n : List UInt8) : List (List UInt8) := if out[atN out n]? = some n then out else out.take (atN out n) ++ n :: out.drop (atN out n)
def RisN (l : List (List UInt8)) : Prop := l.Pairwise fun a b => ltB a b = true
theorem atN_le (out : List (List UInt8)) (n : List UInt8) : atN out n ≤ out.length := (List.takeWhile_sublist _).length_le
theorem insN_facts {out : List (List UInt8)} (n : List UInt8) (h : RisN out) : RisN (insN out n) ∧ ∀ k, k ∈ insN out n ↔ k = n ∨ k ∈ out := by
  have hsplit : out.takeWhile (fun m => ltB m n) ++ out.dropWhile (fun m => ltB m n) = out := List.takeWhile_append_dropWhile
  have ht : out.take (atN out n) = out.takeWhile (fun m => ltB m n) := by
    have h0 : (out.takeWhile (fun m => ltB m n) ++ out.dropWhile (fun m => ltB m n)).take (atN out n) = out.takeWhile (fun m => ltB m n) := List.take_left' rfl
    rwa [hsplit] at h0
  have hd : out.drop (atN out n) = out.dropWhile (fun m => ltB m n) := by
    have h0 : (out.takeWhile (fun m => ltB m n) ++ out.dropWhile (fun m => ltB m n)).drop (atN out n) = out.dropWhile (fun m => ltB m n) := List.drop_left' rfl
    rwa [hsplit] at h0
  have hlow : ∀ m ∈ out.takeWhile (fun m => ltB m n), ltB m n = true := fun m hm => by
    have := List.all_takeWhile (p := fun m => ltB m n) (l := out)
    exact List.all_eq_true.1 this m hm
  rw [insN]
  by_cases hx : out[atN out n]? = some n
  · rw [if_pos hx]
    exact ⟨h, fun k => ⟨.inr, fun e => e.elim (fun e => by rw [e]; exact List.mem_of_getElem? hx) id⟩⟩
  · rw [if_neg hx, ht, hd]
    have hdw : RisN (out.dropWhile fun m => ltB m n) := h.sublist (List.dropWhile_sublist _)
    have hhigh : ∀ m ∈ out.dropWhile (fun m => ltB m n), ltB n m = true := by
      cases hk : out.dropWhile (fun m => ltB m n) with
      | nil => intro m hm; cases hm
      | cons y t =>
        have hy : ltB y n = false := by
          have := dropWhile_head _ _ _ _ hk
          exact this
        have hyn : y ≠ n := fun e => hx (by
          have : out[atN out n]? = (out.drop (atN out n))[0]? := by simp
          rw [this, hd, hk, e]; rfl)
        have hny : ltB n y = true := by
          cases e : ltB n y with
          | true => rfl
          | false => exact absurd (ltB_total _ _ hy e) hyn
        intro m hm
        rcases List.mem_cons.1 hm with rfl | hm
        · exact hny
        · rw [hk] at hdw
          exact ltB_trans _ _ _ hny ((List.pairwise_cons.1 hdw).1 m hm)
    refine ⟨?_, fun k => ?_⟩
    · rw [RisN, List.pairwise_append]
      refine ⟨h.sublist (List.takeWhile_sublist _), List.pairwise_cons.2 ⟨hhigh, hdw⟩, fun a ha b hb => ?_⟩
      rcases List.mem_cons.1 hb with rfl | hb
      · exact hlow a ha
      · exact ltB_trans _ _ _ (hlow a ha) (hhigh b hb)
    · conv => rhs; rw [← hsplit]
      simp only [List.mem_append, List.mem_cons]
      constructor
      · rintro (h | h | h)
        · exact .inr (.inl h)
        · exact .inl h
        · exact .inr (.inr h)
      · rintro (h | h | h)
        · exact .inr (.inl h)
        · exact .inl h
        · exact .inr (.inr h)
end Go.Proofs.YtgmohgofcjemkaaDoor
/- What is proved: the names of two lists, rising, each once, by the document. Conditions: the lists' cells are there. -/
namespace Go.Proofs.YtgmohgofcjemkaaDoor
open Go.RowKit Go.Sort Go.Shelf
set_option linter.unusedVariables false
/-! Lists of texts. -/
def strM (ps : List (List UInt8)) : List Value := ps.map fun p => .string (strB p)
theorem strM_len (ps : List (List UInt8)) : (strM ps).length = ps.length := by simp [strM]
theorem strM_append (a b : List (List UInt8)) : strM (a ++ b) = strM a ++ strM b := by simp [strM]
theorem strM_get (ps : List (List UInt8)) (k : Nat) (h : k < ps.length) : (strM ps)[k]? = some (.string (strB (ps.getD k []))) := by
  rw [strM, List.getElem?_map, List.getElem?_eq_getElem h, List.getD_eq_getElem?_getD, List.getElem?_eq_getElem h]
  rfl
theorem strM_one (ps : List (List UInt8)) : ∀ v ∈ strM ps, v.oneCell' = true := by
  intro v hv
  obtain ⟨_, _, rfl⟩ := List.mem_map.1 hv
  rfl
def tlM (A : Option Addr) (c m : Nat) : Option Addr := if c = m then A else A.map (·.add m)
theorem strM_nil {ps : List (List UInt8)} (h : strM ps = []) : ps = [] := by
  have := congrArg List.length h
  rw [strM_len, List.length_nil] at this
  exact List.eq_nil_of_length_eq_zero this
theorem Lies.tlM {w : World} {A : Option Addr} {ps : List (List UInt8)} (h : Lies w A (strM ps)) (c m : Nat) (hc : ps.length ≤ c) : Lies w (tlM A c m) (strM (ps.drop m)) := by
  unfold Go.Proofs.YtgmohgofcjemkaaDoor.tlM
  split
  · rename_i e
    have hd : ps.drop m = [] := List.drop_of_length_le (by omega)
    rw [hd]
    exact .inl rfl
  · rcases h with h | ⟨b, o, rfl, hcl⟩
    · rw [strM_nil h]
      exact .inl (by simp [strM])
    · refine .inr ⟨b, o + m, by simp [add_off], fun j u hu => ?_⟩
      rw [Nat.add_assoc]
      refine hcl (m + j) u ?_
      rw [strM, List.map_drop, List.getElem?_drop] at hu
      exact hu
theorem Lies.takeM {w : World} {A : Option Addr} {ps : List (List UInt8)} (h : Lies w A (strM ps)) (m : Nat) : Lies w A (strM (ps.take m)) := by
  rcases h with h | ⟨b, o, rfl, hcl⟩
  · left
    rw [strM_nil h]
    simp [strM]
  · refine .inr ⟨b, o, rfl, fun j u hu => hcl j u ?_⟩
    rw [strM, List.map_take, List.getElem?_take] at hu
    split at hu
    · exact hu
    · cases hu
theorem size_strM (w : World) : (sizeOf (Tryd.prog.elem 22)).run Tryd.prog w = .ok 1 w := by kernel_rfl
theorem under_strM : Tryd.prog.underlying 22 = some (.slice (Tryd.prog.elem 22)) := by kernel_rfl
theorem slice_tlM (A : Option Addr) (n c m : Nat) (h : m ≤ n) (w : World) : (Instr.slice 22 (.slice A n c) (some (.int .i64 m)) none none).run Tryd.prog w = .ok (.slice (tlM A c m) (n - m) (c - m)) w := by
  have e := run_slice_l (P := Tryd.prog) w 22 A n c under_strM .i64 (m : Int) (by omega) (by omega)
  rw [e, size_strM]
  simp [sliced, tlM]
theorem slice_hdM (A : Option Addr) (hA : A = none ∨ ∃ b o, A = some ⟨b, o, none⟩) (n c m : Nat) (h : m ≤ c) (w : World) : (Instr.slice 22 (.slice A n c) none (some (.int .i64 m)) none).run Tryd.prog w = .ok (.slice A m c) w := by
  have e := run_slice_h (P := Tryd.prog) w 22 A n c under_strM .i64 (m : Int) (by omega) (by omega)
  rw [e, size_strM]
  rcases hA with rfl | ⟨b, o, rfl⟩ <;> simp [sliced, add_off]
theorem Lies.srcM {w : World} {A : Option Addr} {ps : List (List UInt8)} (h : Lies w A (strM ps)) {n : Nat} (hn : ps.length = n) (c : Nat) : Src Tryd.prog 1 22 (.slice A n c) n (strM ps) w := by
  subst hn
  rcases A with _ | ad
  · have h0 : ps = [] := by
      rcases h with h | ⟨b, o, h, _⟩
      · exact strM_nil h
      · cases h
    subst h0
    exact Src.ofNil w Tryd.underlying22 c
  · refine Src.ofSlice w Tryd.underlying22 ad ps.length c (strM ps) (by rw [strM_len]; omega) (fun j u hu => ?_) (strM_one ps)
    rcases h with h | ⟨b, o, h, hc⟩
    · rw [h] at hu; simp at hu
    · injection h with h
      subst h
      rw [add_off]
      exact hc j u hu
theorem Lies.of_own1 {w : World} {base : Nat} {t : TypeId} {A : Option Addr} {n c : Nat} {xs : List Value} (h : w.ownsRow base t 1 (.slice A n c) n xs) : Lies w A xs := by
  rcases own_shape h with ⟨_, _, h0⟩ | ⟨g, cap, hv, _⟩
  · exact .inl h0
  · injection hv with h1 h2 h3
    subst h1; subst h3
    refine .inr ⟨g, 0, rfl, fun j u hu => ?_⟩
    have hj : j < n * 1 := by
      have := (List.getElem?_eq_some_iff.1 hu).1
      rwa [h.1] at this
    rw [Nat.zero_add, World.ownsRow.cellAt h j hj]
    exact hu
theorem lies_nameM {w w' : World} {A : Option Addr} {ps : List (List UInt8)} (h : Lies w A (strM ps)) (f : Fr (fun _ => False) w w') (hn : 0 < ps.length) : ∃ b o, A = some ⟨b, o, none⟩ ∧ ∀ k, k < ps.length → w'.cell? ⟨b, o + k, none⟩ = some (.string (strB (ps.getD k []))) := by
  rcases h with h | ⟨b, o, rfl, hc⟩
  · rw [strM_nil h] at hn; simp at hn
  · exact ⟨b, o, rfl, fun k hk => f.cell (hc k _ (strM_get ps k hk)) (fun e => e)⟩
theorem infoM : (Tryd.prog.info? 9).map (fun i => (i.zero, i.size, i.bytes)) = some (some (.string (strB [])), 1, 16) := by kernel_rfl
/-- A list of texts of the call's own. -/
def OwnS (w0 w : World) (v : Value) (ps : List (List UInt8)) : Prop := w.ownsRow w0.heap.size 9 1 v ps.length (strM ps) ∧ Fr (fun _ => False) w0 w
theorem OwnS.nil {w0 w : World} (f : Fr (fun _ => False) w0 w) : OwnS w0 w (.slice none 0 0) [] := ⟨World.ownsRow_nil w w0.heap.size 9 1, f⟩
theorem OwnS.fr {w0 w w' : World} {v : Value} {ps : List (List UInt8)} (h : OwnS w0 w v ps) (f : Fr (fun _ => False) w w') : OwnS w0 w' v ps := ⟨own_fr h.1 f (fun _ _ e => e), h.2.trans f (fun _ _ e => e)⟩
theorem OwnS.slice {w0 w : World} {v : Value} {ps : List (List UInt8)} (h : OwnS w0 w v ps) : ∃ A c, v = .slice A ps.length c ∧ ps.length ≤ c ∧ c ≤ maxLen ∧ (A = none ∨ ∃ b o, A = some ⟨b, o, none⟩) ∧ Lies w A (strM ps) := by
  rcases own_shape h.1 with ⟨hv, h0, _⟩ | ⟨g, cap, hv, h1, h2, _⟩
  · subst hv
    exact ⟨none, 0, by rw [h0], by omega, Nat.zero_le _, .inl rfl, .inl (by rw [List.eq_nil_of_length_eq_zero h0]; rfl)⟩
  · subst hv
    exact ⟨_, cap, rfl, h1, h2, .inr ⟨g, 0, rfl⟩, Lies.of_own1 h.1⟩
theorem first_factsM (w W w4 : World) (v1 : Value) (a : Nat) (xs : List Value) (f : Fr (fun _ => False) w W) (o1 : w4.ownsRow w.heap.size 9 1 v1 (0 + a) ([] ++ xs)) (g1 : W.grownBy w4 (Value.slice none 0 0).ownBlock) (at1 : v1.ownBlock = (Value.slice none 0 0).ownBlock ∨ v1.ownBlock = some W.heap.size) :
    (w4.ownsRow w.heap.size 9 1 v1 a xs ∧ Fr (fun _ => False) w w4) ∧ Fr (fun _ => False) W w4 ∧ (∀ j, v1.ownBlock = some j → W.heap.size ≤ j) := by
  refine ⟨⟨by simpa using o1, fr_append (World.ownsRow_nil W w.heap.size 9 1) f g1⟩, (Fr.refl (fun _ => False) W).grown g1 (fun j hj => by simp [Value.ownBlock] at hj), fun j hj => ?_⟩
  rcases at1 with e | e
  · rw [hj] at e; simp [Value.ownBlock] at e
  · rw [hj] at e; injection e with e; omega
theorem second_factsM (w W w4 w5 : World) (v1 v2 : Value) (x : List UInt8) (a : Nat) (l : List (List UInt8)) (A : Option Addr) (c : Nat) (r : List (List UInt8))
    (n1 : (w4.ownsRow w.heap.size 9 1 v1 a (strM l) ∧ Fr (fun _ => False) w w4) ∧ Fr (fun _ => False) W w4 ∧ (∀ j, v1.ownBlock = some j → W.heap.size ≤ j)) (hl : Lies W (tlM A c a) (strM r))
    (o2 : w5.ownsRow w.heap.size 9 1 v2 (a + 1) (strM l ++ strM [x])) (cx : Array Value) (g2 : (w4.alloc (.cells cx 9)).grownBy w5 v1.ownBlock) :
    (w5.ownsRow w.heap.size 9 1 v2 (a + 1) (strM (l ++ [x])) ∧ Fr (fun _ => False) w w5) ∧ Lies w5 (tlM A c a) (strM r) := by
  refine ⟨⟨by rw [strM_append]; exact o2, fr_append (n1.1.1.alloc _) (n1.1.2.alloc _) g2⟩, hl.fr ((n1.2.1.alloc _).grown g2 (fun j hj hlt => ?_)) (fun _ _ e => e)⟩
  have := n1.2.2 j hj
  omega
/-! Where a name stands. -/
theorem tw_below (p : List UInt8 → Bool) : ∀ (l : List (List UInt8)) (i : Nat), i < (l.takeWhile p).length → p (l.getD i []) = true
  | [], i, h => by simp at h
  | x :: l, i, h => by
    rw [List.takeWhile_cons] at h
    cases hx : p x with
    | false => rw [hx] at h; simp at h
    | true =>
      rw [hx, if_pos rfl, List.length_cons] at h
      cases i with
      | zero => simpa using hx
      | succ i => simpa using tw_below p l i (by omega)
theorem tw_here (p : List UInt8 → Bool) : ∀ (l : List (List UInt8)), (l.takeWhile p).length < l.length → p (l.getD (l.takeWhile p).length []) = false
  | [], h => by simp at h
  | x :: l, h => by
    rw [List.takeWhile_cons] at h ⊢
    cases hx : p x with
    | false => simpa using hx
    | true =>
      rw [hx, if_pos rfl, List.length_cons, List.length_cons] at h
      have := tw_here p l (by omega)
      simpa using this
theorem atN_below {out : List (List UInt8)} {n : List UInt8} {i : Nat} (h : i < atN out n) : ltB (out.getD i []) n = true := tw_below (fun m => ltB m n) out i h
theorem atN_here {out : List (List UInt8)} {n : List UInt8} (h : atN out n < out.length) : ltB (out.getD (atN out n) []) n = false := tw_here (fun m => ltB m n) out h
theorem insN_has {out : List (List UInt8)} {n : List UInt8} (h : atN out n < out.length) (e : out.getD (atN out n) [] = n) : insN out n = out := by
  rw [insN, if_pos]
  rw [List.getD_eq_getElem?_getD, List.getElem?_eq_getElem h] at e
  rw [List.getElem?_eq_getElem h]
  exact congrArg some e
theorem insN_new {out : List (List UInt8)} {n : List UInt8} (h : atN out n < out.length → out.getD (atN out n) [] ≠ n) : insN out n = out.take (atN out n) ++ [n] ++ out.drop (atN out n) := by
  rw [insN, if_neg]
  · simp
  · intro e
    have hl : atN out n < out.length := (List.getElem?_eq_some_iff.1 e).1
    refine h hl ?_
    rw [List.getD_eq_getElem?_getD, e]; rfl
theorem insN_len (out : List (List UInt8)) (n : List UInt8) : (insN out n).length ≤ out.length + 1 := by
  rw [insN]
  split
  · omega
  · have := atN_le out n
    rw [List.length_append, List.length_cons, List.length_take, List.length_drop]; omega
end Go.Proofs.YtgmohgofcjemkaaDoor

/- What is proved: what the walks of this seat need of layers below, merged out of the texts Rvk Rwa Rwb Rwc Rwd (of each just what is needed). Conditions: each theorem names its own. -/
import Derived.OrdersHeld
import Derived.Defers
import Derived.Recover
import Derived.Laws.Pointers
import Derived.Test.YtkaeoflgnnlbeaaGreatDoorCb
/- What is proved: a commit as bytes, by the program. Conditions: the parents' cells are there, the library's table lies as its text lays it, nothing is too long for any machine. -/
namespace Go.Proofs.YtkaeoflgnnlbeaaGreatDoor
open Go.RowKit Go.Sort Go.Shelf
open Ids (idC dgt big idC_size idC_get idC_one cellD zero32 size32 dgt_lt hexB)
set_option linter.unusedVariables false
def wTree : List UInt8 := [116, 114, 101, 101]
def wParent : List UInt8 := [112, 97, 114, 101, 110, 116]
def wAuthor : List UInt8 := [97, 117, 116, 104, 111, 114]
def wTime : List UInt8 := [116, 105, 109, 101]
theorem name_small {n : List UInt8} (h : nameB n = true) : n.length ≤ 32 := by
  unfold nameB at h
  simp only [Bool.and_eq_true, decide_eq_true_eq] at h
  exact h.1.1.1.1.2
end Go.Proofs.YtkaeoflgnnlbeaaGreatDoor
/- What is proved: all lines of a commit are taken, by the program, or it gives up. Conditions: the text is not too long. -/
namespace Go.Proofs.YtkaeoflgnnlbeaaGreatDoor
open Go.RowKit Go.Sort Go.Shelf
open Ids (idC dgt big idC_size idC_get idC_one cellD zero32 size32 dgt_lt hexB)
set_option linter.unusedVariables false
/-! What lines tell. -/
def parA : Nat → List Nat → List UInt8 → Option (List Nat × List UInt8)
  | k, acc, s => if begW wParent s = true then (match idL wParent s with
      | none => none
      | some (n, r) => match k with
        | 0 => none
        | k + 1 => parA k (acc ++ [n]) r)
    else some (acc, s)
structure RevP where
  T : Nat
  ps : List Nat
  a : List UInt8
  n : Nat
  t : List UInt8
def revL4 (T : Nat) (ps : List Nat) (a : List UInt8) (n : Nat) (r3 : List UInt8) : Option RevP := match textL r3 with
  | none => none
  | some t => some ⟨T, ps, a, n, t⟩
def revL3 (T : Nat) (ps : List Nat) (a r2 : List UInt8) : Option RevP := match numL wTime r2 with
  | none => none
  | some (n, r3) => revL4 T ps a n r3
def revL2 (T : Nat) (ps : List Nat) (r1 : List UInt8) : Option RevP := match takeL wAuthor r1 with
  | none => none
  | some (a, r2) => revL3 T ps a r2
def revL1 (T : Nat) (P : Option (List Nat × List UInt8)) : Option RevP := match P with
  | none => none
  | some (ps, r1) => revL2 T ps r1
def revLRw (s : List UInt8) : Option RevP := match idL wTree s with
  | none => none
  | some (T, r0) => revL1 T (parA r0.length [] r0)
theorem alloc_size (w : World) (o : Obj) : (w.alloc o).heap.size = w.heap.size + 1 := by simp
theorem idL_len {word s r : List UInt8} {n : Nat} (h : idL word s = some (n, r)) : r.length < s.length ∧ n < big := by
  unfold idL at h
  split at h
  · cases h
  · rename_i t r' ht
    split at h
    · cases h
    · rename_i m hm
      injection h with h
      injection h with h1 h2
      subst h1; subst h2
      refine ⟨(takeL_len ht).2, ?_⟩
      rcases readI_cases t with ⟨q, e1, e2, _, _⟩ | ⟨e1, _⟩
      · rw [hm] at e1; injection e1 with e1; subst e1; exact e2
      · rw [hm] at e1; cases e1
theorem numL_len {word s r : List UInt8} {n : Nat} (h : numL word s = some (n, r)) : r.length < s.length ∧ n < 1000000000000000 := by
  unfold numL at h
  split at h
  · cases h
  · rename_i t r' ht
    split at h
    · cases h
    · rename_i m hm
      injection h with h
      injection h with h1 h2
      subst h1; subst h2
      refine ⟨(takeL_len ht).2, ?_⟩
      rcases numW_cases t with ⟨e1, _, e2⟩ | ⟨e1, _⟩
      · rw [hm] at e1; injection e1 with e1; subst e1; exact e2
      · rw [hm] at e1; cases e1
theorem parA_end {k : Nat} {acc : List Nat} {s : List UInt8} (h : begW wParent s = false) : parA k acc s = some (acc, s) := by
  cases k <;> (unfold parA; rw [h]; rfl)
theorem parA_bad {k : Nat} {acc : List Nat} {s : List UInt8} (h : begW wParent s = true) (h2 : idL wParent s = none) : parA k acc s = none := by
  cases k <;> (unfold parA; rw [h, h2]; rfl)
theorem parA_go {k : Nat} {acc : List Nat} {s r : List UInt8} {n : Nat} (h : begW wParent s = true) (h2 : idL wParent s = some (n, r)) : parA (k + 1) acc s = parA k (acc ++ [n]) r := by
  conv => lhs; unfold parA
  rw [h, h2]; rfl
theorem parA_len : ∀ (k : Nat) (acc : List Nat) (s : List UInt8) (ps : List Nat) (r : List UInt8), parA k acc s = some (ps, r) → r.length ≤ s.length ∧ ps.length + r.length ≤ acc.length + s.length ∧ ((∀ n ∈ acc, n < big) → ∀ n ∈ ps, n < big) := by
  intro k
  induction k with
  | zero =>
    intro acc s ps r h
    cases hb : begW wParent s with
    | false =>
      rw [parA_end hb] at h
      injection h with h; injection h with h1 h2; subst h1; subst h2
      exact ⟨Nat.le_refl _, Nat.le_refl _, fun h => h⟩
    | true =>
      cases hi : idL wParent s with
      | none => rw [parA_bad hb hi] at h; cases h
      | some x =>
        unfold parA at h
        rw [hb, hi] at h
        simp at h
  | succ k ih =>
    intro acc s ps r h
    cases hb : begW wParent s with
    | false =>
      rw [parA_end hb] at h
      injection h with h; injection h with h1 h2; subst h1; subst h2
      exact ⟨Nat.le_refl _, Nat.le_refl _, fun h => h⟩
    | true =>
      cases hi : idL wParent s with
      | none => rw [parA_bad hb hi] at h; cases h
      | some x =>
        obtain ⟨n, r'⟩ := x
        rw [parA_go hb hi] at h
        obtain ⟨h1, h2, h3⟩ := ih _ _ _ _ h
        have hl := idL_len hi
        refine ⟨by omega, by rw [List.length_append, List.length_singleton] at h2; omega, fun ha => h3 (fun m hm => ?_)⟩
        rcases List.mem_append.1 hm with hm | hm
        · exact ha m hm
        · rw [List.mem_singleton] at hm; subst hm; exact hl.2
/-! A commit's cells, one after another. -/
def zeroR : Array Value := (List.replicate 32 (Value.int .u8 0) ++ [Value.slice none 0 0, Value.string ⟨#[]⟩, Value.int .i64 0, Value.string ⟨#[]⟩]).toArray
theorem zeroR_eq : zeroR = revC 0 (.slice none 0 0) [] 0 [] := by kernel_rfl
section
variable (T : Nat) (v : Value) (a : List UInt8) (n : Int) (t : List UInt8)
theorem revC_list : revC T v a n t = ((idC (dgt T)).toList ++ [v, .string (strB a), .int .i64 n, .string (strB t)]).toArray := by
  apply Array.toList_inj.1; simp [revC]
theorem revC_set (j : Nat) (u : Value) (hj : j < 4) : (revC T v a n t).setIfInBounds (32 + j) u = ((idC (dgt T)).toList ++ ([v, .string (strB a), .int .i64 n, .string (strB t)].set j u)).toArray := by
  apply Array.toList_inj.1
  rw [Array.toList_setIfInBounds, revC_list]
  have hl : (idC (dgt T)).toList.length = 32 := by rw [Array.length_toList, idC_size]
  simp only []
  rw [List.set_append_right _ _ (by rw [hl]; omega), hl, show 32 + j - 32 = j by omega]
theorem revC_set_v (u : Value) : (revC T v a n t).setIfInBounds 32 u = revC T u a n t := by rw [show 32 = 32 + 0 from rfl, revC_set _ _ _ _ _ 0 _ (by decide), revC_list]; rfl
theorem revC_set_a (b : List UInt8) : (revC T v a n t).setIfInBounds 33 (.string (strB b)) = revC T v b n t := by rw [show 33 = 32 + 1 from rfl, revC_set _ _ _ _ _ 1 _ (by decide), revC_list]; rfl
theorem revC_set_n (m : Int) : (revC T v a n t).setIfInBounds 34 (.int .i64 m) = revC T v a m t := by rw [show 34 = 32 + 2 from rfl, revC_set _ _ _ _ _ 2 _ (by decide), revC_list]; rfl
theorem revC_set_t (b : List UInt8) : (revC T v a n t).setIfInBounds 35 (.string (strB b)) = revC T v a n b := by rw [show 35 = 32 + 3 from rfl, revC_set _ _ _ _ _ 3 _ (by decide), revC_list]; rfl
theorem revC_laid (T' : Nat) : laidAt (revC T v a n t) 0 (idC (dgt T')) = revC T' v a n t := by
  apply Array.toList_inj.1
  rw [laidAt, revC_list, revC_list]
  have hl : (idC (dgt T)).toList.length = 32 := by rw [Array.length_toList, idC_size]
  simp [idC_size, hl]
end
section
variable {w : World} {g : Nat} {T : Nat} {v : Value} {a : List UInt8} {n : Int} {t : List UInt8}
theorem RevAt.frozen (h : RevAt w g T v a n t) (j : Nat) : w.frozen? ⟨g, j, none⟩ = false := Whole.frozen h j
theorem RevAt.setV (h : RevAt w g T v a n t) (u : Value) : RevAt (w.setCell ⟨g, 32, none⟩ u) g T u a n t := by have := Whole.set h 32 u; rwa [revC_set_v] at this
theorem RevAt.setA (h : RevAt w g T v a n t) (b : List UInt8) : RevAt (w.setCell ⟨g, 33, none⟩ (.string (strB b))) g T v b n t := by have := Whole.set h 33 (.string (strB b)); rwa [revC_set_a] at this
theorem RevAt.setN (h : RevAt w g T v a n t) (m : Int) : RevAt (w.setCell ⟨g, 34, none⟩ (.int .i64 m)) g T v a m t := by have := Whole.set h 34 (.int .i64 m); rwa [revC_set_n] at this
theorem RevAt.setT (h : RevAt w g T v a n t) (b : List UInt8) : RevAt (w.setCell ⟨g, 35, none⟩ (.string (strB b))) g T v a n b := by have := Whole.set h 35 (.string (strB b)); rwa [revC_set_t] at this
end
end Go.Proofs.YtkaeoflgnnlbeaaGreatDoor
/- What is proved: all lines of a commit are taken, by the program, or it gives up. Conditions: the text is not too long. -/
namespace Go.Proofs.YtkaeoflgnnlbeaaGreatDoor
open Go.RowKit Go.Sort Go.Shelf
open Ids (idC dgt big idC_size idC_get idC_one cellD zero32 size32 dgt_lt hexB)
set_option linter.unusedVariables false
/-- How taking a commit ends. -/
def RevPost (g : Nat) (w : World) (G : Option RevP) (e : Ending) (w' : World) : Prop := match G with
  | none => e = PC ∧ Fr (fun k => k = g) w w'
  | some R => ∃ v, e = .returned (.agg (revC R.T v R.a R.n R.t)) ∧ w'.ownsRow w.heap.size 48 32 v R.ps.length (flatI R.ps) ∧ Fr (fun k => k = g) w w'
theorem RevPost.gave {g : Nat} {w w' : World} {G : Option RevP} {e : Ending} (h : G = none) (he : e = PC) (hf : Fr (fun k => k = g) w w') : RevPost g w G e w' := by
  subst h; exact ⟨he, hf⟩
/-- What stands while lines are taken: what is left, and what has been told. -/
structure Tk (w2 wr : World) (g g3 base : Nat) (s : List UInt8) (T : Nat) (v : Value) (ps : List Nat) (a : List UInt8) (n : Int) (t : List UInt8) : Prop where
  fr : Fr (fun k => k = g ∨ k = g3) w2 wr
  left : LinesAt wr g s
  rev : RevAt wr g3 T v a n t
  own : wr.ownsRow base 48 32 v ps.length (flatI ps)
section
variable {w2 wr w' : World} {g g3 base : Nat} {s r : List UInt8} {T : Nat} {v : Value} {ps : List Nat} {a : List UInt8} {n : Int} {t : List UInt8}
/-- A line is taken: only what is left turns. -/
theorem Tk.took (h : Tk w2 wr g g3 base s T v ps a n t) (hb : g < base) (hne : g ≠ g3) (l : LinesAt w' g r) (f : Fr (fun k => k = g) wr w') : Tk w2 w' g g3 base r T v ps a n t :=
  ⟨h.fr.trans f (fun _ _ e => .inl e), l, Whole.fr h.rev f (fun e => hne e.symm), own_fr h.own f (fun k hk e => by
    have := (World.ownsRow.lt h.own k hk).1
    omega)⟩
theorem Tk.later (h : Tk w2 wr g g3 base s T v ps a n t) (f : Fr (fun _ => False) wr w') : Tk w2 w' g g3 base s T v ps a n t :=
  ⟨h.fr.trans f (fun _ _ e => e.elim), h.left.fr f, h.rev.fr f, own_fr h.own f (fun _ _ e => e)⟩
theorem Fr.undrew {S : Nat → Prop} {w w' : World} (h : Fr S w.drew w') : Fr S w w' := ⟨h.os, h.tape, h.output, h.size, h.block⟩
theorem Tk.grown (h : Tk w2 wr g g3 w2.heap.size s T v ps a n t) (hg : g < w2.heap.size) (hg3 : g3 < w2.heap.size) (hne : g ≠ g3) {v' : Value} {m : Nat}
    (o : w'.ownsRow w2.heap.size 48 32 v' (ps.length + 1) (flatI ps ++ flatI [m])) (gr : wr.grownBy w' v.ownBlock) : RevAt w' g3 T v a n t ∧ Tk w2 (w'.setCell ⟨g3, 32, none⟩ v') g g3 w2.heap.size s T v' (ps ++ [m]) a n t := by
  have f : Fr (fun k => v.ownBlock = some k) wr w' := (Fr.refl _ wr).grown gr (fun k hk _ => hk)
  have hb : ∀ k, v.ownBlock = some k → w2.heap.size ≤ k := fun k hk => (World.ownsRow.lt h.own k hk).1
  have hl : LinesAt w' g s := Whole.fr h.left f (fun e => by have := hb g e; omega)
  have hr : RevAt w' g3 T v a n t := Whole.fr h.rev f (fun e => by have := hb g3 e; omega)
  have f2 : Fr (fun k => k = g3) w' (w'.setCell ⟨g3, 32, none⟩ v') := Fr.setCell (S := fun k => k = g3) (p := ⟨g3, 32, none⟩) (Fr.refl _ w') (fun _ => rfl) v'
  refine ⟨hr, (h.fr.trans f (fun i hi e => by have := hb i e; omega)).trans f2 (fun _ _ e => .inr e), Whole.fr hl f2 hne, hr.setV v', ?_⟩
  have o2 := own_fr o f2 (fun k hk e => by have := (World.ownsRow.lt o k hk).1; omega)
  rw [List.length_append, List.length_singleton, flatI_append]
  exact o2
theorem Tk.put (h : Tk w2 wr g g3 base s T v ps a n t) (hb : g3 < base) (hne : g ≠ g3) {p : Addr} (hp : p.block = g3) (u : Value) {a' : List UInt8} {n' : Int} {t' : List UInt8} (hr : RevAt (wr.setCell p u) g3 T v a' n' t') : Tk w2 (wr.setCell p u) g g3 base s T v ps a' n' t' := by
  have f : Fr (fun k => k = g3) wr (wr.setCell p u) := Fr.setCell (Fr.refl _ wr) (fun _ => hp) u
  exact ⟨h.fr.trans f (fun _ _ e => .inr e), Whole.fr h.left f hne, hr, own_fr h.own f (fun k hk e => by
    have := (World.ownsRow.lt h.own k hk).1
    omega)⟩
end
/-- A list of one id, made by the call, as one step. -/
theorem wp_build_one {op : Oper} {a : Act} {w : World} {K : Act → World → Prop} {Q : Exit → Act → World → Prop} (x : Operand) (ho : op.op = .buildSlice 62 1 #[(0, x)]) (n : Nat) (c : Array Value) (hc : idC (dgt n) = c)
    (hx : a.eval x = .agg c) (h : K (a.put op.dst (.slice (some ⟨w.heap.size, 0, none⟩) 1 1)) (w.alloc (.cells c 48))) : op.wp Tryz.prog a w K Q := by
  subst hc
  unfold Oper.wp execOp
  have e : (#[((0 : Nat), x)].map fun (i, y) => (i, a.eval y)) = #[(0, .agg (idC (dgt n)))] := by simp [hx]
  simp only [ho, e, Sem.run_bind, build_one, Result.andThen_ok, Sem.run_pure]
  exact h
set_option maxHeartbeats 6400000 in
set_option maxRecDepth 100000 in
theorem VtakeRev_any (g : Nat) (s : List UInt8) (hs : s.length ≤ 100000) (w : World) (h : LinesAt w g s) :
    Calls Tryz.prog 150 #[.pointer (some ⟨g, 0, none⟩)] w (RevPost g w (revLRw s)) := by
  obtain ⟨w1, hw1⟩ : ∃ w1, w.alloc (.cells zeroR 188) = w1 := ⟨_, rfl⟩
  obtain ⟨w2, hw2⟩ : ∃ w2, w1.alloc (.cells zeroR 188) = w2 := ⟨_, rfl⟩
  have hF1 : Fr (fun _ => False) w w1 := by subst hw1; exact (Fr.refl _ w).alloc _
  have hF2 : Fr (fun _ => False) w1 w2 := by subst hw2; exact (Fr.refl _ w1).alloc _
  have hR1 : Whole w1 w.heap.size 188 zeroR := by subst hw1; exact Whole.new w _ _
  have hR2 : Whole w2 w1.heap.size 188 zeroR := by subst hw2; exact Whole.new w1 _ _
  have hsz1 : w1.heap.size = w.heap.size + 1 := by subst hw1; exact alloc_size _ _
  have hsz2 : w2.heap.size = w.heap.size + 2 := by subst hw2; rw [alloc_size]; omega
  have hg : g < w.heap.size := Whole.lt h
  have HT0 : Hid (Tk w2 w2 g w1.heap.size w2.heap.size s 0 (.slice none 0 0) [] [] 0 []) := Lib.hid ⟨Fr.refl _ _, (h.fr hF1).fr hF2, by rw [RevAt, ← zeroR_eq]; exact hR2, World.ownsRow_nil w2 w2.heap.size 48 32⟩
  have HR1 : Hid (Whole w2 w.heap.size 188 zeroR) := Lib.hid (hR1.fr hF2 (fun e => e))
  have HF := Lib.hid (hF1.trans hF2 (fun _ _ e => e))
  rw [hsz1] at HT0
  unfold zeroR at hw1 hw2
  simp [List.replicate] at hw1 hw2
  obtain ⟨G, hG⟩ : ∃ G, revLRw s = G := ⟨_, rfl⟩
  rw [hG]
  have HEnd : Hid (∀ w', Fr (fun k => k = g ∨ k = w.heap.size + 1) w2 w' → Fr (fun k => k = g) w w') := Lib.hid (fun w' f => (HF.out.mono (fun _ _ e => e.elim) : Fr (fun k => k = g) w w2).trans f (fun i hi e => by rcases e with e | e; exact e; omega))
  clear hF1 hF2 hR1 hR2 h
  cases hi : idL wTree s with
  | none =>
    have HN : Hid (G = none) := Lib.hid (by rw [← hG, revLRw, hi])
    have HI := Lib.hid (fun (l : LinesAt w2 g s) => Vlid_none g wTree s (by decide) (by decide) (by omega) hi w2 l)
    obtain ⟨W, hW⟩ : ∃ S, strB wTree = S := ⟨_, rfl⟩
    have hWc : ByteArray.mk #[116, 114, 101, 101] = W := hW
    rw [hW] at HI
    clear hG hi hW
    go_enter Tryz.func150, Tryz.ntmps150
    go_wp2_with (go_at_call 166; refine (HI.out HT0.out.left).mono ?_; rintro e w3 ⟨rfl, f3⟩)
    exact ⟨rfl, RevPost.gave HN.out rfl ((HF.out.mono (fun _ _ e => e.elim) : Fr (fun k => k = g) w w2).trans f3 (fun _ _ e => e))⟩
  | some x =>
    obtain ⟨T, r0⟩ := x
    have hr0 := idL_len hi
    have HI := Lib.hid (fun (l : LinesAt w2 g s) => Vlid_some g wTree s r0 T (by decide) (by decide) (by omega) hi w2 l)
    have HGP : Hid (∀ (P : Option (List Nat × List UInt8)), parA r0.length [] r0 = P → G = revL1 T P) := Lib.hid (fun P hP => by rw [← hG, revLRw, hi]; simp only []; rw [hP])
    obtain ⟨W, hW⟩ : ∃ S, strB wTree = S := ⟨_, rfl⟩
    have hWc : ByteArray.mk #[116, 114, 101, 101] = W := hW
    obtain ⟨W2, hW2⟩ : ∃ S, strB wParent = S := ⟨_, rfl⟩
    have hWc2 : ByteArray.mk #[112, 97, 114, 101, 110, 116] = W2 := hW2
    obtain ⟨W3, hW3⟩ : ∃ S, strB wAuthor = S := ⟨_, rfl⟩
    have hWc3 : ByteArray.mk #[97, 117, 116, 104, 111, 114] = W3 := hW3
    obtain ⟨W4, hW4⟩ : ∃ S, strB wTime = S := ⟨_, rfl⟩
    have hWc4 : ByteArray.mk #[116, 105, 109, 101] = W4 := hW4
    rw [hW] at HI
    have HIP := Lib.hid (fun (wr : World) (r : List UInt8) (hr : r.length ≤ 100000) (l : LinesAt wr g r) (hn : idL wParent r = none) => Vlid_none g wParent r (by decide) (by decide) (by omega) hn wr l)
    have HIS := Lib.hid (fun (wr : World) (r r' : List UInt8) (n : Nat) (hr : r.length ≤ 100000) (l : LinesAt wr g r) (hn : idL wParent r = some (n, r')) => Vlid_some g wParent r r' n (by decide) (by decide) (by omega) hn wr l)
    have HBE := Lib.hid (fun (wr : World) (r : List UInt8) (hr : r.length ≤ 100000) (l : LinesAt wr g r) => Vlbegin_any g wParent r (by decide) (by omega) wr l)
    rw [hW2] at HIP HIS HBE
    have hcs := idC_size (dgt T)
    have hco := idC_one (dgt T)
    have HLD := Lib.hid (fun (v : Value) => revC_laid 0 v [] 0 [] T)
    obtain ⟨ct, hct⟩ : ∃ c, idC (dgt T) = c := ⟨_, rfl⟩
    rw [hct] at HI hcs hco HLD
    have hRS := revC_size 0 (.slice none 0 0) [] 0 []
    clear hG hi hW hW2 hct
    go_enter Tryz.func150, Tryz.ntmps150
    go_wp2_with (first
      | (go_at_call 166; refine (HI.out HT0.out.left).mono ?_; rintro e w3 ⟨rfl, l3, f3⟩
         have HT3 := Lib.hid (HT0.out.took (by omega) (by omega) l3 f3)
         clear l3 f3)
      | (refine wpList_store_at rfl 48 _ _ rfl (w.heap.size + 1) 0 188 _ ct rfl rfl HT3.out.rev (by rw [hRS, hcs]; decide) (by rw [hcs]; exact size32) hco ?_
         intro w4 hw4 hf4
         rw [HLD.out] at hw4
         have HT4 : Hid (Tk w2 w4 g (w.heap.size + 1) w2.heap.size r0 T (.slice none 0 0) [] [] 0 []) := Lib.hid ⟨HT3.out.fr.trans hf4 (fun _ _ e => .inr e), Whole.fr HT3.out.left hf4 (fun e => by omega), hw4, World.ownsRow_nil w4 w2.heap.size 48 32⟩
         clear hw4 hf4))
    obtain ⟨P, hP⟩ : ∃ P, parA r0.length [] r0 = P := ⟨_, rfl⟩
    have HP0 := Lib.hid hP
    have HGQ := Lib.hid (HGP.out P hP)
    have hr0l := hr0.1
    clear hP hw1 hw2
    simp only [Act.put]
    go_loopg [] r0.length (fun kx wr => ∃ acc v r, Tk w2 wr g (w.heap.size + 1) w2.heap.size r T v acc [] 0 [] ∧ Hid (parA kx acc r = P) ∧ r.length ≤ 100000 ∧ r.length ≤ kx ∧ acc.length + kx ≤ r0.length)
    case atStart => exact ⟨[], _, r0, HT4.out, HP0, by omega, Nat.le_refl _, by simp⟩
    case round =>
      obtain ⟨acc, v, r, htk, HP, hrl, hrk, hal⟩ := hrel
      obtain ⟨wo, rfl⟩ : ∃ wo, wo = wr := ⟨wr, rfl⟩
      have HB := Lib.hid (HBE.out wo r hrl htk.left)
      have HTK := Lib.hid htk
      have c1 := htk.rev.cv
      cases hb : begW wParent r with
      | true =>
        rw [hb] at HB
        cases hid : idL wParent r with
        | none =>
          have HN : Hid (G = none) := Lib.hid (by
            have := HP.out
            rw [parA_bad hb hid] at this
            have h2 := HGQ.out
            rw [← this] at h2
            exact h2)
          have HC := Lib.hid (fun (wr : World) (l : LinesAt wr g r) => HIP.out wr r hrl l hid)
          have HLn := Lib.hid htk.left
          have HFw := Lib.hid (fun (w' : World) (f : Fr (fun k => k = g) wo w') => htk.fr.trans f (fun _ _ e => .inl e))
          clear htk hb hid
          go_wp2_with (go_at_call 167; refine HB.out.mono ?_; rintro e w' ⟨rfl, rfl⟩)
          have hdr : (wo.drew).cell? ⟨w.heap.size + 1, 32, none⟩ = some v := c1
          clear c1
          refine wp_region_held (S := fun _ => True) (by kernel_rfl) ?_
          refine wpAnyH_take (i := 0) (v := .pointer (some ⟨w.heap.size + 1, 32, none⟩)) rfl (by kernel_rfl) (by kernel_rfl) (by kernel_rfl) (fun _ _ _ h => h) (.inl ⟨by rfl, ?_⟩) trivial ?_
          · intro w' _
            go_simp
          refine wpAnyH_take (i := 2) (v := .pointer (some ⟨g, 0, none⟩)) rfl (by kernel_rfl) (by kernel_rfl) (by kernel_rfl) (fun _ _ _ h => h) (.inl ⟨by rfl, ?_⟩) trivial ?_
          · intro w' _
            go_simp
          (
            refine wpAnyH_all (rs := [1, 3]) (by kernel_rfl) (by simp) ?_
            intro i hi
            simp only [List.mem_cons, List.not_mem_nil, or_false] at hi
            rcases hi with hi | hi <;> subst hi)
          · (
            refine wpOp_step rfl (fun K hK => ?_)
            go_simp
            refine hK _ _ ⟨trivial, ?_⟩
            clear hK K)
            (
              refine wpAnyH_all (rs := [3]) (by kernel_rfl) (by simp) ?_
              intro i hi
              simp only [List.mem_cons, List.not_mem_nil, or_false] at hi
              subst hi)
            (
              refine wpOp_step rfl (fun K hK => ?_)
              go_simp
              refine (HC.out wo.drew HLn.out).mono ?_
              rintro e w5 ⟨rfl, f5⟩
              exact ⟨rfl, RevPost.gave HN.out rfl (HEnd.out _ (HFw.out _ f5.undrew))⟩)
          · (
            refine wpOp_step rfl (fun K hK => ?_)
            go_simp
            refine (HC.out wo.drew HLn.out).mono ?_
            rintro e w5 ⟨rfl, f5⟩
            exact ⟨rfl, RevPost.gave HN.out rfl (HEnd.out _ (HFw.out _ f5.undrew))⟩)
        | some x =>
          obtain ⟨n, r'⟩ := x
          have hil := (idL_len hid).1
          have HPN : Hid (parA (gk - 1) (acc ++ [n]) r' = P) := Lib.hid (by
            have := HP.out
            rw [show gk = (gk - 1) + 1 by omega, parA_go hb hid] at this
            exact this)
          obtain ⟨i0, hi0, hz0, hz1, hz2⟩ := info_parts info_id
          have HC := Lib.hid (fun (wr : World) (l : LinesAt wr g r) => HIS.out wr r r' n hrl l hid)
          have HLn := Lib.hid htk.left
          have hcn := idC_size (dgt n)
          obtain ⟨cn, hcn'⟩ : ∃ c, idC (dgt n) = c := ⟨_, rfl⟩
          have HCN := Lib.hid hcn'
          rw [hcn'] at HC hcn
          clear htk hb hid hcn'
          go_wp2_with (go_at_call 167; refine HB.out.mono ?_; rintro e w' ⟨rfl, rfl⟩)
          have hdr : (wo.drew).cell? ⟨w.heap.size + 1, 32, none⟩ = some v := c1
          clear c1
          refine wp_region_held (S := fun _ => True) (by kernel_rfl) ?_
          refine wpAnyH_take (i := 0) (v := .pointer (some ⟨w.heap.size + 1, 32, none⟩)) rfl (by kernel_rfl) (by kernel_rfl) (by kernel_rfl) (fun _ _ _ h => h) (.inl ⟨by rfl, ?_⟩) trivial ?_
          · intro w' _
            go_simp
          refine wpAnyH_take (i := 2) (v := .pointer (some ⟨g, 0, none⟩)) rfl (by kernel_rfl) (by kernel_rfl) (by kernel_rfl) (fun _ _ _ h => h) (.inl ⟨by rfl, ?_⟩) trivial ?_
          · intro w' _
            go_simp
          (
            refine wpAnyH_all (rs := [1, 3]) (by kernel_rfl) (by simp) ?_
            intro i hi
            simp only [List.mem_cons, List.not_mem_nil, or_false] at hi
            rcases hi with hi | hi <;> subst hi)
          · (
            refine wpOp_step rfl (fun K hK => ?_)
            go_simp
            refine hK _ _ ⟨trivial, ?_⟩
            clear hK K)
            (
              refine wpAnyH_all (rs := [3]) (by kernel_rfl) (by simp) ?_
              intro i hi
              simp only [List.mem_cons, List.not_mem_nil, or_false] at hi
              subst hi)
            (
              refine wpOp_step rfl (fun K hK => ?_)
              go_simp
              refine (HC.out wo.drew HLn.out).mono ?_
              rintro e w5 ⟨rfl, l5, f5⟩
              have HT5 := Lib.hid (HTK.out.took (by omega) (by omega) l5 f5.undrew)
              have c5 := HT5.out.rev.cv
              clear l5 f5
              refine hK _ _ ⟨trivial, ?_⟩
              clear hK K)
            (
              refine wpAnyH_all (rs := [4]) (by kernel_rfl) (by simp) ?_
              intro i hi
              simp only [List.mem_cons, List.not_mem_nil, or_false] at hi
              subst hi)
            (
              refine wpOp_step rfl (fun K hK => ?_)
              rw [if_pos (by kernel_rfl)]
              refine wp_build_one (.tmp 12) rfl n cn HCN.out (by kernel_rfl) ?_
              refine hK _ _ ⟨trivial, ?_⟩
              clear hK K
              have HT6 := Lib.hid (HT5.out.later ((Fr.refl (fun _ => False) w5).alloc (.cells cn 48)))
              have c6 := HT6.out.rev.cv)
            (
              (
                refine wpAnyH_all (rs := [5]) (by kernel_rfl) (by simp) ?_
                intro i hi
                simp only [List.mem_cons, List.not_mem_nil, or_false] at hi
                subst hi)
              refine wpOp_step rfl (fun K hK => ?_)
              refine Ids.step_append_row _ (by rfl) (.tmp 10) (.tmp 13) 62 62 (by rfl) w2.heap.size 48 i0 (.agg zero32) 32 32 Tryz.underlying62 hi0 hz0 hz1 hz2 zero32_cells v acc.length (flatI acc) (by kernel_rfl) HT6.out.own _ 1 (flatI [n]) (by kernel_rfl) (by have := src_one32 w5 n; rw [HCN.out] at this; exact this) (by unfold maxLen; omega) (by omega) (by have := HT6.out.fr.size; omega) ?_
              intro v7 w7 o7 g7 at7
              obtain ⟨A7, k7, hv7, _, _⟩ := own_slice o7
              subst hv7
              have HG7 := Lib.hid (HT6.out.grown (by omega) (by omega) (by omega) o7 g7)
              have c7 := HG7.out.1.cv
              have z7 := HG7.out.1.frozen 32
              clear o7 g7 at7
              refine hK _ _ ⟨trivial, ?_⟩
              clear hK K
              refine wpAnyH_take (i := 6) (v := .pointer (some ⟨w.heap.size + 1, 32, none⟩)) rfl (by kernel_rfl) (by kernel_rfl) (by kernel_rfl) (fun _ _ _ h => h) (.inl ⟨by rfl, ?_⟩) trivial ?_
              · intro w' _
                go_simp
              (
                refine wpAnyH_all (rs := [7]) (by kernel_rfl) (by simp) ?_
                intro i hi
                simp only [List.mem_cons, List.not_mem_nil, or_false] at hi
                subst hi)
              refine wpOp_step rfl (fun K hK => ?_)
              go_simp
              refine hK _ _ ⟨trivial, ?_⟩
              clear hK K
              refine wpAnyH_done (by kernel_rfl) ?_ _
              go_wp2_with fail
              go_roundg (gk - 1)
              case measure => omega
              case rel => exact ⟨acc ++ [n], _, r', HG7.out.2, HPN, by omega, by omega, by rw [List.length_append, List.length_singleton]; omega⟩)
          · (
            refine wpOp_step rfl (fun K hK => ?_)
            go_simp
            refine (HC.out wo.drew HLn.out).mono ?_
            rintro e w5 ⟨rfl, l5, f5⟩
            have HT5 := Lib.hid (HTK.out.took (by omega) (by omega) l5 f5.undrew)
            have c5 := HT5.out.rev.cv
            clear l5 f5
            refine hK _ _ ⟨trivial, ?_⟩
            clear hK K)
            (
              refine wpAnyH_all (rs := [1, 4]) (by kernel_rfl) (by simp) ?_
              intro i hi
              simp only [List.mem_cons, List.not_mem_nil, or_false] at hi
              rcases hi with hi | hi <;> subst hi)
            · (
              refine wpOp_step rfl (fun K hK => ?_)
              go_simp
              refine hK _ _ ⟨trivial, ?_⟩
              clear hK K)
              (
                refine wpAnyH_all (rs := [4]) (by kernel_rfl) (by simp) ?_
                intro i hi
                simp only [List.mem_cons, List.not_mem_nil, or_false] at hi
                subst hi)
              (
                refine wpOp_step rfl (fun K hK => ?_)
                rw [if_pos (by kernel_rfl)]
                refine wp_build_one (.tmp 12) rfl n cn HCN.out (by kernel_rfl) ?_
                refine hK _ _ ⟨trivial, ?_⟩
                clear hK K
                have HT6 := Lib.hid (HT5.out.later ((Fr.refl (fun _ => False) w5).alloc (.cells cn 48)))
                have c6 := HT6.out.rev.cv)
              (
                (
                  refine wpAnyH_all (rs := [5]) (by kernel_rfl) (by simp) ?_
                  intro i hi
                  simp only [List.mem_cons, List.not_mem_nil, or_false] at hi
                  subst hi)
                refine wpOp_step rfl (fun K hK => ?_)
                refine Ids.step_append_row _ (by rfl) (.tmp 10) (.tmp 13) 62 62 (by rfl) w2.heap.size 48 i0 (.agg zero32) 32 32 Tryz.underlying62 hi0 hz0 hz1 hz2 zero32_cells v acc.length (flatI acc) (by kernel_rfl) HT6.out.own _ 1 (flatI [n]) (by kernel_rfl) (by have := src_one32 w5 n; rw [HCN.out] at this; exact this) (by unfold maxLen; omega) (by omega) (by have := HT6.out.fr.size; omega) ?_
                intro v7 w7 o7 g7 at7
                obtain ⟨A7, k7, hv7, _, _⟩ := own_slice o7
                subst hv7
                have HG7 := Lib.hid (HT6.out.grown (by omega) (by omega) (by omega) o7 g7)
                have c7 := HG7.out.1.cv
                have z7 := HG7.out.1.frozen 32
                clear o7 g7 at7
                refine hK _ _ ⟨trivial, ?_⟩
                clear hK K
                refine wpAnyH_take (i := 6) (v := .pointer (some ⟨w.heap.size + 1, 32, none⟩)) rfl (by kernel_rfl) (by kernel_rfl) (by kernel_rfl) (fun _ _ _ h => h) (.inl ⟨by rfl, ?_⟩) trivial ?_
                · intro w' _
                  go_simp
                (
                  refine wpAnyH_all (rs := [7]) (by kernel_rfl) (by simp) ?_
                  intro i hi
                  simp only [List.mem_cons, List.not_mem_nil, or_false] at hi
                  subst hi)
                refine wpOp_step rfl (fun K hK => ?_)
                go_simp
                refine hK _ _ ⟨trivial, ?_⟩
                clear hK K
                refine wpAnyH_done (by kernel_rfl) ?_ _
                go_wp2_with fail
                go_roundg (gk - 1)
                case measure => omega
                case rel => exact ⟨acc ++ [n], _, r', HG7.out.2, HPN, by omega, by omega, by rw [List.length_append, List.length_singleton]; omega⟩)
            · (
              refine wpOp_step rfl (fun K hK => ?_)
              rw [if_pos (by kernel_rfl)]
              refine wp_build_one (.tmp 12) rfl n cn HCN.out (by kernel_rfl) ?_
              refine hK _ _ ⟨trivial, ?_⟩
              clear hK K
              have HT6 := Lib.hid (HT5.out.later ((Fr.refl (fun _ => False) w5).alloc (.cells cn 48)))
              have c6 := HT6.out.rev.cv)
              (
                refine wpAnyH_all (rs := [1]) (by kernel_rfl) (by simp) ?_
                intro i hi
                simp only [List.mem_cons, List.not_mem_nil, or_false] at hi
                subst hi)
              (
                refine wpOp_step rfl (fun K hK => ?_)
                go_simp
                refine hK _ _ ⟨trivial, ?_⟩
                clear hK K)
              (
                (
                  refine wpAnyH_all (rs := [5]) (by kernel_rfl) (by simp) ?_
                  intro i hi
                  simp only [List.mem_cons, List.not_mem_nil, or_false] at hi
                  subst hi)
                refine wpOp_step rfl (fun K hK => ?_)
                refine Ids.step_append_row _ (by rfl) (.tmp 10) (.tmp 13) 62 62 (by rfl) w2.heap.size 48 i0 (.agg zero32) 32 32 Tryz.underlying62 hi0 hz0 hz1 hz2 zero32_cells v acc.length (flatI acc) (by kernel_rfl) HT6.out.own _ 1 (flatI [n]) (by kernel_rfl) (by have := src_one32 w5 n; rw [HCN.out] at this; exact this) (by unfold maxLen; omega) (by omega) (by have := HT6.out.fr.size; omega) ?_
                intro v7 w7 o7 g7 at7
                obtain ⟨A7, k7, hv7, _, _⟩ := own_slice o7
                subst hv7
                have HG7 := Lib.hid (HT6.out.grown (by omega) (by omega) (by omega) o7 g7)
                have c7 := HG7.out.1.cv
                have z7 := HG7.out.1.frozen 32
                clear o7 g7 at7
                refine hK _ _ ⟨trivial, ?_⟩
                clear hK K
                refine wpAnyH_take (i := 6) (v := .pointer (some ⟨w.heap.size + 1, 32, none⟩)) rfl (by kernel_rfl) (by kernel_rfl) (by kernel_rfl) (fun _ _ _ h => h) (.inl ⟨by rfl, ?_⟩) trivial ?_
                · intro w' _
                  go_simp
                (
                  refine wpAnyH_all (rs := [7]) (by kernel_rfl) (by simp) ?_
                  intro i hi
                  simp only [List.mem_cons, List.not_mem_nil, or_false] at hi
                  subst hi)
                refine wpOp_step rfl (fun K hK => ?_)
                go_simp
                refine hK _ _ ⟨trivial, ?_⟩
                clear hK K
                refine wpAnyH_done (by kernel_rfl) ?_ _
                go_wp2_with fail
                go_roundg (gk - 1)
                case measure => omega
                case rel => exact ⟨acc ++ [n], _, r', HG7.out.2, HPN, by omega, by omega, by rw [List.length_append, List.length_singleton]; omega⟩)
      | false =>
        rw [hb] at HB
        have HG1 : Hid (G = revL2 T acc r) := Lib.hid (by
          have := HP.out
          rw [parA_end hb] at this
          have h2 := HGQ.out
          rw [← this] at h2
          exact h2)
        clear hb
        cases hta : takeL wAuthor r with
        | none =>
          have HN : Hid (G = none) := Lib.hid (by rw [HG1.out, revL2, hta])
          have HC := Lib.hid (Vltake_none g wAuthor r (by decide) (by omega) hta wo htk.left)
          rw [hW3] at HC
          clear htk hta
          go_wp2_with (first
            | (go_at_call 167; refine HB.out.mono ?_; rintro e w' ⟨rfl, rfl⟩)
            | (go_at_call 168; refine HC.out.mono ?_; rintro e w5 ⟨rfl, b5⟩))
          exact ⟨rfl, RevPost.gave HN.out rfl (HEnd.out _ (HTK.out.fr.then_below b5))⟩
        | some xa =>
          obtain ⟨a, r2⟩ := xa
          have hl2 := takeL_len hta
          have HG2 : Hid (G = revL3 T acc a r2) := Lib.hid (by rw [HG1.out, revL2, hta])
          have HC := Lib.hid (Vltake_some g wAuthor r a r2 (by decide) (by decide) (by omega) hta wo htk.left)
          rw [hW3] at HC
          have HT5 := Lib.hid (fun (w5 : World) (l5 : LinesAt w5 g r2) (f5 : Fr (fun k => k = g) wo w5) => htk.took (by omega) (by omega) l5 f5)
          have HS5 := Lib.hid (fun (w5 : World) (h : Tk w2 w5 g (w.heap.size + 1) w2.heap.size r2 T v acc [] 0 []) => (h.put (p := ⟨w.heap.size + 1, 33, none⟩) (by omega) (by omega) rfl (.string (strB a)) (h.rev.setA a) : Tk w2 _ g (w.heap.size + 1) w2.heap.size r2 T v acc a 0 []))
          obtain ⟨Sa, hSa⟩ : ∃ S, strB a = S := ⟨_, rfl⟩
          rw [hSa] at HC HS5
          clear htk hta hSa
          cases htn : numL wTime r2 with
          | none =>
            have HN : Hid (G = none) := Lib.hid (by rw [HG2.out, revL3, htn])
            have HD := Lib.hid (fun (w5 : World) (l : LinesAt w5 g r2) => Vlnumber_none g wTime r2 (by decide) (by decide) (by omega) htn w5 l)
            rw [hW4] at HD
            clear htn
            go_wp2_with (first
              | (go_at_call 167; refine HB.out.mono ?_; rintro e w' ⟨rfl, rfl⟩)
              | (go_at_call 168; refine HC.out.mono ?_; rintro e w5 ⟨rfl, l5, f5⟩; have K5 := Lib.hid (HT5.out _ l5 f5); have K6 := Lib.hid (HS5.out _ K5.out); have d5 := K5.out.rev.ca; have e5 := K5.out.rev.frozen 33; clear l5 f5)
              | (go_at_call 169; refine (HD.out _ K6.out.left).mono ?_; rintro e w7 ⟨rfl, f7⟩))
            exact ⟨rfl, RevPost.gave HN.out rfl (HEnd.out _ (K6.out.fr.trans f7 (fun _ _ e => .inl e)))⟩
          | some xn =>
            obtain ⟨n, r3⟩ := xn
            have hl3 := numL_len htn
            have HG3 : Hid (G = revL4 T acc a n r3) := Lib.hid (by rw [HG2.out, revL3, htn])
            have HD := Lib.hid (fun (w5 : World) (l : LinesAt w5 g r2) => Vlnumber_some g wTime r2 r3 n (by decide) (by decide) (by omega) htn w5 l)
            rw [hW4] at HD
            have HT7 := Lib.hid (fun (w6 w7 : World) (h : Tk w2 w6 g (w.heap.size + 1) w2.heap.size r2 T v acc a 0 []) (l7 : LinesAt w7 g r3) (f7 : Fr (fun k => k = g) w6 w7) => h.took (by omega) (by omega) l7 f7)
            have HS7 := Lib.hid (fun (w7 : World) (h : Tk w2 w7 g (w.heap.size + 1) w2.heap.size r3 T v acc a 0 []) => (h.put (p := ⟨w.heap.size + 1, 34, none⟩) (by omega) (by omega) rfl (.int .i64 n) (h.rev.setN n) : Tk w2 _ g (w.heap.size + 1) w2.heap.size r3 T v acc a n []))
            clear htn
            cases htx : textL r3 with
            | none =>
              have HN : Hid (G = none) := Lib.hid (by rw [HG3.out, revL4, htx])
              have HX := Lib.hid (fun (w5 : World) (l : LinesAt w5 g r3) => Vltext_none g r3 (by omega) htx w5 l)
              clear htx
              go_wp2_with (first
                | (go_at_call 167; refine HB.out.mono ?_; rintro e w' ⟨rfl, rfl⟩)
                | (go_at_call 168; refine HC.out.mono ?_; rintro e w5 ⟨rfl, l5, f5⟩; have K5 := Lib.hid (HT5.out _ l5 f5); have K6 := Lib.hid (HS5.out _ K5.out); have d5 := K5.out.rev.ca; have e5 := K5.out.rev.frozen 33; clear l5 f5)
                | (go_at_call 169; refine (HD.out _ K6.out.left).mono ?_; rintro e w7 ⟨rfl, l7, f7⟩; have K7 := Lib.hid (HT7.out _ _ K6.out l7 f7); have K8 := Lib.hid (HS7.out _ K7.out); have d7 := K7.out.rev.cn; have e7 := K7.out.rev.frozen 34; clear l7 f7)
                | (go_at_call 170; refine (HX.out _ K8.out.left).mono ?_; rintro e w9 ⟨rfl, f9⟩))
              exact ⟨rfl, RevPost.gave HN.out rfl (HEnd.out _ (K8.out.fr.trans f9 (fun _ _ e => .inl e)))⟩
            | some t =>
              have HN : Hid (G = some ⟨T, acc, a, n, t⟩) := Lib.hid (by rw [HG3.out, revL4, htx])
              have HX := Lib.hid (fun (w5 : World) (l : LinesAt w5 g r3) => Vltext_some g r3 t (by omega) htx w5 l)
              have HS9 := Lib.hid (fun (w9 : World) (h : RevAt w9 (w.heap.size + 1) T v a n []) => h.setT t)
              have HEnd2 : Hid (∀ w8 w9, Tk w2 w8 g (w.heap.size + 1) w2.heap.size r3 T v acc a n [] → Fr (fun k => k = g) w8 w9 → RevAt w9 (w.heap.size + 1) T v a n [] ∧ (∀ u, Fr (fun k => k = g ∨ k = w.heap.size + 1) w2 (w9.setCell ⟨w.heap.size + 1, 35, none⟩ u) ∧ (w9.setCell ⟨w.heap.size + 1, 35, none⟩ u).ownsRow w2.heap.size 48 32 v acc.length (flatI acc) ∧ Whole (w9.setCell ⟨w.heap.size + 1, 35, none⟩ u) w.heap.size 188 zeroR)) := Lib.hid (fun w8 w9 h f => by
                have f2 : ∀ u, Fr (fun k => k = w.heap.size + 1) w9 (w9.setCell ⟨w.heap.size + 1, 35, none⟩ u) := fun u => Fr.setCell (S := fun k => k = w.heap.size + 1) (p := ⟨w.heap.size + 1, 35, none⟩) (Fr.refl _ w9) (fun _ => rfl) u
                have fa : ∀ u, Fr (fun k => k = g ∨ k = w.heap.size + 1) w2 (w9.setCell ⟨w.heap.size + 1, 35, none⟩ u) := fun u => (h.fr.trans f (fun _ _ e => .inl e)).trans (f2 u) (fun _ _ e => .inr e)
                refine ⟨Whole.fr h.rev f (fun e => by omega), fun u => ⟨fa u, ?_, HR1.out.fr (fa u) (fun e => by omega)⟩⟩
                exact own_fr (own_fr h.own f (fun k hk e => by have := (World.ownsRow.lt h.own k hk).1; omega)) (f2 u) (fun k hk e => by have := (World.ownsRow.lt h.own k hk).1; omega))
              obtain ⟨St, hSt⟩ : ∃ S, strB t = S := ⟨_, rfl⟩
              rw [hSt] at HX HS9
              have hrs := revC_size T v a n t
              have HRO := Lib.hid (fun (hv : v.oneCell' = true) => revC_one T v a n t hv)
              obtain ⟨cr, hcr⟩ : ∃ c, revC T v a n t = c := ⟨_, rfl⟩
              have HCR := Lib.hid hcr
              rw [hcr] at hrs HRO
              have hvo : v.oneCell' = true := by
                obtain ⟨A7, k7, hv7, _, _⟩ := own_slice HTK.out.own
                subst hv7
                rfl
              have hco' := HRO.out hvo
              clear htx hSt hcr
              go_wp2_with (first
                | (go_at_call 167; refine HB.out.mono ?_; rintro e w' ⟨rfl, rfl⟩)
                | (go_at_call 168; refine HC.out.mono ?_; rintro e w5 ⟨rfl, l5, f5⟩; have K5 := Lib.hid (HT5.out _ l5 f5); have K6 := Lib.hid (HS5.out _ K5.out); have d5 := K5.out.rev.ca; have e5 := K5.out.rev.frozen 33; clear l5 f5)
                | (go_at_call 169; refine (HD.out _ K6.out.left).mono ?_; rintro e w7 ⟨rfl, l7, f7⟩; have K7 := Lib.hid (HT7.out _ _ K6.out l7 f7); have K8 := Lib.hid (HS7.out _ K7.out); have d7 := K7.out.rev.cn; have e7 := K7.out.rev.frozen 34; clear l7 f7)
                | (go_at_call 170; refine (HX.out _ K8.out.left).mono ?_; rintro e w9 ⟨rfl, f9⟩; have KE := Lib.hid (HEnd2.out _ _ K8.out f9); have d9 := KE.out.1.ct; have e9 := Whole.frozen KE.out.1 35
                   have R9 : Hid (Whole (w9.setCell ⟨w.heap.size + 1, 35, none⟩ (.string St)) (w.heap.size + 1) 188 cr) := Lib.hid (by rw [← HCR.out]; exact HS9.out _ KE.out.1)
                   clear f9)
                | (refine wpList_load_row rfl 188 _ rfl _ rfl 188 _ _ _ R9.out Tryz.underlying188 rfl (by rw [hrs]; exact size36) ?_)
                | (refine wpList_store_at rfl 188 _ _ rfl w.heap.size 0 188 _ cr rfl rfl (KE.out.2 _).2.2 (by rw [hrs]; decide) (by rw [hrs]; exact size36) hco' ?_
                   intro w10 hw10 hf10
                   rw [laidAt_all _ _ (by rw [hrs]; rfl)] at hw10))
              refine bodyPost_ret (v := .agg cr) (results_cell_row rfl _ _ _ _ _ _ _ rfl hw10 Tryz.underlying188 rfl (by rw [hrs]; exact size36)) rfl ?_
              have hfin := (KE.out.2 (.string St))
              show RevPost g w G _ _
              rw [HN.out]
              refine ⟨v, by rw [HCR.out], ?_, ?_⟩
              · have o9 := own_fr hfin.2.1 hf10 (fun k hk e => by have := (World.ownsRow.lt hfin.2.1 k hk).1; omega)
                refine ⟨o9.1, ?_⟩
                rcases o9.2 with h0 | ⟨gg, cap, cur, hv, hb, rr⟩
                · exact .inl h0
                · exact .inr ⟨gg, cap, cur, hv, by omega, rr⟩
              · exact (HEnd.out _ hfin.1).trans hf10 (fun i hi e => by omega)
end Go.Proofs.YtkaeoflgnnlbeaaGreatDoor
/- What is proved: the deferred closure of Get: where a panic goes through, it is caught, and the answer is none; else nothing is done. Conditions: none. -/
namespace Go.Proofs.YtkaeoflgnnlbeaaGreatDoor
open Go.RowKit Go.Sort Go.Shelf
open Ids (idC dgt big idC_size idC_get idC_one cellD zero32 size32 dgt_lt hexB)
set_option linter.unusedVariables false
theorem zero_build (w : World) : (Instr.build 188 #[]).run Tryz.prog w = .ok (.agg zeroR) w := by kernel_rfl
theorem zeroR_size : zeroR.size = 36 := rfl
theorem zeroR_one : zeroR.all (·.oneCell') = true := by kernel_rfl
set_option maxHeartbeats 1600000 in
set_option maxRecDepth 100000 in
theorem catch_panicking (gc ge : Nat) (hne : gc ≠ ge) (u : TypeId) (pv : Value) (older : List PanicEntry) (cs : Array Value) (hcs : cs.size = 36) (x : Int) (w : World) (hC : Whole w gc 188 cs) (hE : Whole w ge 27 #[.int .i64 x]) :
    CallsD Tryz.prog 149 #[.pointer (some ⟨gc, 0, none⟩), .pointer (some ⟨ge, 0, none⟩)] (.panicking ({ v := .iface u pv, recovered := false } :: older)) w fun e u' w' =>
      e = .returned (.tuple #[]) ∧ u' = .panicking ({ v := .iface u pv, recovered := true } :: older) ∧ Whole w' gc 188 zeroR ∧ Whole w' ge 27 #[.int .i64 12] ∧ Fr (fun k => k = gc ∨ k = ge) w w' := by
  have HC := Lib.hid hC
  have HE := Lib.hid hE
  have HB := Lib.hid zero_build
  clear hC hE
  refine callsD_of_wpS Tryz.func149 rfl fun c₀ cs' hu => ?_
  apply wpS_seq
  apply wpS_region
  simp [wpOpsS, go_sem, recoverD, hu, Tryz.ntmps149, Exit.thenS]
  refine wpS_cond (t := true) (by simp [Act.eval, Array.replicate]) ?_
  simp only [if_true]
  apply wpS_of_wp
  rw [show (#[Value.pointer (some ⟨gc, 0, none⟩), Value.pointer (some ⟨ge, 0, none⟩)] ++ ((Array.replicate 3 undef).setIfInBounds 0 (Value.iface u pv)).setIfInBounds 1 (Value.bool true)) = [Value.pointer (some ⟨gc, 0, none⟩), Value.pointer (some ⟨ge, 0, none⟩), Value.iface u pv, Value.bool true, undef].toArray from rfl]
  go_wp2_with (first
    | (refine wpList_build_to rfl 188 _ rfl #[] (by first | rfl | simp [Act.eval]) (.agg zeroR) (HB.out _) ?_)
    | (refine wpList_store_at rfl 188 _ _ rfl gc 0 188 cs zeroR rfl rfl HC.out (by rw [hcs]; decide) size36 zeroR_one ?_
       intro w2 hw2 hf2
       rw [laidAt_all _ _ (by rw [hcs]; rfl)] at hw2
       have HE2 := Lib.hid (HE.out.fr hf2 (fun e => hne e.symm))
       have c2 := HE2.out.cell 0
       have z2 := HE2.out.frozen 0
       rw [show (#[Value.int IntKind.i64 x])[0]? = some (Value.int IntKind.i64 x) from rfl] at c2))
  have f3 : Fr (fun k => k = ge) w2 (w2.setCell ⟨ge, 0, none⟩ (.int .i64 12)) := Fr.setCell (S := fun k => k = ge) (p := ⟨ge, 0, none⟩) (Fr.refl _ w2) (fun _ => rfl) _
  refine ⟨rfl, _, rfl, .tuple #[], by simp [results, Tryz.results149], rfl, rfl, hw2.fr f3 hne, HE2.out.set 0 (.int .i64 12), (hf2.mono (fun _ _ e => .inl e) : Fr (fun k => k = gc ∨ k = ge) w w2).trans f3 (fun _ _ e => .inr e)⟩
theorem catch_idle (p q : Addr) (w : World) :
    CallsD Tryz.prog 149 #[.pointer (some p), .pointer (some q)] .returning w fun e u' w' => e = .returned (.tuple #[]) ∧ u' = .returning ∧ w' = w := by
  refine callsD_of_wpS Tryz.func149 rfl fun c₀ cs hu => ?_
  apply wpS_seq
  apply wpS_region
  simp [wpOpsS, go_sem, recoverD, hu, Tryz.ntmps149, Exit.thenS]
  refine wpS_cond (t := false) (by simp [Act.eval, Array.replicate]) ?_
  simp only [Bool.false_eq_true, if_false]
  refine wpS_of_wp (wp_skip ?_)
  cases c₀
  simp_all [bodyPostS, results, Tryz.results149]
end Go.Proofs.YtkaeoflgnnlbeaaGreatDoor
/- What is proved: bytes as a commit, by the program. Conditions: the bytes' cells are there, not too many. -/
namespace Go.Proofs.YtkaeoflgnnlbeaaGreatDoor
open Go.RowKit Go.Sort Go.Shelf
open Ids (idC dgt big idC_size idC_get idC_one cellD zero32 size32 dgt_lt hexB)
set_option linter.unusedVariables false
def zeroP : RevP := ⟨0, [], [], 0, []⟩
/-- What bytes tell: a commit, and an error's number. -/
def getC (G : Option RevP) : RevP × Int := match G with
  | none => (zeroP, 12)
  | some R => if chkE R.ps R.a R.n R.t = 0 then (R, 0) else (zeroP, chkE R.ps R.a R.n R.t)
def getR (s : List UInt8) : RevP × Int := getC (revLRw s)
theorem getC_ok {R : RevP} (h : chkE R.ps R.a R.n R.t = 0) : getC (some R) = (R, 0) := by rw [getC, if_pos h]
theorem getC_bad {R : RevP} (h : chkE R.ps R.a R.n R.t ≠ 0) : getC (some R) = (zeroP, chkE R.ps R.a R.n R.t) := by rw [getC, if_neg h]
theorem revL_props {s : List UInt8} {R : RevP} (h : revLRw s = some R) : R.ps.length ≤ s.length ∧ (∀ n ∈ R.ps, n < big) ∧ R.a.length ≤ s.length ∧ R.t.length ≤ s.length ∧ R.n < 1000000000000000 ∧ R.T < big := by
  unfold revLRw at h
  split at h
  · cases h
  · rename_i T r0 hi
    have h0 := idL_len hi
    unfold revL1 at h
    split at h
    · cases h
    · rename_i ps r1 hp
      have h1 := parA_len _ _ _ _ _ hp
      unfold revL2 at h
      split at h
      · cases h
      · rename_i a r2 ha
        have h2 := takeL_len ha
        unfold revL3 at h
        split at h
        · cases h
        · rename_i n r3 hn
          have h3 := numL_len hn
          unfold revL4 at h
          split at h
          · cases h
          · rename_i t ht
            injection h with h
            subst h
            have h4 : t.length ≤ r3.length := by
              unfold textL at ht
              split at ht
              · injection ht with ht; subst ht; rw [List.length_drop]; omega
              · cases ht
            simp only [List.length_nil] at h1
            exact ⟨by show ps.length ≤ s.length; omega, h1.2.2 (by simp), by show a.length ≤ s.length; omega, by show t.length ≤ s.length; omega, h3.2, h0.2⟩
/-- A call that answers what two cells' blocks hold. -/
theorem results_cells {P : Program} {fn : Func} {p q : Tmp} {ty ty2 : TypeId} (h : fn.results = #[.cell p ty, .cell q ty2]) (tmps : Array Value) (w : World) (g g2 : Nat) (t t2 : TypeId) (cs : Array Value) (d : TypeDesc) (k : IntKind) (x : Int)
    (hp : tmps.getD p undef = .pointer (some ⟨g, 0, none⟩)) (hg : Whole w g t cs) (hq : tmps.getD q undef = .pointer (some ⟨g2, 0, none⟩)) (hg2 : Whole w g2 t2 #[.int k x])
    (hu : P.underlying ty = some d) (hd : (match d with | .struct _ | .array _ _ => true | _ => false) = true) (hi : (P.info? ty).map (·.size) = some cs.size) (hl : (loadVar ty2 ⟨g2, 0, none⟩).run P w = .ok (.int k x) w) :
    (results fn tmps).run P w = .ok (.tuple #[.agg cs, .int k x]) w := by
  have hp' : tmps[p]?.getD undef = .pointer (some ⟨g, 0, none⟩) := by simpa using hp
  have hq' : tmps[q]?.getD undef = .pointer (some ⟨g2, 0, none⟩) := by simpa using hq
  have hg' : w.heap[g]? = some (.cells cs t (0, 0)) := hg
  simp [results, h, hp', hq', asAddr, run_loadVar_row w g t ty cs (0, 0) d hg' hu hd hi, hl]
theorem load_errno {w : World} {g : Nat} {x : Int} (h : Whole w g 27 #[.int .i64 x]) : (loadVar 27 ⟨g, 0, none⟩).run Tryz.prog w = .ok (.int .i64 x) w := by
  have hc := h.cell 0
  rw [show (#[Value.int IntKind.i64 x])[0]? = some (Value.int IntKind.i64 x) from rfl] at hc
  go_simp
set_option maxHeartbeats 6400000 in
set_option maxRecDepth 100000 in
theorem VGet_any (A : Option Addr) (c : Nat) (l : List UInt8) (hl : l.length ≤ 100000) (w : World) (h : Lies w A (bytesV l)) :
    Calls Tryz.prog 131 #[.slice A l.length c] w fun e w' => ∃ v, e = .returned (.tuple #[.agg (revC (getR l).1.T v (getR l).1.a (getR l).1.n (getR l).1.t), .int .i64 (getR l).2]) ∧ OwnI w w' v (getR l).1.ps := by
  have hmf : ∀ (fn : Fn) (first cap : Array Value) (w : World), (Instr.makeFunc fn first cap).run Tryz.prog w = .ok (.func fn first cap) w := fun _ _ _ _ => rfl
  obtain ⟨w1, hw1⟩ : ∃ w1, w.alloc (.cells zeroR 188) = w1 := ⟨_, rfl⟩
  obtain ⟨w2, hw2⟩ : ∃ w2, w1.alloc (.cells #[.int .i64 0] 27) = w2 := ⟨_, rfl⟩
  obtain ⟨w3, hw3⟩ : ∃ w3, w2.alloc (.cells #[.string (strB l)] 249) = w3 := ⟨_, rfl⟩
  have hF1 : Fr (fun _ => False) w w1 := by subst hw1; exact (Fr.refl _ w).alloc _
  have hF2 : Fr (fun _ => False) w1 w2 := by subst hw2; exact (Fr.refl _ w1).alloc _
  have hF3 : Fr (fun _ => False) w2 w3 := by subst hw3; exact (Fr.refl _ w2).alloc _
  have hsz1 : w1.heap.size = w.heap.size + 1 := by subst hw1; exact alloc_size _ _
  have hsz2 : w2.heap.size = w.heap.size + 2 := by subst hw2; rw [alloc_size]; omega
  have HSZ : Hid (w3.heap.size = w.heap.size + 3) := Lib.hid (by subst hw3; rw [alloc_size]; omega)
  have hC : Whole w1 w.heap.size 188 zeroR := by subst hw1; exact Whole.new w _ _
  have hE : Whole w2 w1.heap.size 27 #[.int .i64 0] := by subst hw2; exact Whole.new w1 _ _
  have hL : LinesAt w3 w2.heap.size l := by subst hw3; exact Whole.new w2 _ _
  have HC3 := Lib.hid ((hC.fr hF2 (fun e => e)).fr hF3 (fun e => e))
  have HE3 := Lib.hid (hE.fr hF3 (fun e => e))
  have HF := Lib.hid ((hF1.trans hF2 (fun _ _ e => e)).trans hF3 (fun _ _ e => e))
  have HTR := Lib.hid (VtakeRev_any w2.heap.size l hl w3 hL)
  have cv := run_convert_lies 25 9 5 Tryz.underlying25 Tryz.underlying5 Tryz.underlying9 (h.fr (hF1.trans hF2 (fun _ _ e => e)) (fun _ _ e => e)) c
  rw [hsz1] at HE3
  rw [hsz2] at HTR
  rw [getR]
  obtain ⟨S, hS⟩ : ∃ S, strB l = S := ⟨_, rfl⟩
  obtain ⟨n, hn⟩ : ∃ n, l.length = n := ⟨_, rfl⟩
  rw [hS] at cv hw3
  rw [hn] at cv ⊢
  unfold zeroR at hw1
  simp [List.replicate] at hw1
  clear hS hF1 hF2 hF3 hC hE hL h
  cases hG : revLRw l with
  | none =>
    rw [hG] at HTR
    clear hG
    go_enter_defers Tryz.func131, Tryz.ntmps131
    go_wp2_with (go_at_call 150; refine HTR.out.mono ?_; rintro e w4 ⟨rfl, f4⟩)
    refine leaves_cons (f := 149) (args := #[.pointer (some ⟨w.heap.size, 0, none⟩), .pointer (some ⟨w.heap.size + 1, 0, none⟩)]) (by simp) (by simp [go_sem]) ?_
    refine (catch_panicking w.heap.size (w.heap.size + 1) (by omega) 27 _ [] zeroR rfl 0 w4 (HC3.out.fr f4 (fun e => by omega)) (HE3.out.fr f4 (fun e => by omega))).mono ?_
    rintro e u' w5 ⟨rfl, rfl, hc5, he5, f5⟩
    show Leaves _ _ _ _ [] FrameMode.returning _
    refine ⟨.tuple #[.agg zeroR, .int .i64 12], results_cells rfl _ _ _ _ _ _ _ _ _ _ rfl hc5 rfl he5 Tryz.underlying188 rfl size36 (load_errno he5), .slice none 0 0, by rw [zeroR_eq]; rfl, ?_⟩
    exact OwnI.nil ((HF.out.trans f4 (fun i hi e => by omega)).trans f5 (fun i hi e => by rcases e with e | e <;> omega))
  | some R =>
    rw [hG] at HTR
    have hpr := revL_props hG
    clear hG
    have HCK := Lib.hid (fun (A4 : Option Addr) (k4 : Nat) (hk : R.ps.length ≤ k4) (w5 : World) (h5 : Lies w5 A4 (flatI R.ps)) => VCheck_any R.T A4 k4 R.ps R.a R.n R.t hk hpr.2.1 (by omega) (by omega) w5 h5)
    have HG0 := Lib.hid (fun h => getC_ok (R := R) h)
    have HG1 := Lib.hid (fun h => getC_bad (R := R) h)
    have HRS := Lib.hid (fun A4 k4 => revC_size R.T (.slice A4 R.ps.length k4) R.a R.n R.t)
    have HRO := Lib.hid (fun A4 k4 => revC_one R.T (.slice A4 R.ps.length k4) R.a R.n R.t rfl)
    have HBZ := Lib.hid zero_build
    obtain ⟨r, hr⟩ : ∃ r, chkE R.ps R.a R.n R.t = r := ⟨_, rfl⟩
    rw [hr] at HCK HG0 HG1
    clear hr hpr
    by_cases hr0 : r = 0
    · subst hr0
      go_enter_defers Tryz.func131, Tryz.ntmps131
      go_wp2_with (first
        | (go_at_call 150; refine HTR.out.mono ?_; rintro e w4 ⟨v4, rfl, o4, f4⟩
           obtain ⟨A4, k4, hv4, hk4, _⟩ := own_slice o4
           subst hv4
           have L4 := Lib.hid (Lies.of_own32 o4)
           have hrs := HRS.out A4 k4
           have hro := HRO.out A4 k4
           have hck := Lib.hid (HCK.out A4 k4 hk4)
           have C4 := Lib.hid (HC3.out.fr f4 (fun e => by omega))
           have E4 := Lib.hid (HE3.out.fr f4 (fun e => by omega))
           have O4 := Lib.hid o4
           have F4 := Lib.hid (HF.out.trans f4 (fun i hi e => by omega))
           obtain ⟨cr, hcr⟩ : ∃ c, revC R.T (.slice A4 R.ps.length k4) R.a R.n R.t = c := ⟨_, rfl⟩
           rw [hcr] at hrs hro hck
           rw [hcr]
           have HCR := Lib.hid hcr
           clear hcr o4 f4)
        | (refine wpList_store_at rfl 188 _ _ rfl w.heap.size 0 188 zeroR cr rfl rfl C4.out (by rw [hrs]; decide) (by rw [hrs]; exact size36) hro ?_
           intro w5 hw5 hf5
           rw [laidAt_all _ _ (by rw [hrs]; rfl)] at hw5
           have C5 := Lib.hid hw5
           have E5 := Lib.hid (E4.out.fr hf5 (fun e => by omega))
           have O5 := Lib.hid (own_fr O4.out hf5 (fun k hk e => by have := (World.ownsRow.lt O4.out k hk).1; have := HSZ.out; omega))
           have F5 := Lib.hid (F4.out.trans hf5 (fun i hi e => by omega))
           clear hw5 hf5)
        | (refine wpList_load_row rfl 188 _ rfl _ rfl 188 _ _ _ C5.out Tryz.underlying188 rfl (by rw [hrs]; exact size36) ?_)
        | (go_at_call 151; refine (hck.out w5 (Lies.of_own32 O5.out)).mono ?_; rintro e w6 ⟨rfl, b6⟩
           have C6 := Lib.hid (C5.out.fr (Fr.of_below (S := fun _ => False) b6) (fun e => e))
           have E6 := Lib.hid (E5.out.fr (Fr.of_below (S := fun _ => False) b6) (fun e => e))
           have c6 := E6.out.cell 0
           rw [show (#[Value.int IntKind.i64 0])[0]? = some (Value.int IntKind.i64 0) from rfl] at c6
           have z6 := E6.out.frozen 0
           have F6 := Lib.hid (F5.out.then_below b6)
           have O6 := Lib.hid (own_fr O5.out (Fr.of_below (S := fun _ => False) b6) (fun _ _ e => e))
           clear b6))
      obtain ⟨wb, hwb⟩ : ∃ wb, w6.setCell ⟨w.heap.size + 1, 0, none⟩ (.int .i64 0) = wb := ⟨_, rfl⟩
      have f7 : Fr (fun k => k = w.heap.size + 1) w6 wb := by rw [← hwb]; exact Fr.setCell (S := fun k => k = w.heap.size + 1) (p := ⟨w.heap.size + 1, 0, none⟩) (Fr.refl _ w6) (fun _ => rfl) _
      have HSB : Hid (Whole wb.drew w.heap.size 188 cr ∧ Whole wb.drew (w.heap.size + 1) 27 #[.int .i64 0] ∧ Fr (fun k => k = w.heap.size ∨ k = w.heap.size + 1) wb wb.drew) := Lib.hid ⟨C6.out.fr f7.drew (fun e => by omega), by have := E6.out.set 0 (.int .i64 0); rw [hwb] at this; exact this, (Fr.refl _ wb).drew⟩
      have FB := Lib.hid (F6.out.trans f7 (fun i hi e => by omega))
      have OB := Lib.hid (own_fr O6.out f7 (fun k hk e => by have := (World.ownsRow.lt O6.out k hk).1; have := HSZ.out; omega))
      rw [hwb]
      have hfs := hrs
      have hfo := hro
      clear hwb f7
      have HEND : Hid (∀ w9, Whole w9 w.heap.size 188 cr ∧ Whole w9 (w.heap.size + 1) 27 #[.int .i64 0] ∧ Fr (fun k => k = w.heap.size ∨ k = w.heap.size + 1) wb w9 → ∃ v, (Ending.returned (.tuple #[.agg cr, .int .i64 0]) : Ending) = Ending.returned (.tuple #[.agg (revC (getC (some R)).1.T v (getC (some R)).1.a (getC (some R)).1.n (getC (some R)).1.t), .int .i64 (getC (some R)).2]) ∧ OwnI w w9 v (getC (some R)).1.ps) := Lib.hid (fun w9 hS => by
        rw [HG0.out (by first | rfl | trivial)]
        refine ⟨_, by rw [← HCR.out], ?_, FB.out.trans hS.2.2 (fun i hi e => by rcases e with e | e <;> omega)⟩
        have o9 := own_fr OB.out hS.2.2 (fun k hk e => by have := (World.ownsRow.lt OB.out k hk).1; have := HSZ.out; rcases e with e | e <;> omega)
        refine ⟨o9.1, ?_⟩
        rcases o9.2 with h0 | ⟨gg, cap, cur, hv, hb, rr⟩
        · exact .inl h0
        · exact .inr ⟨gg, cap, cur, hv, by have := HSZ.out; omega, rr⟩)
      (
        refine wp_region_held (S := fun w' => Whole w' w.heap.size 188 cr ∧ Whole w' (w.heap.size + 1) 27 #[.int .i64 0] ∧ Fr (fun k => k = w.heap.size ∨ k = w.heap.size + 1) wb w') (by kernel_rfl) ?_
        (
          refine wpAnyH_all (rs := [0, 1]) (by kernel_rfl) (by simp) ?_
          intro i hi
          simp only [List.mem_cons, List.not_mem_nil, or_false] at hi
          rcases hi with hi | hi <;> subst hi)
        · (
          refine wpOp_step rfl (fun K hK => ?_)
          rw [if_pos (by kernel_rfl)]
          refine wp_load_row 188 (.tmp 2) rfl w.heap.size (by kernel_rfl) 188 cr _ _ HSB.out.1 Tryz.underlying188 rfl (by rw [hfs]; exact size36) ?_
          refine hK _ _ ⟨HSB.out, ?_⟩
          clear hK K)
          (
            refine wpAnyH_all (rs := [1, 2]) (by kernel_rfl) (by simp) ?_
            intro i hi
            simp only [List.mem_cons, List.not_mem_nil, or_false] at hi
            rcases hi with hi | hi <;> subst hi)
          · (
            refine wpOp_step rfl (fun K hK => ?_)
            have cz := HSB.out.2.1.cell 0
            rw [show (#[Value.int IntKind.i64 0])[0]? = some (Value.int IntKind.i64 0) from rfl] at cz
            go_simp
            refine hK _ _ ⟨HSB.out, ?_⟩
            clear hK K cz)
            (
              refine wpAnyH_all (rs := [2]) (by kernel_rfl) (by simp) ?_
              intro i hi
              simp only [List.mem_cons, List.not_mem_nil, or_false] at hi
              subst hi)
            (
              refine wpOp_step rfl (fun K hK => ?_)
              rw [if_pos (by kernel_rfl)]
              refine wp_store_at 188 (.tmp 2) (.tmp 15) rfl w.heap.size 0 188 cr cr (by kernel_rfl) (by kernel_rfl) HSB.out.1 (by omega) (by rw [hfs]; exact size36) hfo ?_
              intro w7 hw7 hf7
              rw [laidAt_all _ _ rfl] at hw7
              have HS7 := Lib.hid (show Whole w7 w.heap.size 188 cr ∧ Whole w7 (w.heap.size + 1) 27 #[.int .i64 0] ∧ Fr (fun k => k = w.heap.size ∨ k = w.heap.size + 1) wb w7 from ⟨hw7, HSB.out.2.1.fr hf7 (fun e => by omega), HSB.out.2.2.trans hf7 (fun _ _ e => .inl e)⟩)
              clear hf7 hw7
              go_simp
              refine hK _ _ ⟨HS7.out, ?_⟩
              clear hK K)
            (
              refine wpAnyH_all (rs := [3]) (by kernel_rfl) (by simp) ?_
              intro i hi
              simp only [List.mem_cons, List.not_mem_nil, or_false] at hi
              subst hi)
            (
              refine wpOp_step rfl (fun K hK => ?_)
              have c7 := HS7.out.2.1.cell 0
              rw [show (#[Value.int IntKind.i64 0])[0]? = some (Value.int IntKind.i64 0) from rfl] at c7
              have z7 := HS7.out.2.1.frozen 0
              have f8 : Fr (fun k => k = w.heap.size + 1) w7 (w7.setCell ⟨w.heap.size + 1, 0, none⟩ (.int .i64 0)) := Fr.setCell (S := fun k => k = w.heap.size + 1) (p := ⟨w.heap.size + 1, 0, none⟩) (Fr.refl _ w7) (fun _ => rfl) _
              have HS8 := Lib.hid (show Whole (w7.setCell ⟨w.heap.size + 1, 0, none⟩ (.int .i64 0)) w.heap.size 188 cr ∧ Whole (w7.setCell ⟨w.heap.size + 1, 0, none⟩ (.int .i64 0)) (w.heap.size + 1) 27 #[.int .i64 0] ∧ Fr (fun k => k = w.heap.size ∨ k = w.heap.size + 1) wb (w7.setCell ⟨w.heap.size + 1, 0, none⟩ (.int .i64 0)) from ⟨HS7.out.1.fr f8 (fun e => by omega), HS7.out.2.1.set 0 (.int .i64 0), HS7.out.2.2.trans f8 (fun _ _ e => .inr e)⟩)
              clear f8
              go_simp
              refine hK _ _ ⟨HS8.out, ?_⟩
              clear hK K
              refine wpAnyH_done (by kernel_rfl) ?_ _
              go_wp2_with fail
              refine leaves_cons (f := 149) (args := #[.pointer (some ⟨w.heap.size, 0, none⟩), .pointer (some ⟨w.heap.size + 1, 0, none⟩)]) (by simp) (by simp [go_sem]) ?_
              refine (catch_idle ⟨w.heap.size, 0, none⟩ ⟨w.heap.size + 1, 0, none⟩ _).mono ?_
              rintro e u' w9 ⟨rfl, rfl, rfl⟩
              show Leaves _ _ _ _ [] FrameMode.returning _)
            exact ⟨_, results_cells rfl _ _ _ _ _ _ _ _ _ _ rfl HS8.out.1 rfl HS8.out.2.1 Tryz.underlying188 rfl (by rw [hfs]; exact size36) (load_errno HS8.out.2.1), HEND.out _ HS8.out⟩
          · (
            refine wpOp_step rfl (fun K hK => ?_)
            rw [if_pos (by kernel_rfl)]
            refine wp_store_at 188 (.tmp 2) (.tmp 15) rfl w.heap.size 0 188 cr cr (by kernel_rfl) (by kernel_rfl) HSB.out.1 (by omega) (by rw [hfs]; exact size36) hfo ?_
            intro w7 hw7 hf7
            rw [laidAt_all _ _ rfl] at hw7
            have HS7 := Lib.hid (show Whole w7 w.heap.size 188 cr ∧ Whole w7 (w.heap.size + 1) 27 #[.int .i64 0] ∧ Fr (fun k => k = w.heap.size ∨ k = w.heap.size + 1) wb w7 from ⟨hw7, HSB.out.2.1.fr hf7 (fun e => by omega), HSB.out.2.2.trans hf7 (fun _ _ e => .inl e)⟩)
            clear hf7 hw7
            go_simp
            refine hK _ _ ⟨HS7.out, ?_⟩
            clear hK K)
            (
              refine wpAnyH_all (rs := [1]) (by kernel_rfl) (by simp) ?_
              intro i hi
              simp only [List.mem_cons, List.not_mem_nil, or_false] at hi
              subst hi)
            (
              refine wpOp_step rfl (fun K hK => ?_)
              have cz := HS7.out.2.1.cell 0
              rw [show (#[Value.int IntKind.i64 0])[0]? = some (Value.int IntKind.i64 0) from rfl] at cz
              go_simp
              refine hK _ _ ⟨HS7.out, ?_⟩
              clear hK K cz)
            (
              refine wpAnyH_all (rs := [3]) (by kernel_rfl) (by simp) ?_
              intro i hi
              simp only [List.mem_cons, List.not_mem_nil, or_false] at hi
              subst hi)
            (
              refine wpOp_step rfl (fun K hK => ?_)
              have c7 := HS7.out.2.1.cell 0
              rw [show (#[Value.int IntKind.i64 0])[0]? = some (Value.int IntKind.i64 0) from rfl] at c7
              have z7 := HS7.out.2.1.frozen 0
              have f8 : Fr (fun k => k = w.heap.size + 1) w7 (w7.setCell ⟨w.heap.size + 1, 0, none⟩ (.int .i64 0)) := Fr.setCell (S := fun k => k = w.heap.size + 1) (p := ⟨w.heap.size + 1, 0, none⟩) (Fr.refl _ w7) (fun _ => rfl) _
              have HS8 := Lib.hid (show Whole (w7.setCell ⟨w.heap.size + 1, 0, none⟩ (.int .i64 0)) w.heap.size 188 cr ∧ Whole (w7.setCell ⟨w.heap.size + 1, 0, none⟩ (.int .i64 0)) (w.heap.size + 1) 27 #[.int .i64 0] ∧ Fr (fun k => k = w.heap.size ∨ k = w.heap.size + 1) wb (w7.setCell ⟨w.heap.size + 1, 0, none⟩ (.int .i64 0)) from ⟨HS7.out.1.fr f8 (fun e => by omega), HS7.out.2.1.set 0 (.int .i64 0), HS7.out.2.2.trans f8 (fun _ _ e => .inr e)⟩)
              clear f8
              go_simp
              refine hK _ _ ⟨HS8.out, ?_⟩
              clear hK K
              refine wpAnyH_done (by kernel_rfl) ?_ _
              go_wp2_with fail
              refine leaves_cons (f := 149) (args := #[.pointer (some ⟨w.heap.size, 0, none⟩), .pointer (some ⟨w.heap.size + 1, 0, none⟩)]) (by simp) (by simp [go_sem]) ?_
              refine (catch_idle ⟨w.heap.size, 0, none⟩ ⟨w.heap.size + 1, 0, none⟩ _).mono ?_
              rintro e u' w9 ⟨rfl, rfl, rfl⟩
              show Leaves _ _ _ _ [] FrameMode.returning _)
            exact ⟨_, results_cells rfl _ _ _ _ _ _ _ _ _ _ rfl HS8.out.1 rfl HS8.out.2.1 Tryz.underlying188 rfl (by rw [hfs]; exact size36) (load_errno HS8.out.2.1), HEND.out _ HS8.out⟩
        · (
          refine wpOp_step rfl (fun K hK => ?_)
          have cz := HSB.out.2.1.cell 0
          rw [show (#[Value.int IntKind.i64 0])[0]? = some (Value.int IntKind.i64 0) from rfl] at cz
          go_simp
          refine hK _ _ ⟨HSB.out, ?_⟩
          clear hK K cz)
          (
            refine wpAnyH_all (rs := [0]) (by kernel_rfl) (by simp) ?_
            intro i hi
            simp only [List.mem_cons, List.not_mem_nil, or_false] at hi
            subst hi)
          (
            refine wpOp_step rfl (fun K hK => ?_)
            rw [if_pos (by kernel_rfl)]
            refine wp_load_row 188 (.tmp 2) rfl w.heap.size (by kernel_rfl) 188 cr _ _ HSB.out.1 Tryz.underlying188 rfl (by rw [hfs]; exact size36) ?_
            refine hK _ _ ⟨HSB.out, ?_⟩
            clear hK K)
          (
            refine wpAnyH_all (rs := [2]) (by kernel_rfl) (by simp) ?_
            intro i hi
            simp only [List.mem_cons, List.not_mem_nil, or_false] at hi
            subst hi)
          (
            refine wpOp_step rfl (fun K hK => ?_)
            rw [if_pos (by kernel_rfl)]
            refine wp_store_at 188 (.tmp 2) (.tmp 15) rfl w.heap.size 0 188 cr cr (by kernel_rfl) (by kernel_rfl) HSB.out.1 (by omega) (by rw [hfs]; exact size36) hfo ?_
            intro w7 hw7 hf7
            rw [laidAt_all _ _ rfl] at hw7
            have HS7 := Lib.hid (show Whole w7 w.heap.size 188 cr ∧ Whole w7 (w.heap.size + 1) 27 #[.int .i64 0] ∧ Fr (fun k => k = w.heap.size ∨ k = w.heap.size + 1) wb w7 from ⟨hw7, HSB.out.2.1.fr hf7 (fun e => by omega), HSB.out.2.2.trans hf7 (fun _ _ e => .inl e)⟩)
            clear hf7 hw7
            go_simp
            refine hK _ _ ⟨HS7.out, ?_⟩
            clear hK K)
          (
            refine wpAnyH_all (rs := [3]) (by kernel_rfl) (by simp) ?_
            intro i hi
            simp only [List.mem_cons, List.not_mem_nil, or_false] at hi
            subst hi)
          (
            refine wpOp_step rfl (fun K hK => ?_)
            have c7 := HS7.out.2.1.cell 0
            rw [show (#[Value.int IntKind.i64 0])[0]? = some (Value.int IntKind.i64 0) from rfl] at c7
            have z7 := HS7.out.2.1.frozen 0
            have f8 : Fr (fun k => k = w.heap.size + 1) w7 (w7.setCell ⟨w.heap.size + 1, 0, none⟩ (.int .i64 0)) := Fr.setCell (S := fun k => k = w.heap.size + 1) (p := ⟨w.heap.size + 1, 0, none⟩) (Fr.refl _ w7) (fun _ => rfl) _
            have HS8 := Lib.hid (show Whole (w7.setCell ⟨w.heap.size + 1, 0, none⟩ (.int .i64 0)) w.heap.size 188 cr ∧ Whole (w7.setCell ⟨w.heap.size + 1, 0, none⟩ (.int .i64 0)) (w.heap.size + 1) 27 #[.int .i64 0] ∧ Fr (fun k => k = w.heap.size ∨ k = w.heap.size + 1) wb (w7.setCell ⟨w.heap.size + 1, 0, none⟩ (.int .i64 0)) from ⟨HS7.out.1.fr f8 (fun e => by omega), HS7.out.2.1.set 0 (.int .i64 0), HS7.out.2.2.trans f8 (fun _ _ e => .inr e)⟩)
            clear f8
            go_simp
            refine hK _ _ ⟨HS8.out, ?_⟩
            clear hK K
            refine wpAnyH_done (by kernel_rfl) ?_ _
            go_wp2_with fail
            refine leaves_cons (f := 149) (args := #[.pointer (some ⟨w.heap.size, 0, none⟩), .pointer (some ⟨w.heap.size + 1, 0, none⟩)]) (by simp) (by simp [go_sem]) ?_
            refine (catch_idle ⟨w.heap.size, 0, none⟩ ⟨w.heap.size + 1, 0, none⟩ _).mono ?_
            rintro e u' w9 ⟨rfl, rfl, rfl⟩
            show Leaves _ _ _ _ [] FrameMode.returning _)
          exact ⟨_, results_cells rfl _ _ _ _ _ _ _ _ _ _ rfl HS8.out.1 rfl HS8.out.2.1 Tryz.underlying188 rfl (by rw [hfs]; exact size36) (load_errno HS8.out.2.1), HEND.out _ HS8.out⟩)
    · have hrz : (r == 0) = false := by simp [hr0]
      have HBad := Lib.hid (HG1.out hr0)
      go_enter_defers Tryz.func131, Tryz.ntmps131
      go_wp2_with (first
        | (go_at_call 150; refine HTR.out.mono ?_; rintro e w4 ⟨v4, rfl, o4, f4⟩
           obtain ⟨A4, k4, hv4, hk4, _⟩ := own_slice o4
           subst hv4
           have hrs := HRS.out A4 k4
           have hro := HRO.out A4 k4
           have hck := Lib.hid (HCK.out A4 k4 hk4)
           have C4 := Lib.hid (HC3.out.fr f4 (fun e => by omega))
           have E4 := Lib.hid (HE3.out.fr f4 (fun e => by omega))
           have O4 := Lib.hid o4
           have F4 := Lib.hid (HF.out.trans f4 (fun i hi e => by omega))
           obtain ⟨cr, hcr⟩ : ∃ c, revC R.T (.slice A4 R.ps.length k4) R.a R.n R.t = c := ⟨_, rfl⟩
           rw [hcr] at hrs hro hck
           rw [hcr]
           clear hcr o4 f4)
        | (refine wpList_build_to rfl 188 _ rfl #[] (by first | rfl | simp [Act.eval]) (.agg zeroR) (HBZ.out _) ?_)
        | (have _ := M7
           refine wpList_store_at rfl 188 _ _ rfl w.heap.size 0 188 cr zeroR rfl rfl K7.out.1 (by rw [hrs]; decide) size36 zeroR_one ?_
           intro w8 hw8 hf8
           rw [laidAt_all _ _ (by rw [hrs]; rfl)] at hw8
           have K8 := Lib.hid (show Whole w8 w.heap.size 188 zeroR ∧ Whole w8 (w.heap.size + 1) 27 #[.int .i64 r] ∧ Fr (fun _ => False) w w8 from ⟨hw8, K7.out.2.1.fr hf8 (fun e => by omega), K7.out.2.2.trans hf8 (fun i hi e => by omega)⟩)
           clear hw8 hf8)
        | (refine wpList_store_at rfl 188 _ _ rfl w.heap.size 0 188 zeroR cr rfl rfl C4.out (by rw [hrs]; decide) (by rw [hrs]; exact size36) hro ?_
           intro w5 hw5 hf5
           rw [laidAt_all _ _ (by rw [hrs]; rfl)] at hw5
           have C5 := Lib.hid hw5
           have E5 := Lib.hid (E4.out.fr hf5 (fun e => by omega))
           have O5 := Lib.hid (own_fr O4.out hf5 (fun k hk e => by have := (World.ownsRow.lt O4.out k hk).1; have := HSZ.out; omega))
           have F5 := Lib.hid (F4.out.trans hf5 (fun i hi e => by omega))
           clear hw5 hf5)
        | (refine wpList_load_row rfl 188 _ rfl _ rfl 188 _ _ _ C5.out Tryz.underlying188 rfl (by rw [hrs]; exact size36) ?_)
        | (go_at_call 151; refine (hck.out w5 (Lies.of_own32 O5.out)).mono ?_; rintro e w6 ⟨rfl, b6⟩
           have C6 := Lib.hid (C5.out.fr (Fr.of_below (S := fun _ => False) b6) (fun e => e))
           have E6 := Lib.hid (E5.out.fr (Fr.of_below (S := fun _ => False) b6) (fun e => e))
           have c6 := E6.out.cell 0
           rw [show (#[Value.int IntKind.i64 0])[0]? = some (Value.int IntKind.i64 0) from rfl] at c6
           have z6 := E6.out.frozen 0
           have f7 : Fr (fun k => k = w.heap.size + 1) w6 (w6.setCell ⟨w.heap.size + 1, 0, none⟩ (.int .i64 r)) := Fr.setCell (S := fun k => k = w.heap.size + 1) (p := ⟨w.heap.size + 1, 0, none⟩) (Fr.refl _ w6) (fun _ => rfl) _
           have K7 := Lib.hid (show Whole (w6.setCell ⟨w.heap.size + 1, 0, none⟩ (.int .i64 r)) w.heap.size 188 cr ∧ Whole (w6.setCell ⟨w.heap.size + 1, 0, none⟩ (.int .i64 r)) (w.heap.size + 1) 27 #[.int .i64 r] ∧ Fr (fun _ => False) w (w6.setCell ⟨w.heap.size + 1, 0, none⟩ (.int .i64 r)) from ⟨C6.out.fr f7 (fun e => by omega), E6.out.set 0 (.int .i64 r), (F5.out.then_below b6).trans f7 (fun i hi e => by omega)⟩)
           have M7 := True.intro
           clear b6 f7))
      have HSB : Hid (Whole w8.drew w.heap.size 188 zeroR ∧ Whole w8.drew (w.heap.size + 1) 27 #[.int .i64 r] ∧ Fr (fun k => k = w.heap.size ∨ k = w.heap.size + 1) w8 w8.drew) := Lib.hid ⟨K8.out.1, K8.out.2.1, (Fr.refl _ w8).drew⟩
      obtain ⟨wb, hwb⟩ : ∃ wb, w8 = wb := ⟨_, rfl⟩
      rw [hwb] at HSB K8 ⊢
      have hfs := zeroR_size
      have hfo := zeroR_one
      clear hwb
      have HEND : Hid (∀ w9, Whole w9 w.heap.size 188 zeroR ∧ Whole w9 (w.heap.size + 1) 27 #[.int .i64 r] ∧ Fr (fun k => k = w.heap.size ∨ k = w.heap.size + 1) wb w9 → ∃ v, (Ending.returned (.tuple #[.agg zeroR, .int .i64 r]) : Ending) = Ending.returned (.tuple #[.agg (revC (getC (some R)).1.T v (getC (some R)).1.a (getC (some R)).1.n (getC (some R)).1.t), .int .i64 (getC (some R)).2]) ∧ OwnI w w9 v (getC (some R)).1.ps) := Lib.hid (fun w9 hS => by
        rw [HBad.out]
        exact ⟨.slice none 0 0, by rw [zeroR_eq]; rfl, OwnI.nil (K8.out.2.2.trans hS.2.2 (fun i hi e => by rcases e with e | e <;> omega))⟩)
      (
        refine wp_region_held (S := fun w' => Whole w' w.heap.size 188 zeroR ∧ Whole w' (w.heap.size + 1) 27 #[.int .i64 r] ∧ Fr (fun k => k = w.heap.size ∨ k = w.heap.size + 1) wb w') (by kernel_rfl) ?_
        (
          refine wpAnyH_all (rs := [0, 1]) (by kernel_rfl) (by simp) ?_
          intro i hi
          simp only [List.mem_cons, List.not_mem_nil, or_false] at hi
          rcases hi with hi | hi <;> subst hi)
        · (
          refine wpOp_step rfl (fun K hK => ?_)
          rw [if_pos (by kernel_rfl)]
          refine wp_load_row 188 (.tmp 2) rfl w.heap.size (by kernel_rfl) 188 zeroR _ _ HSB.out.1 Tryz.underlying188 rfl (by rw [hfs]; exact size36) ?_
          refine hK _ _ ⟨HSB.out, ?_⟩
          clear hK K)
          (
            refine wpAnyH_all (rs := [1, 2]) (by kernel_rfl) (by simp) ?_
            intro i hi
            simp only [List.mem_cons, List.not_mem_nil, or_false] at hi
            rcases hi with hi | hi <;> subst hi)
          · (
            refine wpOp_step rfl (fun K hK => ?_)
            have cz := HSB.out.2.1.cell 0
            rw [show (#[Value.int IntKind.i64 r])[0]? = some (Value.int IntKind.i64 r) from rfl] at cz
            go_simp
            refine hK _ _ ⟨HSB.out, ?_⟩
            clear hK K cz)
            (
              refine wpAnyH_all (rs := [2]) (by kernel_rfl) (by simp) ?_
              intro i hi
              simp only [List.mem_cons, List.not_mem_nil, or_false] at hi
              subst hi)
            (
              refine wpOp_step rfl (fun K hK => ?_)
              rw [if_pos (by kernel_rfl)]
              refine wp_store_at 188 (.tmp 2) (.tmp 15) rfl w.heap.size 0 188 zeroR zeroR (by kernel_rfl) (by kernel_rfl) HSB.out.1 (by omega) (by rw [hfs]; exact size36) hfo ?_
              intro w7 hw7 hf7
              rw [laidAt_all _ _ rfl] at hw7
              have HS7 := Lib.hid (show Whole w7 w.heap.size 188 zeroR ∧ Whole w7 (w.heap.size + 1) 27 #[.int .i64 r] ∧ Fr (fun k => k = w.heap.size ∨ k = w.heap.size + 1) wb w7 from ⟨hw7, HSB.out.2.1.fr hf7 (fun e => by omega), HSB.out.2.2.trans hf7 (fun _ _ e => .inl e)⟩)
              clear hf7 hw7
              go_simp
              refine hK _ _ ⟨HS7.out, ?_⟩
              clear hK K)
            (
              refine wpAnyH_all (rs := [3]) (by kernel_rfl) (by simp) ?_
              intro i hi
              simp only [List.mem_cons, List.not_mem_nil, or_false] at hi
              subst hi)
            (
              refine wpOp_step rfl (fun K hK => ?_)
              have c7 := HS7.out.2.1.cell 0
              rw [show (#[Value.int IntKind.i64 r])[0]? = some (Value.int IntKind.i64 r) from rfl] at c7
              have z7 := HS7.out.2.1.frozen 0
              have f8 : Fr (fun k => k = w.heap.size + 1) w7 (w7.setCell ⟨w.heap.size + 1, 0, none⟩ (.int .i64 r)) := Fr.setCell (S := fun k => k = w.heap.size + 1) (p := ⟨w.heap.size + 1, 0, none⟩) (Fr.refl _ w7) (fun _ => rfl) _
              have HS8 := Lib.hid (show Whole (w7.setCell ⟨w.heap.size + 1, 0, none⟩ (.int .i64 r)) w.heap.size 188 zeroR ∧ Whole (w7.setCell ⟨w.heap.size + 1, 0, none⟩ (.int .i64 r)) (w.heap.size + 1) 27 #[.int .i64 r] ∧ Fr (fun k => k = w.heap.size ∨ k = w.heap.size + 1) wb (w7.setCell ⟨w.heap.size + 1, 0, none⟩ (.int .i64 r)) from ⟨HS7.out.1.fr f8 (fun e => by omega), HS7.out.2.1.set 0 (.int .i64 r), HS7.out.2.2.trans f8 (fun _ _ e => .inr e)⟩)
              clear f8
              go_simp
              refine hK _ _ ⟨HS8.out, ?_⟩
              clear hK K
              refine wpAnyH_done (by kernel_rfl) ?_ _
              go_wp2_with fail
              refine leaves_cons (f := 149) (args := #[.pointer (some ⟨w.heap.size, 0, none⟩), .pointer (some ⟨w.heap.size + 1, 0, none⟩)]) (by simp) (by simp [go_sem]) ?_
              refine (catch_idle ⟨w.heap.size, 0, none⟩ ⟨w.heap.size + 1, 0, none⟩ _).mono ?_
              rintro e u' w9 ⟨rfl, rfl, rfl⟩
              show Leaves _ _ _ _ [] FrameMode.returning _)
            exact ⟨_, results_cells rfl _ _ _ _ _ _ _ _ _ _ rfl HS8.out.1 rfl HS8.out.2.1 Tryz.underlying188 rfl (by rw [hfs]; exact size36) (load_errno HS8.out.2.1), HEND.out _ HS8.out⟩
          · (
            refine wpOp_step rfl (fun K hK => ?_)
            rw [if_pos (by kernel_rfl)]
            refine wp_store_at 188 (.tmp 2) (.tmp 15) rfl w.heap.size 0 188 zeroR zeroR (by kernel_rfl) (by kernel_rfl) HSB.out.1 (by omega) (by rw [hfs]; exact size36) hfo ?_
            intro w7 hw7 hf7
            rw [laidAt_all _ _ rfl] at hw7
            have HS7 := Lib.hid (show Whole w7 w.heap.size 188 zeroR ∧ Whole w7 (w.heap.size + 1) 27 #[.int .i64 r] ∧ Fr (fun k => k = w.heap.size ∨ k = w.heap.size + 1) wb w7 from ⟨hw7, HSB.out.2.1.fr hf7 (fun e => by omega), HSB.out.2.2.trans hf7 (fun _ _ e => .inl e)⟩)
            clear hf7 hw7
            go_simp
            refine hK _ _ ⟨HS7.out, ?_⟩
            clear hK K)
            (
              refine wpAnyH_all (rs := [1]) (by kernel_rfl) (by simp) ?_
              intro i hi
              simp only [List.mem_cons, List.not_mem_nil, or_false] at hi
              subst hi)
            (
              refine wpOp_step rfl (fun K hK => ?_)
              have cz := HS7.out.2.1.cell 0
              rw [show (#[Value.int IntKind.i64 r])[0]? = some (Value.int IntKind.i64 r) from rfl] at cz
              go_simp
              refine hK _ _ ⟨HS7.out, ?_⟩
              clear hK K cz)
            (
              refine wpAnyH_all (rs := [3]) (by kernel_rfl) (by simp) ?_
              intro i hi
              simp only [List.mem_cons, List.not_mem_nil, or_false] at hi
              subst hi)
            (
              refine wpOp_step rfl (fun K hK => ?_)
              have c7 := HS7.out.2.1.cell 0
              rw [show (#[Value.int IntKind.i64 r])[0]? = some (Value.int IntKind.i64 r) from rfl] at c7
              have z7 := HS7.out.2.1.frozen 0
              have f8 : Fr (fun k => k = w.heap.size + 1) w7 (w7.setCell ⟨w.heap.size + 1, 0, none⟩ (.int .i64 r)) := Fr.setCell (S := fun k => k = w.heap.size + 1) (p := ⟨w.heap.size + 1, 0, none⟩) (Fr.refl _ w7) (fun _ => rfl) _
              have HS8 := Lib.hid (show Whole (w7.setCell ⟨w.heap.size + 1, 0, none⟩ (.int .i64 r)) w.heap.size 188 zeroR ∧ Whole (w7.setCell ⟨w.heap.size + 1, 0, none⟩ (.int .i64 r)) (w.heap.size + 1) 27 #[.int .i64 r] ∧ Fr (fun k => k = w.heap.size ∨ k = w.heap.size + 1) wb (w7.setCell ⟨w.heap.size + 1, 0, none⟩ (.int .i64 r)) from ⟨HS7.out.1.fr f8 (fun e => by omega), HS7.out.2.1.set 0 (.int .i64 r), HS7.out.2.2.trans f8 (fun _ _ e => .inr e)⟩)
              clear f8
              go_simp
              refine hK _ _ ⟨HS8.out, ?_⟩
              clear hK K
              refine wpAnyH_done (by kernel_rfl) ?_ _
              go_wp2_with fail
              refine leaves_cons (f := 149) (args := #[.pointer (some ⟨w.heap.size, 0, none⟩), .pointer (some ⟨w.heap.size + 1, 0, none⟩)]) (by simp) (by simp [go_sem]) ?_
              refine (catch_idle ⟨w.heap.size, 0, none⟩ ⟨w.heap.size + 1, 0, none⟩ _).mono ?_
              rintro e u' w9 ⟨rfl, rfl, rfl⟩
              show Leaves _ _ _ _ [] FrameMode.returning _)
            exact ⟨_, results_cells rfl _ _ _ _ _ _ _ _ _ _ rfl HS8.out.1 rfl HS8.out.2.1 Tryz.underlying188 rfl (by rw [hfs]; exact size36) (load_errno HS8.out.2.1), HEND.out _ HS8.out⟩
        · (
          refine wpOp_step rfl (fun K hK => ?_)
          have cz := HSB.out.2.1.cell 0
          rw [show (#[Value.int IntKind.i64 r])[0]? = some (Value.int IntKind.i64 r) from rfl] at cz
          go_simp
          refine hK _ _ ⟨HSB.out, ?_⟩
          clear hK K cz)
          (
            refine wpAnyH_all (rs := [0]) (by kernel_rfl) (by simp) ?_
            intro i hi
            simp only [List.mem_cons, List.not_mem_nil, or_false] at hi
            subst hi)
          (
            refine wpOp_step rfl (fun K hK => ?_)
            rw [if_pos (by kernel_rfl)]
            refine wp_load_row 188 (.tmp 2) rfl w.heap.size (by kernel_rfl) 188 zeroR _ _ HSB.out.1 Tryz.underlying188 rfl (by rw [hfs]; exact size36) ?_
            refine hK _ _ ⟨HSB.out, ?_⟩
            clear hK K)
          (
            refine wpAnyH_all (rs := [2]) (by kernel_rfl) (by simp) ?_
            intro i hi
            simp only [List.mem_cons, List.not_mem_nil, or_false] at hi
            subst hi)
          (
            refine wpOp_step rfl (fun K hK => ?_)
            rw [if_pos (by kernel_rfl)]
            refine wp_store_at 188 (.tmp 2) (.tmp 15) rfl w.heap.size 0 188 zeroR zeroR (by kernel_rfl) (by kernel_rfl) HSB.out.1 (by omega) (by rw [hfs]; exact size36) hfo ?_
            intro w7 hw7 hf7
            rw [laidAt_all _ _ rfl] at hw7
            have HS7 := Lib.hid (show Whole w7 w.heap.size 188 zeroR ∧ Whole w7 (w.heap.size + 1) 27 #[.int .i64 r] ∧ Fr (fun k => k = w.heap.size ∨ k = w.heap.size + 1) wb w7 from ⟨hw7, HSB.out.2.1.fr hf7 (fun e => by omega), HSB.out.2.2.trans hf7 (fun _ _ e => .inl e)⟩)
            clear hf7 hw7
            go_simp
            refine hK _ _ ⟨HS7.out, ?_⟩
            clear hK K)
          (
            refine wpAnyH_all (rs := [3]) (by kernel_rfl) (by simp) ?_
            intro i hi
            simp only [List.mem_cons, List.not_mem_nil, or_false] at hi
            subst hi)
          (
            refine wpOp_step rfl (fun K hK => ?_)
            have c7 := HS7.out.2.1.cell 0
            rw [show (#[Value.int IntKind.i64 r])[0]? = some (Value.int IntKind.i64 r) from rfl] at c7
            have z7 := HS7.out.2.1.frozen 0
            have f8 : Fr (fun k => k = w.heap.size + 1) w7 (w7.setCell ⟨w.heap.size + 1, 0, none⟩ (.int .i64 r)) := Fr.setCell (S := fun k => k = w.heap.size + 1) (p := ⟨w.heap.size + 1, 0, none⟩) (Fr.refl _ w7) (fun _ => rfl) _
            have HS8 := Lib.hid (show Whole (w7.setCell ⟨w.heap.size + 1, 0, none⟩ (.int .i64 r)) w.heap.size 188 zeroR ∧ Whole (w7.setCell ⟨w.heap.size + 1, 0, none⟩ (.int .i64 r)) (w.heap.size + 1) 27 #[.int .i64 r] ∧ Fr (fun k => k = w.heap.size ∨ k = w.heap.size + 1) wb (w7.setCell ⟨w.heap.size + 1, 0, none⟩ (.int .i64 r)) from ⟨HS7.out.1.fr f8 (fun e => by omega), HS7.out.2.1.set 0 (.int .i64 r), HS7.out.2.2.trans f8 (fun _ _ e => .inr e)⟩)
            clear f8
            go_simp
            refine hK _ _ ⟨HS8.out, ?_⟩
            clear hK K
            refine wpAnyH_done (by kernel_rfl) ?_ _
            go_wp2_with fail
            refine leaves_cons (f := 149) (args := #[.pointer (some ⟨w.heap.size, 0, none⟩), .pointer (some ⟨w.heap.size + 1, 0, none⟩)]) (by simp) (by simp [go_sem]) ?_
            refine (catch_idle ⟨w.heap.size, 0, none⟩ ⟨w.heap.size + 1, 0, none⟩ _).mono ?_
            rintro e u' w9 ⟨rfl, rfl, rfl⟩
            show Leaves _ _ _ _ [] FrameMode.returning _)
          exact ⟨_, results_cells rfl _ _ _ _ _ _ _ _ _ _ rfl HS8.out.1 rfl HS8.out.2.1 Tryz.underlying188 rfl (by rw [hfs]; exact size36) (load_errno HS8.out.2.1), HEND.out _ HS8.out⟩)
end Go.Proofs.YtkaeoflgnnlbeaaGreatDoor

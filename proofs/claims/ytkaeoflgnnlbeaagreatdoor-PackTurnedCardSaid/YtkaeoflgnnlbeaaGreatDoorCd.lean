/- What is proved: what the walks of this seat need of layers below, merged out of the texts Rxa Rxb Rxc Rxd Rxe Rxf (of each just what is needed). Conditions: each theorem names its own. -/
import Derived.Test.YtkaeoflgnnlbeaaGreatDoorCb
import Derived.Test.YtkaeoflgnnlbeaaGreatDoorCc
/- What is proved: a tag's cells, and whether a tag may be, by the program. Conditions: nothing is too long for any machine. -/
namespace Go.Proofs.YtkaeoflgnnlbeaaGreatDoor
open Go.RowKit Go.Sort Go.Shelf
open Ids (idC dgt big idC_size idC_get idC_one cellD zero32 size32 dgt_lt eq_nums)
set_option linter.unusedVariables false
/-- A tag's cells. -/
def markC (T : Nat) (k : Int) (a : List UInt8) (n : Int) (t : List UInt8) : Array Value := idC (dgt T) ++ #[.int .i64 k, .string (strB a), .int .i64 n, .string (strB t)]
section
variable (T : Nat) (k : Int) (a : List UInt8) (n : Int) (t : List UInt8)
theorem markC_size : (markC T k a n t).size = 36 := by simp [markC, idC_size]
theorem markC_k : (markC T k a n t)[32]? = some (.int .i64 k) := by rw [markC, Array.getElem?_append_right (by simp [idC_size])]; simp [idC_size]
theorem markC_a : (markC T k a n t)[33]? = some (.string (strB a)) := by rw [markC, Array.getElem?_append_right (by simp [idC_size])]; simp [idC_size]
theorem markC_n : (markC T k a n t)[34]? = some (.int .i64 n) := by rw [markC, Array.getElem?_append_right (by simp [idC_size])]; simp [idC_size]
theorem markC_t : (markC T k a n t)[35]? = some (.string (strB t)) := by rw [markC, Array.getElem?_append_right (by simp [idC_size])]; simp [idC_size]
theorem markC_id (j : Nat) (u : Value) (h : (idC (dgt T)).toList[j]? = some u) : (markC T k a n t)[j]? = some u := by
  have hj : j < 32 := by
    have := (List.getElem?_eq_some_iff.1 h).1
    rwa [Array.length_toList, idC_size] at this
  rw [markC, Array.getElem?_append_left (by rw [idC_size]; omega)]
  rwa [Array.getElem?_toList] at h
theorem markC_one : (markC T k a n t).all (·.oneCell') = true := by
  rw [markC, Array.all_append, idC_one, Bool.true_and]
  simp
  exact ⟨rfl, rfl, rfl, rfl⟩
end
theorem size36m : (Tryz.prog.info? 192).map (·.size) = some 36 := by kernel_rfl
/-- Where a tag lies. -/
def MarkAt (w : World) (g : Nat) (T : Nat) (k : Int) (a : List UInt8) (n : Int) (t : List UInt8) : Prop := Whole w g 192 (markC T k a n t)
section
variable {w w' : World} {g : Nat} {T : Nat} {k : Int} {a : List UInt8} {n : Int} {t : List UInt8}
theorem MarkAt.ck (h : MarkAt w g T k a n t) : w.cell? ⟨g, 32, none⟩ = some (.int .i64 k) := (Whole.cell h 32).trans (markC_k ..)
theorem MarkAt.ca (h : MarkAt w g T k a n t) : w.cell? ⟨g, 33, none⟩ = some (.string (strB a)) := (Whole.cell h 33).trans (markC_a ..)
theorem MarkAt.cn (h : MarkAt w g T k a n t) : w.cell? ⟨g, 34, none⟩ = some (.int .i64 n) := (Whole.cell h 34).trans (markC_n ..)
theorem MarkAt.ct (h : MarkAt w g T k a n t) : w.cell? ⟨g, 35, none⟩ = some (.string (strB t)) := (Whole.cell h 35).trans (markC_t ..)
theorem MarkAt.fr (h : MarkAt w g T k a n t) (f : Fr (fun _ => False) w w') : MarkAt w' g T k a n t := Whole.fr h f (fun e => e)
theorem MarkAt.new (w : World) : MarkAt (w.alloc (.cells (markC T k a n t) 192)) w.heap.size T k a n t := Whole.new w _ _
theorem MarkAt.id (h : MarkAt w g T k a n t) : w.rangeAt g 0 (idC (dgt T)).toList := fun j u hu => by
  rw [Nat.zero_add, Whole.cell h]
  exact markC_id T k a n t j u hu
end
/-- What the check of a tag answers. -/
def mchkE (k : Int) (a : List UInt8) (n : Int) (t : List UInt8) : Int := if 400 < t.length then 3 else if k < 1 ∨ 4 < k then 19 else if nameB a = false then 15 else if timeB n = false then 2 else 0
set_option maxHeartbeats 3200000 in
set_option maxRecDepth 100000 in
theorem VCheckMark_any (T : Nat) (k : Int) (a : List UInt8) (n : Int) (t : List UInt8) (ha : a.length ≤ 9223372036854775806) (ht : t.length ≤ 9223372036854775806) (w : World) :
    Calls Tryz.prog 154 #[.agg (markC T k a n t)] w fun e w' => e = .returned (.int .i64 (mchkE k a n t)) ∧ Below w.heap.size w w' := by
  obtain ⟨w1, hw1⟩ : ∃ w1, w.alloc (.cells (markC T k a n t) 192) = w1 := ⟨_, rfl⟩
  have hF : Fr (fun _ => False) w w1 := by subst hw1; exact (Fr.refl _ w).alloc _
  have hS : MarkAt w1 w.heap.size T k a n t := by subst hw1; exact MarkAt.new w
  have HF := Lib.hid hF
  have hck := hS.ck
  have hct := hS.ct
  have hca := hS.ca
  have hcn := hS.cn
  have HL := Lib.hid (fun w => VisLong_any t ht w)
  have HN := Lib.hid (fun w => RtName_any a ha w)
  have HI := Lib.hid (fun w => VisTime_any n w)
  have HCE : Hid (mchkE k a n t = if 400 < t.length then 3 else if k < 1 ∨ 4 < k then 19 else if nameB a = false then 15 else if timeB n = false then 2 else 0) := Lib.hid rfl
  obtain ⟨E, hE⟩ : ∃ E, mchkE k a n t = E := ⟨_, rfl⟩
  rw [hE] at HCE ⊢
  obtain ⟨cs, hcs⟩ : ∃ cs, markC T k a n t = cs := ⟨_, rfl⟩
  rw [hcs] at hw1 ⊢
  obtain ⟨b1, hb1⟩ : ∃ b, decide (400 < t.length) = b := ⟨_, rfl⟩
  obtain ⟨b3, hb3⟩ : ∃ b, nameB a = b := ⟨_, rfl⟩
  obtain ⟨b4, hb4⟩ : ∃ b, timeB n = b := ⟨_, rfl⟩
  rw [hb1] at HL
  rw [hb3] at HN HCE
  rw [hb4] at HI HCE
  have HB1 := Lib.hid hb1
  obtain ⟨Sa, hSa⟩ : ∃ S, strB a = S := ⟨_, rfl⟩
  obtain ⟨St, hSt⟩ : ∃ S, strB t = S := ⟨_, rfl⟩
  rw [hSa] at HN hca
  rw [hSt] at HL hct
  clear hE hcs hb1 hb3 hb4 hSa hSt hS hF ha ht
  cases b1
  · have HCE := Lib.hid (HCE.out.trans (if_neg (of_decide_eq_false HB1.out)))
    clear HB1
    by_cases hk1 : k < 1
    · have HE := Lib.hid (HCE.out.trans (if_pos (.inl hk1)))
      clear HCE HN HI
      go_enter Tryz.func154, Tryz.ntmps154
      go_wp2_with (
        (go_at_call 171; refine (HL.out _).mono ?_; rintro e w' ⟨rfl, rfl⟩))
      (
        go_ret
        exact ⟨ret_num HE.out.symm, HF.out.below (fun _ _ e => e)⟩)
    · by_cases hk4 : 4 < k
      · have HE := Lib.hid (HCE.out.trans (if_pos (.inr hk4)))
        clear HCE HN HI
        go_enter Tryz.func154, Tryz.ntmps154
        go_wp2_with (
          (go_at_call 171; refine (HL.out _).mono ?_; rintro e w' ⟨rfl, rfl⟩))
        (
          go_ret
          exact ⟨ret_num HE.out.symm, HF.out.below (fun _ _ e => e)⟩)
      · have HCE := Lib.hid (HCE.out.trans (if_neg (by omega)))
        cases b3
        · have HE := Lib.hid (HCE.out.trans (if_pos rfl))
          clear HCE HI
          go_enter Tryz.func154, Tryz.ntmps154
          go_wp2_with (first | (
            (go_at_call 171; refine (HL.out _).mono ?_; rintro e w' ⟨rfl, rfl⟩)) | (
              (go_at_call 162; refine (HN.out _).mono ?_; rintro e w' ⟨rfl, rfl⟩)))
          (
            go_ret
            exact ⟨ret_num HE.out.symm, HF.out.below (fun _ _ e => e)⟩)
        · have HCE := Lib.hid (HCE.out.trans (if_neg (by decide)))
          cases b4
          · have HE := Lib.hid (HCE.out.trans (if_pos rfl))
            clear HCE
            go_enter Tryz.func154, Tryz.ntmps154
            go_wp2_with (first | (
              (go_at_call 171; refine (HL.out _).mono ?_; rintro e w' ⟨rfl, rfl⟩)) | (
                (go_at_call 162; refine (HN.out _).mono ?_; rintro e w' ⟨rfl, rfl⟩)) | (
                  (go_at_call 173; refine (HI.out _).mono ?_; rintro e w' ⟨rfl, rfl⟩)))
            (
              go_ret
              exact ⟨ret_num HE.out.symm, HF.out.below (fun _ _ e => e)⟩)
          · have HE := Lib.hid (HCE.out.trans (if_neg (by decide)))
            clear HCE
            go_enter Tryz.func154, Tryz.ntmps154
            go_wp2_with (first | (
              (go_at_call 171; refine (HL.out _).mono ?_; rintro e w' ⟨rfl, rfl⟩)) | (
                (go_at_call 162; refine (HN.out _).mono ?_; rintro e w' ⟨rfl, rfl⟩)) | (
                  (go_at_call 173; refine (HI.out _).mono ?_; rintro e w' ⟨rfl, rfl⟩)))
            (
              go_ret
              exact ⟨ret_num HE.out.symm, HF.out.below (fun _ _ e => e)⟩)
  · have HE : Hid (E = 3) := Lib.hid (by rw [HCE.out, if_pos (of_decide_eq_true HB1.out)])
    clear HCE HN HI
    go_enter Tryz.func154, Tryz.ntmps154
    go_wp2_with (
      (go_at_call 171; refine (HL.out _).mono ?_; rintro e w' ⟨rfl, rfl⟩))
    (
      go_ret
      exact ⟨ret_num HE.out.symm, HF.out.below (fun _ _ e => e)⟩)
end Go.Proofs.YtkaeoflgnnlbeaaGreatDoor
/- What is proved: a tag as bytes, by the program. Conditions: the library's table lies as its text lays it, nothing is too long for any machine. -/
namespace Go.Proofs.YtkaeoflgnnlbeaaGreatDoor
open Go.RowKit Go.Sort Go.Shelf
open Ids (idC dgt big idC_size idC_get idC_one cellD zero32 size32 dgt_lt hexB)
set_option linter.unusedVariables false
def wObject : List UInt8 := [111, 98, 106, 101, 99, 116]
def wKind : List UInt8 := [107, 105, 110, 100]
def wName : List UInt8 := [110, 97, 109, 101]
end Go.Proofs.YtkaeoflgnnlbeaaGreatDoor
/- What is proved: all lines of a tag are taken, by the program, or it gives up. Conditions: the text is not too long. -/
namespace Go.Proofs.YtkaeoflgnnlbeaaGreatDoor
open Go.RowKit Go.Sort Go.Shelf
open Ids (idC dgt big idC_size idC_get idC_one cellD zero32 size32 dgt_lt hexB)
set_option linter.unusedVariables false
/-! What lines tell of a tag. -/
structure MarkP where
  T : Nat
  k : Nat
  a : List UInt8
  n : Nat
  t : List UInt8
def markL4 (T k : Nat) (a : List UInt8) (n : Nat) (r3 : List UInt8) : Option MarkP := match textL r3 with
  | none => none
  | some t => some ⟨T, k, a, n, t⟩
def markL3 (T k : Nat) (a r2 : List UInt8) : Option MarkP := match numL wTime r2 with
  | none => none
  | some (n, r3) => markL4 T k a n r3
def markL2 (T k : Nat) (r1 : List UInt8) : Option MarkP := match takeL wName r1 with
  | none => none
  | some (a, r2) => markL3 T k a r2
def markL1 (T : Nat) (r0 : List UInt8) : Option MarkP := match digL wKind r0 with
  | none => none
  | some (k, r1) => markL2 T k r1
def markL (s : List UInt8) : Option MarkP := match idL wObject s with
  | none => none
  | some (T, r0) => markL1 T r0
theorem digL_len {word s r : List UInt8} {n : Nat} (h : digL word s = some (n, r)) : r.length < s.length ∧ n < 10 ∧ numL word s = some (n, r) := by
  rcases hx : numL word s with _ | ⟨m, r'⟩
  · rw [digL, hx] at h; cases h
  · simp only [digL, hx] at h
    split at h
    · rename_i hm
      injection h with h
      injection h with h1 h2
      subst h1; subst h2
      exact ⟨(numL_len hx).1, hm, rfl⟩
    · cases h
/-! A tag's cells, one after another. -/
def zeroMk : Array Value := (List.replicate 32 (Value.int .u8 0) ++ [Value.int .i64 0, Value.string ⟨#[]⟩, Value.int .i64 0, Value.string ⟨#[]⟩]).toArray
theorem zeroM_eq : zeroMk = markC 0 0 [] 0 [] := by kernel_rfl
section
variable (T : Nat) (k : Int) (a : List UInt8) (n : Int) (t : List UInt8)
theorem markC_list : markC T k a n t = ((idC (dgt T)).toList ++ [Value.int .i64 k, .string (strB a), .int .i64 n, .string (strB t)]).toArray := by
  apply Array.toList_inj.1; simp [markC]
theorem markC_set (j : Nat) (u : Value) (hj : j < 4) : (markC T k a n t).setIfInBounds (32 + j) u = ((idC (dgt T)).toList ++ ([Value.int .i64 k, .string (strB a), .int .i64 n, .string (strB t)].set j u)).toArray := by
  apply Array.toList_inj.1
  rw [Array.toList_setIfInBounds, markC_list]
  have hl : (idC (dgt T)).toList.length = 32 := by rw [Array.length_toList, idC_size]
  simp only []
  rw [List.set_append_right _ _ (by rw [hl]; omega), hl, show 32 + j - 32 = j by omega]
theorem markC_set_k (m : Int) : (markC T k a n t).setIfInBounds 32 (.int .i64 m) = markC T m a n t := by rw [show 32 = 32 + 0 from rfl, markC_set _ _ _ _ _ 0 _ (by decide), markC_list]; rfl
theorem markC_set_a (b : List UInt8) : (markC T k a n t).setIfInBounds 33 (.string (strB b)) = markC T k b n t := by rw [show 33 = 32 + 1 from rfl, markC_set _ _ _ _ _ 1 _ (by decide), markC_list]; rfl
theorem markC_set_n (m : Int) : (markC T k a n t).setIfInBounds 34 (.int .i64 m) = markC T k a m t := by rw [show 34 = 32 + 2 from rfl, markC_set _ _ _ _ _ 2 _ (by decide), markC_list]; rfl
theorem markC_set_t (b : List UInt8) : (markC T k a n t).setIfInBounds 35 (.string (strB b)) = markC T k a n b := by rw [show 35 = 32 + 3 from rfl, markC_set _ _ _ _ _ 3 _ (by decide), markC_list]; rfl
theorem markC_laid (T' : Nat) : laidAt (markC T k a n t) 0 (idC (dgt T')) = markC T' k a n t := by
  apply Array.toList_inj.1
  rw [laidAt, markC_list, markC_list]
  have hl : (idC (dgt T)).toList.length = 32 := by rw [Array.length_toList, idC_size]
  simp [idC_size, hl]
end
section
variable {w : World} {g : Nat} {T : Nat} {k : Int} {a : List UInt8} {n : Int} {t : List UInt8}
theorem MarkAt.frozen (h : MarkAt w g T k a n t) (j : Nat) : w.frozen? ⟨g, j, none⟩ = false := Whole.frozen h j
theorem MarkAt.setK (h : MarkAt w g T k a n t) (m : Int) : MarkAt (w.setCell ⟨g, 32, none⟩ (.int .i64 m)) g T m a n t := by have := Whole.set h 32 (.int .i64 m); rwa [markC_set_k] at this
theorem MarkAt.setA (h : MarkAt w g T k a n t) (b : List UInt8) : MarkAt (w.setCell ⟨g, 33, none⟩ (.string (strB b))) g T k b n t := by have := Whole.set h 33 (.string (strB b)); rwa [markC_set_a] at this
theorem MarkAt.setN (h : MarkAt w g T k a n t) (m : Int) : MarkAt (w.setCell ⟨g, 34, none⟩ (.int .i64 m)) g T k a m t := by have := Whole.set h 34 (.int .i64 m); rwa [markC_set_n] at this
theorem MarkAt.setT (h : MarkAt w g T k a n t) (b : List UInt8) : MarkAt (w.setCell ⟨g, 35, none⟩ (.string (strB b))) g T k a n b := by have := Whole.set h 35 (.string (strB b)); rwa [markC_set_t] at this
end
/-- How taking a tag ends. -/
def MarkPost (g : Nat) (w : World) (G : Option MarkP) (e : Ending) (w' : World) : Prop := match G with
  | none => e = PC ∧ Fr (fun k => k = g) w w'
  | some R => e = .returned (.agg (markC R.T R.k R.a R.n R.t)) ∧ Fr (fun k => k = g) w w'
theorem MarkPost.gave {g : Nat} {w w' : World} {G : Option MarkP} {e : Ending} (h : G = none) (he : e = PC) (hf : Fr (fun k => k = g) w w') : MarkPost g w G e w' := by
  subst h; exact ⟨he, hf⟩
/-- What stands while lines are taken: what is left, and what has been told. -/
structure Tm (w2 wr : World) (g g3 : Nat) (s : List UInt8) (T : Nat) (k : Int) (a : List UInt8) (n : Int) (t : List UInt8) : Prop where
  fr : Fr (fun k => k = g ∨ k = g3) w2 wr
  left : LinesAt wr g s
  mark : MarkAt wr g3 T k a n t
section
variable {w2 wr w' : World} {g g3 : Nat} {s r : List UInt8} {T : Nat} {k : Int} {a : List UInt8} {n : Int} {t : List UInt8}
/-- A line is taken: only what is left turns. -/
theorem Tm.took (h : Tm w2 wr g g3 s T k a n t) (hne : g ≠ g3) (l : LinesAt w' g r) (f : Fr (fun k => k = g) wr w') : Tm w2 w' g g3 r T k a n t :=
  ⟨h.fr.trans f (fun _ _ e => .inl e), l, Whole.fr h.mark f (fun e => hne e.symm)⟩
theorem Tm.put (h : Tm w2 wr g g3 s T k a n t) (hne : g ≠ g3) {p : Addr} (hp : p.block = g3) (u : Value) {k' : Int} {a' : List UInt8} {n' : Int} {t' : List UInt8} (hr : MarkAt (wr.setCell p u) g3 T k' a' n' t') : Tm w2 (wr.setCell p u) g g3 s T k' a' n' t' := by
  have f : Fr (fun k => k = g3) wr (wr.setCell p u) := Fr.setCell (Fr.refl _ wr) (fun _ => hp) u
  exact ⟨h.fr.trans f (fun _ _ e => .inr e), Whole.fr h.left f hne, hr⟩
end
set_option maxHeartbeats 6400000 in
set_option maxRecDepth 100000 in
theorem VtakeMark_any (g : Nat) (s : List UInt8) (hs : s.length ≤ 100000) (w : World) (h : LinesAt w g s) :
    Calls Tryz.prog 153 #[.pointer (some ⟨g, 0, none⟩)] w (MarkPost g w (markL s)) := by
  obtain ⟨w1, hw1⟩ : ∃ w1, w.alloc (.cells zeroMk 192) = w1 := ⟨_, rfl⟩
  obtain ⟨w2, hw2⟩ : ∃ w2, w1.alloc (.cells zeroMk 192) = w2 := ⟨_, rfl⟩
  have hF1 : Fr (fun _ => False) w w1 := by subst hw1; exact (Fr.refl _ w).alloc _
  have hF2 : Fr (fun _ => False) w1 w2 := by subst hw2; exact (Fr.refl _ w1).alloc _
  have hR1 : Whole w1 w.heap.size 192 zeroMk := by subst hw1; exact Whole.new w _ _
  have hR2 : Whole w2 w1.heap.size 192 zeroMk := by subst hw2; exact Whole.new w1 _ _
  have hsz1 : w1.heap.size = w.heap.size + 1 := by subst hw1; exact alloc_size _ _
  have hsz2 : w2.heap.size = w.heap.size + 2 := by subst hw2; rw [alloc_size]; omega
  have hg : g < w.heap.size := Whole.lt h
  have HT0 : Hid (Tm w2 w2 g w1.heap.size s 0 0 [] 0 []) := Lib.hid ⟨Fr.refl _ _, (h.fr hF1).fr hF2, by rw [MarkAt, ← zeroM_eq]; exact hR2⟩
  have HR1 : Hid (Whole w2 w.heap.size 192 zeroMk) := Lib.hid (hR1.fr hF2 (fun e => e))
  have HF := Lib.hid (hF1.trans hF2 (fun _ _ e => e))
  rw [hsz1] at HT0
  unfold zeroMk at hw1 hw2
  simp [List.replicate] at hw1 hw2
  obtain ⟨G, hG⟩ : ∃ G, markL s = G := ⟨_, rfl⟩
  rw [hG]
  have HEnd : Hid (∀ w', Fr (fun k => k = g ∨ k = w.heap.size + 1) w2 w' → Fr (fun k => k = g) w w') := Lib.hid (fun w' f => (HF.out.mono (fun _ _ e => e.elim) : Fr (fun k => k = g) w w2).trans f (fun i hi e => by rcases e with e | e; exact e; omega))
  clear hF1 hF2 hR1 hR2 h
  cases hi : idL wObject s with
  | none =>
    have HN : Hid (G = none) := Lib.hid (by rw [← hG, markL, hi])
    have HI := Lib.hid (fun (l : LinesAt w2 g s) => Vlid_none g wObject s (by decide) (by decide) (by omega) hi w2 l)
    obtain ⟨W, hW⟩ : ∃ S, strB wObject = S := ⟨_, rfl⟩
    have hWc : ByteArray.mk #[111, 98, 106, 101, 99, 116] = W := hW
    rw [hW] at HI
    clear hG hi hW
    go_enter Tryz.func153, Tryz.ntmps153
    go_wp2_with (go_at_call 166; refine (HI.out HT0.out.left).mono ?_; rintro e w3 ⟨rfl, f3⟩)
    exact ⟨rfl, MarkPost.gave HN.out rfl ((HF.out.mono (fun _ _ e => e.elim) : Fr (fun k => k = g) w w2).trans f3 (fun _ _ e => e))⟩
  | some x =>
    obtain ⟨T, r0⟩ := x
    have hr0 := (idL_len hi).1
    have HI := Lib.hid (fun (l : LinesAt w2 g s) => Vlid_some g wObject s r0 T (by decide) (by decide) (by omega) hi w2 l)
    have HG1 : Hid (G = markL1 T r0) := Lib.hid (by rw [← hG, markL, hi])
    obtain ⟨W, hW⟩ : ∃ S, strB wObject = S := ⟨_, rfl⟩
    have hWc : ByteArray.mk #[111, 98, 106, 101, 99, 116] = W := hW
    obtain ⟨W2, hW2⟩ : ∃ S, strB wKind = S := ⟨_, rfl⟩
    have hWc2 : ByteArray.mk #[107, 105, 110, 100] = W2 := hW2
    obtain ⟨W3, hW3⟩ : ∃ S, strB wName = S := ⟨_, rfl⟩
    have hWc3 : ByteArray.mk #[110, 97, 109, 101] = W3 := hW3
    obtain ⟨W4, hW4⟩ : ∃ S, strB wTime = S := ⟨_, rfl⟩
    have hWc4 : ByteArray.mk #[116, 105, 109, 101] = W4 := hW4
    rw [hW] at HI
    have hcs := idC_size (dgt T)
    have hco := idC_one (dgt T)
    have HLD := Lib.hid (markC_laid 0 0 [] 0 [] T)
    obtain ⟨ct, hct⟩ : ∃ c, idC (dgt T) = c := ⟨_, rfl⟩
    rw [hct] at HI hcs hco HLD
    have hRS := markC_size 0 0 [] 0 []
    clear hG hi hW hct
    cases hk : digL wKind r0 with
    | none =>
      have HN : Hid (G = none) := Lib.hid (by rw [HG1.out, markL1, hk])
      have HK := Lib.hid (fun (w5 : World) (l : LinesAt w5 g r0) => Vldigit_none g wKind r0 (by decide) (by decide) (by omega) hk w5 l)
      rw [hW2] at HK
      clear hk
      go_enter Tryz.func153, Tryz.ntmps153
      go_wp2_with (first
        | (
          (go_at_call 166; refine (HI.out HT0.out.left).mono ?_; rintro e w3 ⟨rfl, l3, f3⟩
           have HT3 := Lib.hid (HT0.out.took (by omega) l3 f3)
           clear l3 f3))
        | (
          (refine wpList_store_at rfl 48 _ _ rfl (w.heap.size + 1) 0 192 _ ct rfl rfl HT3.out.mark (by rw [hRS, hcs]; decide) (by rw [hcs]; exact size32) hco ?_
           intro w4 hw4 hf4
           rw [HLD.out] at hw4
           have HT4 : Hid (Tm w2 w4 g (w.heap.size + 1) r0 T 0 [] 0 []) := Lib.hid ⟨HT3.out.fr.trans hf4 (fun _ _ e => .inr e), Whole.fr HT3.out.left hf4 (fun e => by omega), hw4⟩
           clear hw4 hf4))
        | (go_at_call 174; refine (HK.out _ HT4.out.left).mono ?_; rintro e w5 ⟨rfl, f5⟩))
      exact ⟨rfl, MarkPost.gave HN.out rfl (HEnd.out _ (HT4.out.fr.trans f5 (fun _ _ e => .inl e)))⟩
    | some xk =>
      obtain ⟨k, r1⟩ := xk
      have hl1 := (digL_len hk).1
      have HG2 : Hid (G = markL2 T k r1) := Lib.hid (by rw [HG1.out, markL1, hk])
      have HK := Lib.hid (fun (w5 : World) (l : LinesAt w5 g r0) => Vldigit_some g wKind r0 r1 k (by decide) (by decide) (by omega) hk w5 l)
      rw [hW2] at HK
      have HT5 := Lib.hid (fun (w4 w5 : World) (h : Tm w2 w4 g (w.heap.size + 1) r0 T 0 [] 0 []) (l5 : LinesAt w5 g r1) (f5 : Fr (fun k => k = g) w4 w5) => h.took (by omega) l5 f5)
      have HS5 := Lib.hid (fun (w5 : World) (h : Tm w2 w5 g (w.heap.size + 1) r1 T 0 [] 0 []) => (h.put (p := ⟨w.heap.size + 1, 32, none⟩) (by omega) rfl (.int .i64 k) (h.mark.setK k) : Tm w2 _ g (w.heap.size + 1) r1 T k [] 0 []))
      clear hk
      cases hta : takeL wName r1 with
      | none =>
        have HN : Hid (G = none) := Lib.hid (by rw [HG2.out, markL2, hta])
        have HC := Lib.hid (fun (w5 : World) (l : LinesAt w5 g r1) => Vltake_none g wName r1 (by decide) (by omega) hta w5 l)
        rw [hW3] at HC
        clear hta
        go_enter Tryz.func153, Tryz.ntmps153
        go_wp2_with (first
          | (
            (go_at_call 166; refine (HI.out HT0.out.left).mono ?_; rintro e w3 ⟨rfl, l3, f3⟩
             have HT3 := Lib.hid (HT0.out.took (by omega) l3 f3)
             clear l3 f3))
          | (
            (refine wpList_store_at rfl 48 _ _ rfl (w.heap.size + 1) 0 192 _ ct rfl rfl HT3.out.mark (by rw [hRS, hcs]; decide) (by rw [hcs]; exact size32) hco ?_
             intro w4 hw4 hf4
             rw [HLD.out] at hw4
             have HT4 : Hid (Tm w2 w4 g (w.heap.size + 1) r0 T 0 [] 0 []) := Lib.hid ⟨HT3.out.fr.trans hf4 (fun _ _ e => .inr e), Whole.fr HT3.out.left hf4 (fun e => by omega), hw4⟩
             clear hw4 hf4))
          | (
            (go_at_call 174; refine (HK.out _ HT4.out.left).mono ?_; rintro e w5 ⟨rfl, l5, f5⟩; have K5 := Lib.hid (HT5.out _ _ HT4.out l5 f5); have K6 := Lib.hid (HS5.out _ K5.out); have d5 := K5.out.mark.ck; have e5 := K5.out.mark.frozen 32; clear l5 f5))
          | (go_at_call 168; refine (HC.out _ K6.out.left).mono ?_; rintro e w7 ⟨rfl, b7⟩))
        exact ⟨rfl, MarkPost.gave HN.out rfl (HEnd.out _ (K6.out.fr.then_below b7))⟩
      | some xa =>
        obtain ⟨a, r2⟩ := xa
        have hl2 := takeL_len hta
        have HG3 : Hid (G = markL3 T k a r2) := Lib.hid (by rw [HG2.out, markL2, hta])
        have HC := Lib.hid (fun (w5 : World) (l : LinesAt w5 g r1) => Vltake_some g wName r1 a r2 (by decide) (by decide) (by omega) hta w5 l)
        rw [hW3] at HC
        have HT7 := Lib.hid (fun (w6 w7 : World) (h : Tm w2 w6 g (w.heap.size + 1) r1 T k [] 0 []) (l7 : LinesAt w7 g r2) (f7 : Fr (fun k => k = g) w6 w7) => h.took (by omega) l7 f7)
        have HS7 := Lib.hid (fun (w7 : World) (h : Tm w2 w7 g (w.heap.size + 1) r2 T k [] 0 []) => (h.put (p := ⟨w.heap.size + 1, 33, none⟩) (by omega) rfl (.string (strB a)) (h.mark.setA a) : Tm w2 _ g (w.heap.size + 1) r2 T k a 0 []))
        obtain ⟨Sa, hSa⟩ : ∃ S, strB a = S := ⟨_, rfl⟩
        rw [hSa] at HC HS7
        clear hta hSa
        cases htn : numL wTime r2 with
        | none =>
          have HN : Hid (G = none) := Lib.hid (by rw [HG3.out, markL3, htn])
          have HD := Lib.hid (fun (w5 : World) (l : LinesAt w5 g r2) => Vlnumber_none g wTime r2 (by decide) (by decide) (by omega) htn w5 l)
          rw [hW4] at HD
          clear htn
          go_enter Tryz.func153, Tryz.ntmps153
          go_wp2_with (first
            | (
              (go_at_call 166; refine (HI.out HT0.out.left).mono ?_; rintro e w3 ⟨rfl, l3, f3⟩
               have HT3 := Lib.hid (HT0.out.took (by omega) l3 f3)
               clear l3 f3))
            | (
              (refine wpList_store_at rfl 48 _ _ rfl (w.heap.size + 1) 0 192 _ ct rfl rfl HT3.out.mark (by rw [hRS, hcs]; decide) (by rw [hcs]; exact size32) hco ?_
               intro w4 hw4 hf4
               rw [HLD.out] at hw4
               have HT4 : Hid (Tm w2 w4 g (w.heap.size + 1) r0 T 0 [] 0 []) := Lib.hid ⟨HT3.out.fr.trans hf4 (fun _ _ e => .inr e), Whole.fr HT3.out.left hf4 (fun e => by omega), hw4⟩
               clear hw4 hf4))
            | (
              (go_at_call 174; refine (HK.out _ HT4.out.left).mono ?_; rintro e w5 ⟨rfl, l5, f5⟩; have K5 := Lib.hid (HT5.out _ _ HT4.out l5 f5); have K6 := Lib.hid (HS5.out _ K5.out); have d5 := K5.out.mark.ck; have e5 := K5.out.mark.frozen 32; clear l5 f5))
            | (
              (go_at_call 168; refine (HC.out _ K6.out.left).mono ?_; rintro e w7 ⟨rfl, l7, f7⟩; have K7 := Lib.hid (HT7.out _ _ K6.out l7 f7); have K8 := Lib.hid (HS7.out _ K7.out); have d7 := K7.out.mark.ca; have e7 := K7.out.mark.frozen 33; clear l7 f7))
            | (go_at_call 169; refine (HD.out _ K8.out.left).mono ?_; rintro e w9 ⟨rfl, f9⟩))
          exact ⟨rfl, MarkPost.gave HN.out rfl (HEnd.out _ (K8.out.fr.trans f9 (fun _ _ e => .inl e)))⟩
        | some xn =>
          obtain ⟨n, r3⟩ := xn
          have hl3 := numL_len htn
          have HG4 : Hid (G = markL4 T k a n r3) := Lib.hid (by rw [HG3.out, markL3, htn])
          have HD := Lib.hid (fun (w5 : World) (l : LinesAt w5 g r2) => Vlnumber_some g wTime r2 r3 n (by decide) (by decide) (by omega) htn w5 l)
          rw [hW4] at HD
          have HT9 := Lib.hid (fun (w6 w7 : World) (h : Tm w2 w6 g (w.heap.size + 1) r2 T k a 0 []) (l7 : LinesAt w7 g r3) (f7 : Fr (fun k => k = g) w6 w7) => h.took (by omega) l7 f7)
          have HS9 := Lib.hid (fun (w7 : World) (h : Tm w2 w7 g (w.heap.size + 1) r3 T k a 0 []) => (h.put (p := ⟨w.heap.size + 1, 34, none⟩) (by omega) rfl (.int .i64 n) (h.mark.setN n) : Tm w2 _ g (w.heap.size + 1) r3 T k a n []))
          clear htn
          cases htx : textL r3 with
          | none =>
            have HN : Hid (G = none) := Lib.hid (by rw [HG4.out, markL4, htx])
            have HX := Lib.hid (fun (w5 : World) (l : LinesAt w5 g r3) => Vltext_none g r3 (by omega) htx w5 l)
            clear htx
            go_enter Tryz.func153, Tryz.ntmps153
            go_wp2_with (first
              | (
                (go_at_call 166; refine (HI.out HT0.out.left).mono ?_; rintro e w3 ⟨rfl, l3, f3⟩
                 have HT3 := Lib.hid (HT0.out.took (by omega) l3 f3)
                 clear l3 f3))
              | (
                (refine wpList_store_at rfl 48 _ _ rfl (w.heap.size + 1) 0 192 _ ct rfl rfl HT3.out.mark (by rw [hRS, hcs]; decide) (by rw [hcs]; exact size32) hco ?_
                 intro w4 hw4 hf4
                 rw [HLD.out] at hw4
                 have HT4 : Hid (Tm w2 w4 g (w.heap.size + 1) r0 T 0 [] 0 []) := Lib.hid ⟨HT3.out.fr.trans hf4 (fun _ _ e => .inr e), Whole.fr HT3.out.left hf4 (fun e => by omega), hw4⟩
                 clear hw4 hf4))
              | (
                (go_at_call 174; refine (HK.out _ HT4.out.left).mono ?_; rintro e w5 ⟨rfl, l5, f5⟩; have K5 := Lib.hid (HT5.out _ _ HT4.out l5 f5); have K6 := Lib.hid (HS5.out _ K5.out); have d5 := K5.out.mark.ck; have e5 := K5.out.mark.frozen 32; clear l5 f5))
              | (
                (go_at_call 168; refine (HC.out _ K6.out.left).mono ?_; rintro e w7 ⟨rfl, l7, f7⟩; have K7 := Lib.hid (HT7.out _ _ K6.out l7 f7); have K8 := Lib.hid (HS7.out _ K7.out); have d7 := K7.out.mark.ca; have e7 := K7.out.mark.frozen 33; clear l7 f7))
              | (
                (go_at_call 169; refine (HD.out _ K8.out.left).mono ?_; rintro e w9 ⟨rfl, l9, f9⟩; have K9 := Lib.hid (HT9.out _ _ K8.out l9 f9); have K10 := Lib.hid (HS9.out _ K9.out); have d9 := K9.out.mark.cn; have e9 := K9.out.mark.frozen 34; clear l9 f9))
              | (go_at_call 170; refine (HX.out _ K10.out.left).mono ?_; rintro e w11 ⟨rfl, f11⟩))
            exact ⟨rfl, MarkPost.gave HN.out rfl (HEnd.out _ (K10.out.fr.trans f11 (fun _ _ e => .inl e)))⟩
          | some t =>
            have HN : Hid (G = some ⟨T, k, a, n, t⟩) := Lib.hid (by rw [HG4.out, markL4, htx])
            have HX := Lib.hid (fun (w5 : World) (l : LinesAt w5 g r3) => Vltext_some g r3 t (by omega) htx w5 l)
            have HSX := Lib.hid (fun (w9 : World) (h : MarkAt w9 (w.heap.size + 1) T k a n []) => h.setT t)
            have HEnd2 : Hid (∀ w8 w9, Tm w2 w8 g (w.heap.size + 1) r3 T k a n [] → Fr (fun k => k = g) w8 w9 → MarkAt w9 (w.heap.size + 1) T k a n [] ∧ (∀ u, Fr (fun k => k = g ∨ k = w.heap.size + 1) w2 (w9.setCell ⟨w.heap.size + 1, 35, none⟩ u) ∧ Whole (w9.setCell ⟨w.heap.size + 1, 35, none⟩ u) w.heap.size 192 zeroMk)) := Lib.hid (fun w8 w9 h f => by
              have f2 : ∀ u, Fr (fun k => k = w.heap.size + 1) w9 (w9.setCell ⟨w.heap.size + 1, 35, none⟩ u) := fun u => Fr.setCell (S := fun k => k = w.heap.size + 1) (p := ⟨w.heap.size + 1, 35, none⟩) (Fr.refl _ w9) (fun _ => rfl) u
              have fa : ∀ u, Fr (fun k => k = g ∨ k = w.heap.size + 1) w2 (w9.setCell ⟨w.heap.size + 1, 35, none⟩ u) := fun u => (h.fr.trans f (fun _ _ e => .inl e)).trans (f2 u) (fun _ _ e => .inr e)
              exact ⟨Whole.fr h.mark f (fun e => by omega), fun u => ⟨fa u, HR1.out.fr (fa u) (fun e => by omega)⟩⟩)
            obtain ⟨St, hSt⟩ : ∃ S, strB t = S := ⟨_, rfl⟩
            rw [hSt] at HX HSX
            have hrs := markC_size T k a n t
            have hco' := markC_one T k a n t
            obtain ⟨cr, hcr⟩ : ∃ c, markC T k a n t = c := ⟨_, rfl⟩
            have HCR := Lib.hid hcr
            rw [hcr] at hrs hco'
            clear htx hSt hcr
            go_enter Tryz.func153, Tryz.ntmps153
            go_wp2_with (first
              | (
                (go_at_call 166; refine (HI.out HT0.out.left).mono ?_; rintro e w3 ⟨rfl, l3, f3⟩
                 have HT3 := Lib.hid (HT0.out.took (by omega) l3 f3)
                 clear l3 f3))
              | (
                (refine wpList_store_at rfl 48 _ _ rfl (w.heap.size + 1) 0 192 _ ct rfl rfl HT3.out.mark (by rw [hRS, hcs]; decide) (by rw [hcs]; exact size32) hco ?_
                 intro w4 hw4 hf4
                 rw [HLD.out] at hw4
                 have HT4 : Hid (Tm w2 w4 g (w.heap.size + 1) r0 T 0 [] 0 []) := Lib.hid ⟨HT3.out.fr.trans hf4 (fun _ _ e => .inr e), Whole.fr HT3.out.left hf4 (fun e => by omega), hw4⟩
                 clear hw4 hf4))
              | (
                (go_at_call 174; refine (HK.out _ HT4.out.left).mono ?_; rintro e w5 ⟨rfl, l5, f5⟩; have K5 := Lib.hid (HT5.out _ _ HT4.out l5 f5); have K6 := Lib.hid (HS5.out _ K5.out); have d5 := K5.out.mark.ck; have e5 := K5.out.mark.frozen 32; clear l5 f5))
              | (
                (go_at_call 168; refine (HC.out _ K6.out.left).mono ?_; rintro e w7 ⟨rfl, l7, f7⟩; have K7 := Lib.hid (HT7.out _ _ K6.out l7 f7); have K8 := Lib.hid (HS7.out _ K7.out); have d7 := K7.out.mark.ca; have e7 := K7.out.mark.frozen 33; clear l7 f7))
              | (
                (go_at_call 169; refine (HD.out _ K8.out.left).mono ?_; rintro e w9 ⟨rfl, l9, f9⟩; have K9 := Lib.hid (HT9.out _ _ K8.out l9 f9); have K10 := Lib.hid (HS9.out _ K9.out); have d9 := K9.out.mark.cn; have e9 := K9.out.mark.frozen 34; clear l9 f9))
              | (go_at_call 170; refine (HX.out _ K10.out.left).mono ?_; rintro e w11 ⟨rfl, f11⟩; have KE := Lib.hid (HEnd2.out _ _ K10.out f11); have d11 := KE.out.1.ct; have e11 := Whole.frozen KE.out.1 35
                 have R11 : Hid (Whole (w11.setCell ⟨w.heap.size + 1, 35, none⟩ (.string St)) (w.heap.size + 1) 192 cr) := Lib.hid (by rw [← HCR.out]; exact HSX.out _ KE.out.1)
                 clear f11)
              | (refine wpList_load_row rfl 192 _ rfl _ rfl 192 _ _ _ R11.out Tryz.underlying192 rfl (by rw [hrs]; exact size36m) ?_)
              | (refine wpList_store_at rfl 192 _ _ rfl w.heap.size 0 192 _ cr rfl rfl (KE.out.2 _).2 (by rw [hrs]; decide) (by rw [hrs]; exact size36m) hco' ?_
                 intro w12 hw12 hf12
                 rw [laidAt_all _ _ (by rw [hrs]; rfl)] at hw12))
            refine bodyPost_ret (v := .agg cr) (results_cell_row rfl _ _ _ _ _ _ _ rfl hw12 Tryz.underlying192 rfl (by rw [hrs]; exact size36m)) rfl ?_
            have hfin := (KE.out.2 (.string St))
            show MarkPost g w G _ _
            rw [HN.out]
            exact ⟨by rw [HCR.out], (HEnd.out _ hfin.1).trans hf12 (fun i hi e => by omega)⟩
end Go.Proofs.YtkaeoflgnnlbeaaGreatDoor
/- What is proved: bytes as a tag, by the program, with its deferred closure. Conditions: the bytes' cells are there, not too many. -/
namespace Go.Proofs.YtkaeoflgnnlbeaaGreatDoor
open Go.RowKit Go.Sort Go.Shelf
open Ids (idC dgt big idC_size idC_get idC_one cellD zero32 size32 dgt_lt hexB)
set_option linter.unusedVariables false
theorem zeroM_build (w : World) : (Instr.build 192 #[]).run Tryz.prog w = .ok (.agg zeroMk) w := by kernel_rfl
theorem zeroM_size : zeroMk.size = 36 := rfl
theorem zeroM_one : zeroMk.all (·.oneCell') = true := by kernel_rfl
set_option maxHeartbeats 1600000 in
set_option maxRecDepth 100000 in
theorem catchM_panicking (gc ge : Nat) (hne : gc ≠ ge) (u : TypeId) (pv : Value) (older : List PanicEntry) (cs : Array Value) (hcs : cs.size = 36) (x : Int) (w : World) (hC : Whole w gc 192 cs) (hE : Whole w ge 27 #[.int .i64 x]) :
    CallsD Tryz.prog 152 #[.pointer (some ⟨gc, 0, none⟩), .pointer (some ⟨ge, 0, none⟩)] (.panicking ({ v := .iface u pv, recovered := false } :: older)) w fun e u' w' =>
      e = .returned (.tuple #[]) ∧ u' = .panicking ({ v := .iface u pv, recovered := true } :: older) ∧ Whole w' gc 192 zeroMk ∧ Whole w' ge 27 #[.int .i64 12] ∧ Fr (fun k => k = gc ∨ k = ge) w w' := by
  have HC := Lib.hid hC
  have HE := Lib.hid hE
  have HB := Lib.hid zeroM_build
  clear hC hE
  refine callsD_of_wpS Tryz.func152 rfl fun c₀ cs' hu => ?_
  apply wpS_seq
  apply wpS_region
  simp [wpOpsS, go_sem, recoverD, hu, Tryz.ntmps152, Exit.thenS]
  refine wpS_cond (t := true) (by simp [Act.eval, Array.replicate]) ?_
  simp only [if_true]
  apply wpS_of_wp
  rw [show (#[Value.pointer (some ⟨gc, 0, none⟩), Value.pointer (some ⟨ge, 0, none⟩)] ++ ((Array.replicate 3 undef).setIfInBounds 0 (Value.iface u pv)).setIfInBounds 1 (Value.bool true)) = [Value.pointer (some ⟨gc, 0, none⟩), Value.pointer (some ⟨ge, 0, none⟩), Value.iface u pv, Value.bool true, undef].toArray from rfl]
  go_wp2_with (first
    | (refine wpList_build_to rfl 192 _ rfl #[] (by first | rfl | simp [Act.eval]) (.agg zeroMk) (HB.out _) ?_)
    | (refine wpList_store_at rfl 192 _ _ rfl gc 0 192 cs zeroMk rfl rfl HC.out (by rw [hcs]; decide) size36m zeroM_one ?_
       intro w2 hw2 hf2
       rw [laidAt_all _ _ (by rw [hcs]; rfl)] at hw2
       have HE2 := Lib.hid (HE.out.fr hf2 (fun e => hne e.symm))
       have c2 := HE2.out.cell 0
       have z2 := HE2.out.frozen 0
       rw [show (#[Value.int IntKind.i64 x])[0]? = some (Value.int IntKind.i64 x) from rfl] at c2))
  have f3 : Fr (fun k => k = ge) w2 (w2.setCell ⟨ge, 0, none⟩ (.int .i64 12)) := Fr.setCell (S := fun k => k = ge) (p := ⟨ge, 0, none⟩) (Fr.refl _ w2) (fun _ => rfl) _
  refine ⟨rfl, _, rfl, .tuple #[], by simp [results, Tryz.results152], rfl, rfl, hw2.fr f3 hne, HE2.out.set 0 (.int .i64 12), (hf2.mono (fun _ _ e => .inl e) : Fr (fun k => k = gc ∨ k = ge) w w2).trans f3 (fun _ _ e => .inr e)⟩
theorem catchM_idle (p q : Addr) (w : World) :
    CallsD Tryz.prog 152 #[.pointer (some p), .pointer (some q)] .returning w fun e u' w' => e = .returned (.tuple #[]) ∧ u' = .returning ∧ w' = w := by
  refine callsD_of_wpS Tryz.func152 rfl fun c₀ cs hu => ?_
  apply wpS_seq
  apply wpS_region
  simp [wpOpsS, go_sem, recoverD, hu, Tryz.ntmps152, Exit.thenS]
  refine wpS_cond (t := false) (by simp [Act.eval, Array.replicate]) ?_
  simp only [Bool.false_eq_true, if_false]
  refine wpS_of_wp (wp_skip ?_)
  cases c₀
  simp_all [bodyPostS, results, Tryz.results152]
def zeroQ : MarkP := ⟨0, 0, [], 0, []⟩
/-- What bytes tell: a tag, and an error's number. -/
def getK (G : Option MarkP) : MarkP × Int := match G with
  | none => (zeroQ, 12)
  | some R => if mchkE R.k R.a R.n R.t = 0 then (R, 0) else (zeroQ, mchkE R.k R.a R.n R.t)
def getM (s : List UInt8) : MarkP × Int := getK (markL s)
theorem getK_ok {R : MarkP} (h : mchkE R.k R.a R.n R.t = 0) : getK (some R) = (R, 0) := by rw [getK, if_pos h]
theorem getK_bad {R : MarkP} (h : mchkE R.k R.a R.n R.t ≠ 0) : getK (some R) = (zeroQ, mchkE R.k R.a R.n R.t) := by rw [getK, if_neg h]
theorem markL_props {s : List UInt8} {R : MarkP} (h : markL s = some R) : R.k < 10 ∧ R.a.length ≤ s.length ∧ R.t.length ≤ s.length ∧ R.n < 1000000000000000 ∧ R.T < big := by
  unfold markL at h
  split at h
  · cases h
  · rename_i T r0 hi
    have h0 := idL_len hi
    unfold markL1 at h
    split at h
    · cases h
    · rename_i k r1 hp
      have h1 := digL_len hp
      unfold markL2 at h
      split at h
      · cases h
      · rename_i a r2 ha
        have h2 := takeL_len ha
        unfold markL3 at h
        split at h
        · cases h
        · rename_i n r3 hn
          have h3 := numL_len hn
          unfold markL4 at h
          split at h
          · cases h
          · rename_i t ht
            injection h with h
            subst h
            have h4 : t.length ≤ r3.length := by
              unfold textL at ht
              split at ht
              · injection ht with ht; subst ht; rw [List.length_drop]; omega
              · cases ht
            exact ⟨h1.2.1, by show a.length ≤ s.length; omega, by show t.length ≤ s.length; omega, h3.2, h0.2⟩
set_option maxHeartbeats 6400000 in
set_option maxRecDepth 100000 in
theorem VGetMark_any (A : Option Addr) (c : Nat) (l : List UInt8) (hl : l.length ≤ 100000) (w : World) (h : Lies w A (bytesV l)) :
    Calls Tryz.prog 132 #[.slice A l.length c] w fun e w' => e = .returned (.tuple #[.agg (markC (getM l).1.T (getM l).1.k (getM l).1.a (getM l).1.n (getM l).1.t), .int .i64 (getM l).2]) ∧ Fr (fun _ => False) w w' := by
  have hmf : ∀ (fn : Fn) (first cap : Array Value) (w : World), (Instr.makeFunc fn first cap).run Tryz.prog w = .ok (.func fn first cap) w := fun _ _ _ _ => rfl
  obtain ⟨w1, hw1⟩ : ∃ w1, w.alloc (.cells zeroMk 192) = w1 := ⟨_, rfl⟩
  obtain ⟨w2, hw2⟩ : ∃ w2, w1.alloc (.cells #[.int .i64 0] 27) = w2 := ⟨_, rfl⟩
  obtain ⟨w3, hw3⟩ : ∃ w3, w2.alloc (.cells #[.string (strB l)] 249) = w3 := ⟨_, rfl⟩
  have hF1 : Fr (fun _ => False) w w1 := by subst hw1; exact (Fr.refl _ w).alloc _
  have hF2 : Fr (fun _ => False) w1 w2 := by subst hw2; exact (Fr.refl _ w1).alloc _
  have hF3 : Fr (fun _ => False) w2 w3 := by subst hw3; exact (Fr.refl _ w2).alloc _
  have hsz1 : w1.heap.size = w.heap.size + 1 := by subst hw1; exact alloc_size _ _
  have hsz2 : w2.heap.size = w.heap.size + 2 := by subst hw2; rw [alloc_size]; omega
  have HSZ : Hid (w3.heap.size = w.heap.size + 3) := Lib.hid (by subst hw3; rw [alloc_size]; omega)
  have hC : Whole w1 w.heap.size 192 zeroMk := by subst hw1; exact Whole.new w _ _
  have hE : Whole w2 w1.heap.size 27 #[.int .i64 0] := by subst hw2; exact Whole.new w1 _ _
  have hL : LinesAt w3 w2.heap.size l := by subst hw3; exact Whole.new w2 _ _
  have HC3 := Lib.hid ((hC.fr hF2 (fun e => e)).fr hF3 (fun e => e))
  have HE3 := Lib.hid (hE.fr hF3 (fun e => e))
  have HF := Lib.hid ((hF1.trans hF2 (fun _ _ e => e)).trans hF3 (fun _ _ e => e))
  have HTR := Lib.hid (VtakeMark_any w2.heap.size l hl w3 hL)
  have cv := run_convert_lies 25 9 5 Tryz.underlying25 Tryz.underlying5 Tryz.underlying9 (h.fr (hF1.trans hF2 (fun _ _ e => e)) (fun _ _ e => e)) c
  rw [hsz1] at HE3
  rw [hsz2] at HTR
  rw [getM]
  obtain ⟨S, hS⟩ : ∃ S, strB l = S := ⟨_, rfl⟩
  obtain ⟨n, hn⟩ : ∃ n, l.length = n := ⟨_, rfl⟩
  rw [hS] at cv hw3
  rw [hn] at cv ⊢
  unfold zeroMk at hw1
  simp [List.replicate] at hw1
  clear hS hF1 hF2 hF3 hC hE hL h
  cases hG : markL l with
  | none =>
    rw [hG] at HTR
    clear hG
    go_enter_defers Tryz.func132, Tryz.ntmps132
    go_wp2_with (go_at_call 153; refine HTR.out.mono ?_; rintro e w4 ⟨rfl, f4⟩)
    refine leaves_cons (f := 152) (args := #[.pointer (some ⟨w.heap.size, 0, none⟩), .pointer (some ⟨w.heap.size + 1, 0, none⟩)]) (by simp) (by simp [go_sem]) ?_
    refine (catchM_panicking w.heap.size (w.heap.size + 1) (by omega) 27 _ [] zeroMk rfl 0 w4 (HC3.out.fr f4 (fun e => by omega)) (HE3.out.fr f4 (fun e => by omega))).mono ?_
    rintro e u' w5 ⟨rfl, rfl, hc5, he5, f5⟩
    show Leaves _ _ _ _ [] FrameMode.returning _
    refine ⟨.tuple #[.agg zeroMk, .int .i64 12], results_cells rfl _ _ _ _ _ _ _ _ _ _ rfl hc5 rfl he5 Tryz.underlying192 rfl size36m (load_errno he5), by rw [zeroM_eq]; rfl, ?_⟩
    exact (HF.out.trans f4 (fun i hi e => by omega)).trans f5 (fun i hi e => by rcases e with e | e <;> omega)
  | some R =>
    rw [hG] at HTR
    have hpr := markL_props hG
    clear hG
    have HCK := Lib.hid (fun (w5 : World) => VCheckMark_any R.T R.k R.a R.n R.t (by omega) (by omega) w5)
    have HG0 := Lib.hid (fun h => getK_ok (R := R) h)
    have HG1 := Lib.hid (fun h => getK_bad (R := R) h)
    have hrs := markC_size R.T R.k R.a R.n R.t
    have hro := markC_one R.T R.k R.a R.n R.t
    have HBZ := Lib.hid zeroM_build
    obtain ⟨r, hr⟩ : ∃ r, mchkE R.k R.a R.n R.t = r := ⟨_, rfl⟩
    rw [hr] at HCK HG0 HG1
    have HTR2 : Hid (Calls Tryz.prog 153 #[.pointer (some ⟨w.heap.size + 2, 0, none⟩)] w3 fun e w' => e = .returned (.agg (markC R.T R.k R.a R.n R.t)) ∧ Fr (fun k => k = w.heap.size + 2) w3 w') := HTR
    clear HTR
    obtain ⟨cr, hcr⟩ : ∃ c, markC R.T R.k R.a R.n R.t = c := ⟨_, rfl⟩
    rw [hcr] at hrs hro HCK HTR2
    have HCR := Lib.hid hcr
    clear hr hpr hcr
    by_cases hr0 : r = 0
    · subst hr0
      go_enter_defers Tryz.func132, Tryz.ntmps132
      go_wp2_with (first
        | (go_at_call 153; refine HTR2.out.mono ?_; rintro e w4 ⟨rfl, f4⟩
           have C4 := Lib.hid (HC3.out.fr f4 (fun e => by omega))
           have E4 := Lib.hid (HE3.out.fr f4 (fun e => by omega))
           have F4 := Lib.hid (HF.out.trans f4 (fun i hi e => by omega))
           clear f4)
        | (refine wpList_store_at rfl 192 _ _ rfl w.heap.size 0 192 zeroMk cr rfl rfl C4.out (by rw [hrs]; decide) (by rw [hrs]; exact size36m) hro ?_
           intro w5 hw5 hf5
           rw [laidAt_all _ _ (by rw [hrs]; rfl)] at hw5
           have C5 := Lib.hid hw5
           have E5 := Lib.hid (E4.out.fr hf5 (fun e => by omega))
           have F5 := Lib.hid (F4.out.trans hf5 (fun i hi e => by omega))
           clear hw5 hf5)
        | (refine wpList_load_row rfl 192 _ rfl _ rfl 192 _ _ _ C5.out Tryz.underlying192 rfl (by rw [hrs]; exact size36m) ?_)
        | (go_at_call 154; refine (HCK.out w5).mono ?_; rintro e w6 ⟨rfl, b6⟩
           have C6 := Lib.hid (C5.out.fr (Fr.of_below (S := fun _ => False) b6) (fun e => e))
           have E6 := Lib.hid (E5.out.fr (Fr.of_below (S := fun _ => False) b6) (fun e => e))
           have c6 := E6.out.cell 0
           rw [show (#[Value.int IntKind.i64 0])[0]? = some (Value.int IntKind.i64 0) from rfl] at c6
           have z6 := E6.out.frozen 0
           have F6 := Lib.hid (F5.out.then_below b6)
           clear b6))
      obtain ⟨wb, hwb⟩ : ∃ wb, w6.setCell ⟨w.heap.size + 1, 0, none⟩ (.int .i64 0) = wb := ⟨_, rfl⟩
      have f7 : Fr (fun k => k = w.heap.size + 1) w6 wb := by rw [← hwb]; exact Fr.setCell (S := fun k => k = w.heap.size + 1) (p := ⟨w.heap.size + 1, 0, none⟩) (Fr.refl _ w6) (fun _ => rfl) _
      have HSB : Hid (Whole wb.drew w.heap.size 192 cr ∧ Whole wb.drew (w.heap.size + 1) 27 #[.int .i64 0] ∧ Fr (fun k => k = w.heap.size ∨ k = w.heap.size + 1) wb wb.drew) := Lib.hid ⟨C6.out.fr f7.drew (fun e => by omega), by have := E6.out.set 0 (.int .i64 0); rw [hwb] at this; exact this, (Fr.refl _ wb).drew⟩
      have FB := Lib.hid (F6.out.trans f7 (fun i hi e => by omega))
      rw [hwb]
      have hfs := hrs
      have hfo := hro
      clear hwb f7
      have HEND : Hid (∀ w9, Whole w9 w.heap.size 192 cr ∧ Whole w9 (w.heap.size + 1) 27 #[.int .i64 0] ∧ Fr (fun k => k = w.heap.size ∨ k = w.heap.size + 1) wb w9 → (Ending.returned (.tuple #[.agg cr, .int .i64 0]) : Ending) = Ending.returned (.tuple #[.agg (markC (getK (some R)).1.T (getK (some R)).1.k (getK (some R)).1.a (getK (some R)).1.n (getK (some R)).1.t), .int .i64 (getK (some R)).2]) ∧ Fr (fun _ => False) w w9) := Lib.hid (fun w9 hS => by
        rw [HG0.out (by first | rfl | trivial)]
        exact ⟨by rw [← HCR.out], FB.out.trans hS.2.2 (fun i hi e => by rcases e with e | e <;> omega)⟩)
      (
        refine wp_region_held (S := fun w' => Whole w' w.heap.size 192 cr ∧ Whole w' (w.heap.size + 1) 27 #[.int .i64 0] ∧ Fr (fun k => k = w.heap.size ∨ k = w.heap.size + 1) wb w') (by kernel_rfl) ?_
        (
          refine wpAnyH_all (rs := [0, 1]) (by kernel_rfl) (by simp) ?_
          intro i hi
          simp only [List.mem_cons, List.not_mem_nil, or_false] at hi
          rcases hi with hi | hi <;> subst hi)
        · (
          refine wpOp_step rfl (fun K hK => ?_)
          rw [if_pos (by kernel_rfl)]
          refine wp_load_row 192 (.tmp 2) rfl w.heap.size (by kernel_rfl) 192 cr _ _ HSB.out.1 Tryz.underlying192 rfl (by rw [hfs]; exact size36m) ?_
          refine hK _ _ ⟨HSB.out, ?_⟩
          clear hK K)
          (
            refine wpAnyH_all (rs := [1, 2]) (by kernel_rfl) (by simp) ?_
            intro i hi
            simp only [List.mem_cons, List.not_mem_nil, or_false] at hi
            rcases hi with hi | hi <;> subst hi)
          · (
            refine wpOp_step rfl (fun K hK => ?_)
            have cz := HSB.out.2.1.cell 0
            rw [show (#[Value.int IntKind.i64 0])[0]? = some (Value.int IntKind.i64 0) from rfl] at cz
            go_simp
            refine hK _ _ ⟨HSB.out, ?_⟩
            clear hK K cz)
            (
              refine wpAnyH_all (rs := [2]) (by kernel_rfl) (by simp) ?_
              intro i hi
              simp only [List.mem_cons, List.not_mem_nil, or_false] at hi
              subst hi)
            (
              refine wpOp_step rfl (fun K hK => ?_)
              rw [if_pos (by kernel_rfl)]
              refine wp_store_at 192 (.tmp 2) (.tmp 15) rfl w.heap.size 0 192 cr cr (by kernel_rfl) (by kernel_rfl) HSB.out.1 (by omega) (by rw [hfs]; exact size36m) hfo ?_
              intro w7 hw7 hf7
              rw [laidAt_all _ _ rfl] at hw7
              have HS7 := Lib.hid (show Whole w7 w.heap.size 192 cr ∧ Whole w7 (w.heap.size + 1) 27 #[.int .i64 0] ∧ Fr (fun k => k = w.heap.size ∨ k = w.heap.size + 1) wb w7 from ⟨hw7, HSB.out.2.1.fr hf7 (fun e => by omega), HSB.out.2.2.trans hf7 (fun _ _ e => .inl e)⟩)
              clear hf7 hw7
              go_simp
              refine hK _ _ ⟨HS7.out, ?_⟩
              clear hK K)
            (
              refine wpAnyH_all (rs := [3]) (by kernel_rfl) (by simp) ?_
              intro i hi
              simp only [List.mem_cons, List.not_mem_nil, or_false] at hi
              subst hi)
            (
              refine wpOp_step rfl (fun K hK => ?_)
              have c7 := HS7.out.2.1.cell 0
              rw [show (#[Value.int IntKind.i64 0])[0]? = some (Value.int IntKind.i64 0) from rfl] at c7
              have z7 := HS7.out.2.1.frozen 0
              have f8 : Fr (fun k => k = w.heap.size + 1) w7 (w7.setCell ⟨w.heap.size + 1, 0, none⟩ (.int .i64 0)) := Fr.setCell (S := fun k => k = w.heap.size + 1) (p := ⟨w.heap.size + 1, 0, none⟩) (Fr.refl _ w7) (fun _ => rfl) _
              have HS8 := Lib.hid (show Whole (w7.setCell ⟨w.heap.size + 1, 0, none⟩ (.int .i64 0)) w.heap.size 192 cr ∧ Whole (w7.setCell ⟨w.heap.size + 1, 0, none⟩ (.int .i64 0)) (w.heap.size + 1) 27 #[.int .i64 0] ∧ Fr (fun k => k = w.heap.size ∨ k = w.heap.size + 1) wb (w7.setCell ⟨w.heap.size + 1, 0, none⟩ (.int .i64 0)) from ⟨HS7.out.1.fr f8 (fun e => by omega), HS7.out.2.1.set 0 (.int .i64 0), HS7.out.2.2.trans f8 (fun _ _ e => .inr e)⟩)
              clear f8
              go_simp
              refine hK _ _ ⟨HS8.out, ?_⟩
              clear hK K
              refine wpAnyH_done (by kernel_rfl) ?_ _
              go_wp2_with fail
              refine leaves_cons (f := 152) (args := #[.pointer (some ⟨w.heap.size, 0, none⟩), .pointer (some ⟨w.heap.size + 1, 0, none⟩)]) (by simp) (by simp [go_sem]) ?_
              refine (catchM_idle ⟨w.heap.size, 0, none⟩ ⟨w.heap.size + 1, 0, none⟩ _).mono ?_
              rintro e u' w9 ⟨rfl, rfl, rfl⟩
              show Leaves _ _ _ _ [] FrameMode.returning _)
            exact ⟨_, results_cells rfl _ _ _ _ _ _ _ _ _ _ rfl HS8.out.1 rfl HS8.out.2.1 Tryz.underlying192 rfl (by rw [hfs]; exact size36m) (load_errno HS8.out.2.1), HEND.out _ HS8.out⟩
          · (
            refine wpOp_step rfl (fun K hK => ?_)
            rw [if_pos (by kernel_rfl)]
            refine wp_store_at 192 (.tmp 2) (.tmp 15) rfl w.heap.size 0 192 cr cr (by kernel_rfl) (by kernel_rfl) HSB.out.1 (by omega) (by rw [hfs]; exact size36m) hfo ?_
            intro w7 hw7 hf7
            rw [laidAt_all _ _ rfl] at hw7
            have HS7 := Lib.hid (show Whole w7 w.heap.size 192 cr ∧ Whole w7 (w.heap.size + 1) 27 #[.int .i64 0] ∧ Fr (fun k => k = w.heap.size ∨ k = w.heap.size + 1) wb w7 from ⟨hw7, HSB.out.2.1.fr hf7 (fun e => by omega), HSB.out.2.2.trans hf7 (fun _ _ e => .inl e)⟩)
            clear hf7 hw7
            go_simp
            refine hK _ _ ⟨HS7.out, ?_⟩
            clear hK K)
            (
              refine wpAnyH_all (rs := [1]) (by kernel_rfl) (by simp) ?_
              intro i hi
              simp only [List.mem_cons, List.not_mem_nil, or_false] at hi
              subst hi)
            (
              refine wpOp_step rfl (fun K hK => ?_)
              have cz := HS7.out.2.1.cell 0
              rw [show (#[Value.int IntKind.i64 0])[0]? = some (Value.int IntKind.i64 0) from rfl] at cz
              go_simp
              refine hK _ _ ⟨HS7.out, ?_⟩
              clear hK K cz)
            (
              refine wpAnyH_all (rs := [3]) (by kernel_rfl) (by simp) ?_
              intro i hi
              simp only [List.mem_cons, List.not_mem_nil, or_false] at hi
              subst hi)
            (
              refine wpOp_step rfl (fun K hK => ?_)
              have c7 := HS7.out.2.1.cell 0
              rw [show (#[Value.int IntKind.i64 0])[0]? = some (Value.int IntKind.i64 0) from rfl] at c7
              have z7 := HS7.out.2.1.frozen 0
              have f8 : Fr (fun k => k = w.heap.size + 1) w7 (w7.setCell ⟨w.heap.size + 1, 0, none⟩ (.int .i64 0)) := Fr.setCell (S := fun k => k = w.heap.size + 1) (p := ⟨w.heap.size + 1, 0, none⟩) (Fr.refl _ w7) (fun _ => rfl) _
              have HS8 := Lib.hid (show Whole (w7.setCell ⟨w.heap.size + 1, 0, none⟩ (.int .i64 0)) w.heap.size 192 cr ∧ Whole (w7.setCell ⟨w.heap.size + 1, 0, none⟩ (.int .i64 0)) (w.heap.size + 1) 27 #[.int .i64 0] ∧ Fr (fun k => k = w.heap.size ∨ k = w.heap.size + 1) wb (w7.setCell ⟨w.heap.size + 1, 0, none⟩ (.int .i64 0)) from ⟨HS7.out.1.fr f8 (fun e => by omega), HS7.out.2.1.set 0 (.int .i64 0), HS7.out.2.2.trans f8 (fun _ _ e => .inr e)⟩)
              clear f8
              go_simp
              refine hK _ _ ⟨HS8.out, ?_⟩
              clear hK K
              refine wpAnyH_done (by kernel_rfl) ?_ _
              go_wp2_with fail
              refine leaves_cons (f := 152) (args := #[.pointer (some ⟨w.heap.size, 0, none⟩), .pointer (some ⟨w.heap.size + 1, 0, none⟩)]) (by simp) (by simp [go_sem]) ?_
              refine (catchM_idle ⟨w.heap.size, 0, none⟩ ⟨w.heap.size + 1, 0, none⟩ _).mono ?_
              rintro e u' w9 ⟨rfl, rfl, rfl⟩
              show Leaves _ _ _ _ [] FrameMode.returning _)
            exact ⟨_, results_cells rfl _ _ _ _ _ _ _ _ _ _ rfl HS8.out.1 rfl HS8.out.2.1 Tryz.underlying192 rfl (by rw [hfs]; exact size36m) (load_errno HS8.out.2.1), HEND.out _ HS8.out⟩
        · (
          refine wpOp_step rfl (fun K hK => ?_)
          have cz := HSB.out.2.1.cell 0
          rw [show (#[Value.int IntKind.i64 0])[0]? = some (Value.int IntKind.i64 0) from rfl] at cz
          go_simp
          refine hK _ _ ⟨HSB.out, ?_⟩
          clear hK K cz)
          (
            refine wpAnyH_all (rs := [0]) (by kernel_rfl) (by simp) ?_
            intro i hi
            simp only [List.mem_cons, List.not_mem_nil, or_false] at hi
            subst hi)
          (
            refine wpOp_step rfl (fun K hK => ?_)
            rw [if_pos (by kernel_rfl)]
            refine wp_load_row 192 (.tmp 2) rfl w.heap.size (by kernel_rfl) 192 cr _ _ HSB.out.1 Tryz.underlying192 rfl (by rw [hfs]; exact size36m) ?_
            refine hK _ _ ⟨HSB.out, ?_⟩
            clear hK K)
          (
            refine wpAnyH_all (rs := [2]) (by kernel_rfl) (by simp) ?_
            intro i hi
            simp only [List.mem_cons, List.not_mem_nil, or_false] at hi
            subst hi)
          (
            refine wpOp_step rfl (fun K hK => ?_)
            rw [if_pos (by kernel_rfl)]
            refine wp_store_at 192 (.tmp 2) (.tmp 15) rfl w.heap.size 0 192 cr cr (by kernel_rfl) (by kernel_rfl) HSB.out.1 (by omega) (by rw [hfs]; exact size36m) hfo ?_
            intro w7 hw7 hf7
            rw [laidAt_all _ _ rfl] at hw7
            have HS7 := Lib.hid (show Whole w7 w.heap.size 192 cr ∧ Whole w7 (w.heap.size + 1) 27 #[.int .i64 0] ∧ Fr (fun k => k = w.heap.size ∨ k = w.heap.size + 1) wb w7 from ⟨hw7, HSB.out.2.1.fr hf7 (fun e => by omega), HSB.out.2.2.trans hf7 (fun _ _ e => .inl e)⟩)
            clear hf7 hw7
            go_simp
            refine hK _ _ ⟨HS7.out, ?_⟩
            clear hK K)
          (
            refine wpAnyH_all (rs := [3]) (by kernel_rfl) (by simp) ?_
            intro i hi
            simp only [List.mem_cons, List.not_mem_nil, or_false] at hi
            subst hi)
          (
            refine wpOp_step rfl (fun K hK => ?_)
            have c7 := HS7.out.2.1.cell 0
            rw [show (#[Value.int IntKind.i64 0])[0]? = some (Value.int IntKind.i64 0) from rfl] at c7
            have z7 := HS7.out.2.1.frozen 0
            have f8 : Fr (fun k => k = w.heap.size + 1) w7 (w7.setCell ⟨w.heap.size + 1, 0, none⟩ (.int .i64 0)) := Fr.setCell (S := fun k => k = w.heap.size + 1) (p := ⟨w.heap.size + 1, 0, none⟩) (Fr.refl _ w7) (fun _ => rfl) _
            have HS8 := Lib.hid (show Whole (w7.setCell ⟨w.heap.size + 1, 0, none⟩ (.int .i64 0)) w.heap.size 192 cr ∧ Whole (w7.setCell ⟨w.heap.size + 1, 0, none⟩ (.int .i64 0)) (w.heap.size + 1) 27 #[.int .i64 0] ∧ Fr (fun k => k = w.heap.size ∨ k = w.heap.size + 1) wb (w7.setCell ⟨w.heap.size + 1, 0, none⟩ (.int .i64 0)) from ⟨HS7.out.1.fr f8 (fun e => by omega), HS7.out.2.1.set 0 (.int .i64 0), HS7.out.2.2.trans f8 (fun _ _ e => .inr e)⟩)
            clear f8
            go_simp
            refine hK _ _ ⟨HS8.out, ?_⟩
            clear hK K
            refine wpAnyH_done (by kernel_rfl) ?_ _
            go_wp2_with fail
            refine leaves_cons (f := 152) (args := #[.pointer (some ⟨w.heap.size, 0, none⟩), .pointer (some ⟨w.heap.size + 1, 0, none⟩)]) (by simp) (by simp [go_sem]) ?_
            refine (catchM_idle ⟨w.heap.size, 0, none⟩ ⟨w.heap.size + 1, 0, none⟩ _).mono ?_
            rintro e u' w9 ⟨rfl, rfl, rfl⟩
            show Leaves _ _ _ _ [] FrameMode.returning _)
          exact ⟨_, results_cells rfl _ _ _ _ _ _ _ _ _ _ rfl HS8.out.1 rfl HS8.out.2.1 Tryz.underlying192 rfl (by rw [hfs]; exact size36m) (load_errno HS8.out.2.1), HEND.out _ HS8.out⟩)
    · have hrz : (r == 0) = false := by simp [hr0]
      have HBad := Lib.hid (HG1.out hr0)
      go_enter_defers Tryz.func132, Tryz.ntmps132
      go_wp2_with (first
        | (go_at_call 153; refine HTR2.out.mono ?_; rintro e w4 ⟨rfl, f4⟩
           have C4 := Lib.hid (HC3.out.fr f4 (fun e => by omega))
           have E4 := Lib.hid (HE3.out.fr f4 (fun e => by omega))
           have F4 := Lib.hid (HF.out.trans f4 (fun i hi e => by omega))
           clear f4)
        | (refine wpList_build_to rfl 192 _ rfl #[] (by first | rfl | simp [Act.eval]) (.agg zeroMk) (HBZ.out _) ?_)
        | (have _ := M7
           refine wpList_store_at rfl 192 _ _ rfl w.heap.size 0 192 cr zeroMk rfl rfl K7.out.1 (by rw [hrs]; decide) size36m zeroM_one ?_
           intro w8 hw8 hf8
           rw [laidAt_all _ _ (by rw [hrs]; rfl)] at hw8
           have K8 := Lib.hid (show Whole w8 w.heap.size 192 zeroMk ∧ Whole w8 (w.heap.size + 1) 27 #[.int .i64 r] ∧ Fr (fun _ => False) w w8 from ⟨hw8, K7.out.2.1.fr hf8 (fun e => by omega), K7.out.2.2.trans hf8 (fun i hi e => by omega)⟩)
           clear hw8 hf8)
        | (refine wpList_store_at rfl 192 _ _ rfl w.heap.size 0 192 zeroMk cr rfl rfl C4.out (by rw [hrs]; decide) (by rw [hrs]; exact size36m) hro ?_
           intro w5 hw5 hf5
           rw [laidAt_all _ _ (by rw [hrs]; rfl)] at hw5
           have C5 := Lib.hid hw5
           have E5 := Lib.hid (E4.out.fr hf5 (fun e => by omega))
           have F5 := Lib.hid (F4.out.trans hf5 (fun i hi e => by omega))
           clear hw5 hf5)
        | (refine wpList_load_row rfl 192 _ rfl _ rfl 192 _ _ _ C5.out Tryz.underlying192 rfl (by rw [hrs]; exact size36m) ?_)
        | (go_at_call 154; refine (HCK.out w5).mono ?_; rintro e w6 ⟨rfl, b6⟩
           have C6 := Lib.hid (C5.out.fr (Fr.of_below (S := fun _ => False) b6) (fun e => e))
           have E6 := Lib.hid (E5.out.fr (Fr.of_below (S := fun _ => False) b6) (fun e => e))
           have c6 := E6.out.cell 0
           rw [show (#[Value.int IntKind.i64 0])[0]? = some (Value.int IntKind.i64 0) from rfl] at c6
           have z6 := E6.out.frozen 0
           have f7 : Fr (fun k => k = w.heap.size + 1) w6 (w6.setCell ⟨w.heap.size + 1, 0, none⟩ (.int .i64 r)) := Fr.setCell (S := fun k => k = w.heap.size + 1) (p := ⟨w.heap.size + 1, 0, none⟩) (Fr.refl _ w6) (fun _ => rfl) _
           have K7 := Lib.hid (show Whole (w6.setCell ⟨w.heap.size + 1, 0, none⟩ (.int .i64 r)) w.heap.size 192 cr ∧ Whole (w6.setCell ⟨w.heap.size + 1, 0, none⟩ (.int .i64 r)) (w.heap.size + 1) 27 #[.int .i64 r] ∧ Fr (fun _ => False) w (w6.setCell ⟨w.heap.size + 1, 0, none⟩ (.int .i64 r)) from ⟨C6.out.fr f7 (fun e => by omega), E6.out.set 0 (.int .i64 r), (F5.out.then_below b6).trans f7 (fun i hi e => by omega)⟩)
           have M7 := True.intro
           clear b6 f7))
      have HSB : Hid (Whole w8.drew w.heap.size 192 zeroMk ∧ Whole w8.drew (w.heap.size + 1) 27 #[.int .i64 r] ∧ Fr (fun k => k = w.heap.size ∨ k = w.heap.size + 1) w8 w8.drew) := Lib.hid ⟨K8.out.1, K8.out.2.1, (Fr.refl _ w8).drew⟩
      obtain ⟨wb, hwb⟩ : ∃ wb, w8 = wb := ⟨_, rfl⟩
      rw [hwb] at HSB K8 ⊢
      have hfs := zeroM_size
      have hfo := zeroM_one
      clear hwb
      have HEND : Hid (∀ w9, Whole w9 w.heap.size 192 zeroMk ∧ Whole w9 (w.heap.size + 1) 27 #[.int .i64 r] ∧ Fr (fun k => k = w.heap.size ∨ k = w.heap.size + 1) wb w9 → (Ending.returned (.tuple #[.agg zeroMk, .int .i64 r]) : Ending) = Ending.returned (.tuple #[.agg (markC (getK (some R)).1.T (getK (some R)).1.k (getK (some R)).1.a (getK (some R)).1.n (getK (some R)).1.t), .int .i64 (getK (some R)).2]) ∧ Fr (fun _ => False) w w9) := Lib.hid (fun w9 hS => by
        rw [HBad.out]
        exact ⟨by rw [zeroM_eq]; rfl, K8.out.2.2.trans hS.2.2 (fun i hi e => by rcases e with e | e <;> omega)⟩)
      (
        refine wp_region_held (S := fun w' => Whole w' w.heap.size 192 zeroMk ∧ Whole w' (w.heap.size + 1) 27 #[.int .i64 r] ∧ Fr (fun k => k = w.heap.size ∨ k = w.heap.size + 1) wb w') (by kernel_rfl) ?_
        (
          refine wpAnyH_all (rs := [0, 1]) (by kernel_rfl) (by simp) ?_
          intro i hi
          simp only [List.mem_cons, List.not_mem_nil, or_false] at hi
          rcases hi with hi | hi <;> subst hi)
        · (
          refine wpOp_step rfl (fun K hK => ?_)
          rw [if_pos (by kernel_rfl)]
          refine wp_load_row 192 (.tmp 2) rfl w.heap.size (by kernel_rfl) 192 zeroMk _ _ HSB.out.1 Tryz.underlying192 rfl (by rw [hfs]; exact size36m) ?_
          refine hK _ _ ⟨HSB.out, ?_⟩
          clear hK K)
          (
            refine wpAnyH_all (rs := [1, 2]) (by kernel_rfl) (by simp) ?_
            intro i hi
            simp only [List.mem_cons, List.not_mem_nil, or_false] at hi
            rcases hi with hi | hi <;> subst hi)
          · (
            refine wpOp_step rfl (fun K hK => ?_)
            have cz := HSB.out.2.1.cell 0
            rw [show (#[Value.int IntKind.i64 r])[0]? = some (Value.int IntKind.i64 r) from rfl] at cz
            go_simp
            refine hK _ _ ⟨HSB.out, ?_⟩
            clear hK K cz)
            (
              refine wpAnyH_all (rs := [2]) (by kernel_rfl) (by simp) ?_
              intro i hi
              simp only [List.mem_cons, List.not_mem_nil, or_false] at hi
              subst hi)
            (
              refine wpOp_step rfl (fun K hK => ?_)
              rw [if_pos (by kernel_rfl)]
              refine wp_store_at 192 (.tmp 2) (.tmp 15) rfl w.heap.size 0 192 zeroMk zeroMk (by kernel_rfl) (by kernel_rfl) HSB.out.1 (by omega) (by rw [hfs]; exact size36m) hfo ?_
              intro w7 hw7 hf7
              rw [laidAt_all _ _ rfl] at hw7
              have HS7 := Lib.hid (show Whole w7 w.heap.size 192 zeroMk ∧ Whole w7 (w.heap.size + 1) 27 #[.int .i64 r] ∧ Fr (fun k => k = w.heap.size ∨ k = w.heap.size + 1) wb w7 from ⟨hw7, HSB.out.2.1.fr hf7 (fun e => by omega), HSB.out.2.2.trans hf7 (fun _ _ e => .inl e)⟩)
              clear hf7 hw7
              go_simp
              refine hK _ _ ⟨HS7.out, ?_⟩
              clear hK K)
            (
              refine wpAnyH_all (rs := [3]) (by kernel_rfl) (by simp) ?_
              intro i hi
              simp only [List.mem_cons, List.not_mem_nil, or_false] at hi
              subst hi)
            (
              refine wpOp_step rfl (fun K hK => ?_)
              have c7 := HS7.out.2.1.cell 0
              rw [show (#[Value.int IntKind.i64 r])[0]? = some (Value.int IntKind.i64 r) from rfl] at c7
              have z7 := HS7.out.2.1.frozen 0
              have f8 : Fr (fun k => k = w.heap.size + 1) w7 (w7.setCell ⟨w.heap.size + 1, 0, none⟩ (.int .i64 r)) := Fr.setCell (S := fun k => k = w.heap.size + 1) (p := ⟨w.heap.size + 1, 0, none⟩) (Fr.refl _ w7) (fun _ => rfl) _
              have HS8 := Lib.hid (show Whole (w7.setCell ⟨w.heap.size + 1, 0, none⟩ (.int .i64 r)) w.heap.size 192 zeroMk ∧ Whole (w7.setCell ⟨w.heap.size + 1, 0, none⟩ (.int .i64 r)) (w.heap.size + 1) 27 #[.int .i64 r] ∧ Fr (fun k => k = w.heap.size ∨ k = w.heap.size + 1) wb (w7.setCell ⟨w.heap.size + 1, 0, none⟩ (.int .i64 r)) from ⟨HS7.out.1.fr f8 (fun e => by omega), HS7.out.2.1.set 0 (.int .i64 r), HS7.out.2.2.trans f8 (fun _ _ e => .inr e)⟩)
              clear f8
              go_simp
              refine hK _ _ ⟨HS8.out, ?_⟩
              clear hK K
              refine wpAnyH_done (by kernel_rfl) ?_ _
              go_wp2_with fail
              refine leaves_cons (f := 152) (args := #[.pointer (some ⟨w.heap.size, 0, none⟩), .pointer (some ⟨w.heap.size + 1, 0, none⟩)]) (by simp) (by simp [go_sem]) ?_
              refine (catchM_idle ⟨w.heap.size, 0, none⟩ ⟨w.heap.size + 1, 0, none⟩ _).mono ?_
              rintro e u' w9 ⟨rfl, rfl, rfl⟩
              show Leaves _ _ _ _ [] FrameMode.returning _)
            exact ⟨_, results_cells rfl _ _ _ _ _ _ _ _ _ _ rfl HS8.out.1 rfl HS8.out.2.1 Tryz.underlying192 rfl (by rw [hfs]; exact size36m) (load_errno HS8.out.2.1), HEND.out _ HS8.out⟩
          · (
            refine wpOp_step rfl (fun K hK => ?_)
            rw [if_pos (by kernel_rfl)]
            refine wp_store_at 192 (.tmp 2) (.tmp 15) rfl w.heap.size 0 192 zeroMk zeroMk (by kernel_rfl) (by kernel_rfl) HSB.out.1 (by omega) (by rw [hfs]; exact size36m) hfo ?_
            intro w7 hw7 hf7
            rw [laidAt_all _ _ rfl] at hw7
            have HS7 := Lib.hid (show Whole w7 w.heap.size 192 zeroMk ∧ Whole w7 (w.heap.size + 1) 27 #[.int .i64 r] ∧ Fr (fun k => k = w.heap.size ∨ k = w.heap.size + 1) wb w7 from ⟨hw7, HSB.out.2.1.fr hf7 (fun e => by omega), HSB.out.2.2.trans hf7 (fun _ _ e => .inl e)⟩)
            clear hf7 hw7
            go_simp
            refine hK _ _ ⟨HS7.out, ?_⟩
            clear hK K)
            (
              refine wpAnyH_all (rs := [1]) (by kernel_rfl) (by simp) ?_
              intro i hi
              simp only [List.mem_cons, List.not_mem_nil, or_false] at hi
              subst hi)
            (
              refine wpOp_step rfl (fun K hK => ?_)
              have cz := HS7.out.2.1.cell 0
              rw [show (#[Value.int IntKind.i64 r])[0]? = some (Value.int IntKind.i64 r) from rfl] at cz
              go_simp
              refine hK _ _ ⟨HS7.out, ?_⟩
              clear hK K cz)
            (
              refine wpAnyH_all (rs := [3]) (by kernel_rfl) (by simp) ?_
              intro i hi
              simp only [List.mem_cons, List.not_mem_nil, or_false] at hi
              subst hi)
            (
              refine wpOp_step rfl (fun K hK => ?_)
              have c7 := HS7.out.2.1.cell 0
              rw [show (#[Value.int IntKind.i64 r])[0]? = some (Value.int IntKind.i64 r) from rfl] at c7
              have z7 := HS7.out.2.1.frozen 0
              have f8 : Fr (fun k => k = w.heap.size + 1) w7 (w7.setCell ⟨w.heap.size + 1, 0, none⟩ (.int .i64 r)) := Fr.setCell (S := fun k => k = w.heap.size + 1) (p := ⟨w.heap.size + 1, 0, none⟩) (Fr.refl _ w7) (fun _ => rfl) _
              have HS8 := Lib.hid (show Whole (w7.setCell ⟨w.heap.size + 1, 0, none⟩ (.int .i64 r)) w.heap.size 192 zeroMk ∧ Whole (w7.setCell ⟨w.heap.size + 1, 0, none⟩ (.int .i64 r)) (w.heap.size + 1) 27 #[.int .i64 r] ∧ Fr (fun k => k = w.heap.size ∨ k = w.heap.size + 1) wb (w7.setCell ⟨w.heap.size + 1, 0, none⟩ (.int .i64 r)) from ⟨HS7.out.1.fr f8 (fun e => by omega), HS7.out.2.1.set 0 (.int .i64 r), HS7.out.2.2.trans f8 (fun _ _ e => .inr e)⟩)
              clear f8
              go_simp
              refine hK _ _ ⟨HS8.out, ?_⟩
              clear hK K
              refine wpAnyH_done (by kernel_rfl) ?_ _
              go_wp2_with fail
              refine leaves_cons (f := 152) (args := #[.pointer (some ⟨w.heap.size, 0, none⟩), .pointer (some ⟨w.heap.size + 1, 0, none⟩)]) (by simp) (by simp [go_sem]) ?_
              refine (catchM_idle ⟨w.heap.size, 0, none⟩ ⟨w.heap.size + 1, 0, none⟩ _).mono ?_
              rintro e u' w9 ⟨rfl, rfl, rfl⟩
              show Leaves _ _ _ _ [] FrameMode.returning _)
            exact ⟨_, results_cells rfl _ _ _ _ _ _ _ _ _ _ rfl HS8.out.1 rfl HS8.out.2.1 Tryz.underlying192 rfl (by rw [hfs]; exact size36m) (load_errno HS8.out.2.1), HEND.out _ HS8.out⟩
        · (
          refine wpOp_step rfl (fun K hK => ?_)
          have cz := HSB.out.2.1.cell 0
          rw [show (#[Value.int IntKind.i64 r])[0]? = some (Value.int IntKind.i64 r) from rfl] at cz
          go_simp
          refine hK _ _ ⟨HSB.out, ?_⟩
          clear hK K cz)
          (
            refine wpAnyH_all (rs := [0]) (by kernel_rfl) (by simp) ?_
            intro i hi
            simp only [List.mem_cons, List.not_mem_nil, or_false] at hi
            subst hi)
          (
            refine wpOp_step rfl (fun K hK => ?_)
            rw [if_pos (by kernel_rfl)]
            refine wp_load_row 192 (.tmp 2) rfl w.heap.size (by kernel_rfl) 192 zeroMk _ _ HSB.out.1 Tryz.underlying192 rfl (by rw [hfs]; exact size36m) ?_
            refine hK _ _ ⟨HSB.out, ?_⟩
            clear hK K)
          (
            refine wpAnyH_all (rs := [2]) (by kernel_rfl) (by simp) ?_
            intro i hi
            simp only [List.mem_cons, List.not_mem_nil, or_false] at hi
            subst hi)
          (
            refine wpOp_step rfl (fun K hK => ?_)
            rw [if_pos (by kernel_rfl)]
            refine wp_store_at 192 (.tmp 2) (.tmp 15) rfl w.heap.size 0 192 zeroMk zeroMk (by kernel_rfl) (by kernel_rfl) HSB.out.1 (by omega) (by rw [hfs]; exact size36m) hfo ?_
            intro w7 hw7 hf7
            rw [laidAt_all _ _ rfl] at hw7
            have HS7 := Lib.hid (show Whole w7 w.heap.size 192 zeroMk ∧ Whole w7 (w.heap.size + 1) 27 #[.int .i64 r] ∧ Fr (fun k => k = w.heap.size ∨ k = w.heap.size + 1) wb w7 from ⟨hw7, HSB.out.2.1.fr hf7 (fun e => by omega), HSB.out.2.2.trans hf7 (fun _ _ e => .inl e)⟩)
            clear hf7 hw7
            go_simp
            refine hK _ _ ⟨HS7.out, ?_⟩
            clear hK K)
          (
            refine wpAnyH_all (rs := [3]) (by kernel_rfl) (by simp) ?_
            intro i hi
            simp only [List.mem_cons, List.not_mem_nil, or_false] at hi
            subst hi)
          (
            refine wpOp_step rfl (fun K hK => ?_)
            have c7 := HS7.out.2.1.cell 0
            rw [show (#[Value.int IntKind.i64 r])[0]? = some (Value.int IntKind.i64 r) from rfl] at c7
            have z7 := HS7.out.2.1.frozen 0
            have f8 : Fr (fun k => k = w.heap.size + 1) w7 (w7.setCell ⟨w.heap.size + 1, 0, none⟩ (.int .i64 r)) := Fr.setCell (S := fun k => k = w.heap.size + 1) (p := ⟨w.heap.size + 1, 0, none⟩) (Fr.refl _ w7) (fun _ => rfl) _
            have HS8 := Lib.hid (show Whole (w7.setCell ⟨w.heap.size + 1, 0, none⟩ (.int .i64 r)) w.heap.size 192 zeroMk ∧ Whole (w7.setCell ⟨w.heap.size + 1, 0, none⟩ (.int .i64 r)) (w.heap.size + 1) 27 #[.int .i64 r] ∧ Fr (fun k => k = w.heap.size ∨ k = w.heap.size + 1) wb (w7.setCell ⟨w.heap.size + 1, 0, none⟩ (.int .i64 r)) from ⟨HS7.out.1.fr f8 (fun e => by omega), HS7.out.2.1.set 0 (.int .i64 r), HS7.out.2.2.trans f8 (fun _ _ e => .inr e)⟩)
            clear f8
            go_simp
            refine hK _ _ ⟨HS8.out, ?_⟩
            clear hK K
            refine wpAnyH_done (by kernel_rfl) ?_ _
            go_wp2_with fail
            refine leaves_cons (f := 152) (args := #[.pointer (some ⟨w.heap.size, 0, none⟩), .pointer (some ⟨w.heap.size + 1, 0, none⟩)]) (by simp) (by simp [go_sem]) ?_
            refine (catchM_idle ⟨w.heap.size, 0, none⟩ ⟨w.heap.size + 1, 0, none⟩ _).mono ?_
            rintro e u' w9 ⟨rfl, rfl, rfl⟩
            show Leaves _ _ _ _ [] FrameMode.returning _)
          exact ⟨_, results_cells rfl _ _ _ _ _ _ _ _ _ _ rfl HS8.out.1 rfl HS8.out.2.1 Tryz.underlying192 rfl (by rw [hfs]; exact size36m) (load_errno HS8.out.2.1), HEND.out _ HS8.out⟩)
end Go.Proofs.YtkaeoflgnnlbeaaGreatDoor

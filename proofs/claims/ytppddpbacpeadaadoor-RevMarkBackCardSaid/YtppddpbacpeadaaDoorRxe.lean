/- What is proved: all lines of a tag are taken, by the program, or it gives up. Conditions: the text is not too long. -/
import Derived.Test.YtppddpbacpeadaaDoorRwd
import Derived.Test.YtppddpbacpeadaaDoorRxc
namespace Go.Proofs.YtppddpbacpeadaaDoor
open Go.RowKit Go.Sort Go.Shelf
open Ids (idC dgt big idC_size idC_get idC_one cellD zero32 size32 dgt_lt hexB)
set_option linter.unusedVariables false

/-! What lines tell of a tag. -/
structure MarkP where
  T : Nat
  k : Nat
  a : List UInt8
  n : Nat
  t : List UInt8
def markL4 (T k : Nat) (a : List UInt8) (n : Nat) (r3 : List UInt8) : Option MarkP := match textL r3 with
  | none => none
  | some t => some ⟨T, k, a, n, t⟩
def markL3 (T k : Nat) (a r2 : List UInt8) : Option MarkP := match numL wTime r2 with
  | none => none
  | some (n, r3) => markL4 T k a n r3
def markL2 (T k : Nat) (r1 : List UInt8) : Option MarkP := match takeL wName r1 with
  | none => none
  | some (a, r2) => markL3 T k a r2
def markL1 (T : Nat) (r0 : List UInt8) : Option MarkP := match digL wKind r0 with
  | none => none
  | some (k, r1) => markL2 T k r1
def markL (s : List UInt8) : Option MarkP := match idL wObject s with
  | none => none
  | some (T, r0) => markL1 T r0
theorem digL_len {word s r : List UInt8} {n : Nat} (h : digL word s = some (n, r)) : r.length < s.length ∧ n < 10 ∧ numL word s = some (n, r) := by
  rcases hx : numL word s with _ | ⟨m, r'⟩
  · rw [digL, hx] at h; cases h
  · simp only [digL, hx] at h
    split at h
    · rename_i hm
      injection h with h
      injection h with h1 h2
      subst h1; subst h2
      exact ⟨(numL_len hx).1, hm, rfl⟩
    · cases h

/-! A tag's cells, one after another. -/
def zeroM : Array Value := (List.replicate 32 (Value.int .u8 0) ++ [Value.int .i64 0, Value.string ⟨#[]⟩, Value.int .i64 0, Value.string ⟨#[]⟩]).toArray
theorem zeroM_eq : zeroM = markC 0 0 [] 0 [] := by kernel_rfl
section
variable (T : Nat) (k : Int) (a : List UInt8) (n : Int) (t : List UInt8)
theorem markC_list : markC T k a n t = ((idC (dgt T)).toList ++ [Value.int .i64 k, .string (strB a), .int .i64 n, .string (strB t)]).toArray := by
  apply Array.toList_inj.1; simp [markC]
theorem markC_set (j : Nat) (u : Value) (hj : j < 4) : (markC T k a n t).setIfInBounds (32 + j) u = ((idC (dgt T)).toList ++ ([Value.int .i64 k, .string (strB a), .int .i64 n, .string (strB t)].set j u)).toArray := by
  apply Array.toList_inj.1
  rw [Array.toList_setIfInBounds, markC_list]
  have hl : (idC (dgt T)).toList.length = 32 := by rw [Array.length_toList, idC_size]
  simp only []
  rw [List.set_append_right _ _ (by rw [hl]; omega), hl, show 32 + j - 32 = j by omega]
theorem markC_set_k (m : Int) : (markC T k a n t).setIfInBounds 32 (.int .i64 m) = markC T m a n t := by rw [show 32 = 32 + 0 from rfl, markC_set _ _ _ _ _ 0 _ (by decide), markC_list]; rfl
theorem markC_set_a (b : List UInt8) : (markC T k a n t).setIfInBounds 33 (.string (strB b)) = markC T k b n t := by rw [show 33 = 32 + 1 from rfl, markC_set _ _ _ _ _ 1 _ (by decide), markC_list]; rfl
theorem markC_set_n (m : Int) : (markC T k a n t).setIfInBounds 34 (.int .i64 m) = markC T k a m t := by rw [show 34 = 32 + 2 from rfl, markC_set _ _ _ _ _ 2 _ (by decide), markC_list]; rfl
theorem markC_set_t (b : List UInt8) : (markC T k a n t).setIfInBounds 35 (.string (strB b)) = markC T k a n b := by rw [show 35 = 32 + 3 from rfl, markC_set _ _ _ _ _ 3 _ (by decide), markC_list]; rfl
theorem markC_laid (T' : Nat) : laidAt (markC T k a n t) 0 (idC (dgt T')) = markC T' k a n t := by
  apply Array.toList_inj.1
  rw [laidAt, markC_list, markC_list]
  have hl : (idC (dgt T)).toList.length = 32 := by rw [Array.length_toList, idC_size]
  simp [idC_size, hl]
end
section
variable {w : World} {g : Nat} {T : Nat} {k : Int} {a : List UInt8} {n : Int} {t : List UInt8}
theorem MarkAt.frozen (h : MarkAt w g T k a n t) (j : Nat) : w.frozen? ⟨g, j, none⟩ = false := Whole.frozen h j
theorem MarkAt.setK (h : MarkAt w g T k a n t) (m : Int) : MarkAt (w.setCell ⟨g, 32, none⟩ (.int .i64 m)) g T m a n t := by have := Whole.set h 32 (.int .i64 m); rwa [markC_set_k] at this
theorem MarkAt.setA (h : MarkAt w g T k a n t) (b : List UInt8) : MarkAt (w.setCell ⟨g, 33, none⟩ (.string (strB b))) g T k b n t := by have := Whole.set h 33 (.string (strB b)); rwa [markC_set_a] at this
theorem MarkAt.setN (h : MarkAt w g T k a n t) (m : Int) : MarkAt (w.setCell ⟨g, 34, none⟩ (.int .i64 m)) g T k a m t := by have := Whole.set h 34 (.int .i64 m); rwa [markC_set_n] at this
theorem MarkAt.setT (h : MarkAt w g T k a n t) (b : List UInt8) : MarkAt (w.setCell ⟨g, 35, none⟩ (.string (strB b))) g T k a n b := by have := Whole.set h 35 (.string (strB b)); rwa [markC_set_t] at this
end

/-- How taking a tag ends. -/
def MarkPost (g : Nat) (w : World) (G : Option MarkP) (e : Ending) (w' : World) : Prop := match G with
  | none => e = PC ∧ Fr (fun k => k = g) w w'
  | some R => e = .returned (.agg (markC R.T R.k R.a R.n R.t)) ∧ Fr (fun k => k = g) w w'
theorem MarkPost.gave {g : Nat} {w w' : World} {G : Option MarkP} {e : Ending} (h : G = none) (he : e = PC) (hf : Fr (fun k => k = g) w w') : MarkPost g w G e w' := by
  subst h; exact ⟨he, hf⟩
/-- What stands while lines are taken: what is left, and what has been told. -/
structure Tm (w2 wr : World) (g g3 : Nat) (s : List UInt8) (T : Nat) (k : Int) (a : List UInt8) (n : Int) (t : List UInt8) : Prop where
  fr : Fr (fun k => k = g ∨ k = g3) w2 wr
  left : LinesAt wr g s
  mark : MarkAt wr g3 T k a n t
section
variable {w2 wr w' : World} {g g3 : Nat} {s r : List UInt8} {T : Nat} {k : Int} {a : List UInt8} {n : Int} {t : List UInt8}
/-- A line is taken: only what is left turns. -/
theorem Tm.took (h : Tm w2 wr g g3 s T k a n t) (hne : g ≠ g3) (l : LinesAt w' g r) (f : Fr (fun k => k = g) wr w') : Tm w2 w' g g3 r T k a n t :=
  ⟨h.fr.trans f (fun _ _ e => .inl e), l, Whole.fr h.mark f (fun e => hne e.symm)⟩
theorem Tm.put (h : Tm w2 wr g g3 s T k a n t) (hne : g ≠ g3) {p : Addr} (hp : p.block = g3) (u : Value) {k' : Int} {a' : List UInt8} {n' : Int} {t' : List UInt8} (hr : MarkAt (wr.setCell p u) g3 T k' a' n' t') : Tm w2 (wr.setCell p u) g g3 s T k' a' n' t' := by
  have f : Fr (fun k => k = g3) wr (wr.setCell p u) := Fr.setCell (Fr.refl _ wr) (fun _ => hp) u
  exact ⟨h.fr.trans f (fun _ _ e => .inr e), Whole.fr h.left f hne, hr⟩
end

set_option maxHeartbeats 6400000 in
set_option maxRecDepth 100000 in
theorem VtakeMark_any (g : Nat) (s : List UInt8) (hs : s.length ≤ 100000) (w : World) (h : LinesAt w g s) :
    Calls Tryd.prog 45 #[.pointer (some ⟨g, 0, none⟩)] w (MarkPost g w (markL s)) := by
  obtain ⟨w1, hw1⟩ : ∃ w1, w.alloc (.cells zeroM 51) = w1 := ⟨_, rfl⟩
  obtain ⟨w2, hw2⟩ : ∃ w2, w1.alloc (.cells zeroM 51) = w2 := ⟨_, rfl⟩
  have hF1 : Fr (fun _ => False) w w1 := by subst hw1; exact (Fr.refl _ w).alloc _
  have hF2 : Fr (fun _ => False) w1 w2 := by subst hw2; exact (Fr.refl _ w1).alloc _
  have hR1 : Whole w1 w.heap.size 51 zeroM := by subst hw1; exact Whole.new w _ _
  have hR2 : Whole w2 w1.heap.size 51 zeroM := by subst hw2; exact Whole.new w1 _ _
  have hsz1 : w1.heap.size = w.heap.size + 1 := by subst hw1; exact alloc_size _ _
  have hsz2 : w2.heap.size = w.heap.size + 2 := by subst hw2; rw [alloc_size]; omega
  have hg : g < w.heap.size := Whole.lt h
  have HT0 : Hid (Tm w2 w2 g w1.heap.size s 0 0 [] 0 []) := Lib.hid ⟨Fr.refl _ _, (h.fr hF1).fr hF2, by rw [MarkAt, ← zeroM_eq]; exact hR2⟩
  have HR1 : Hid (Whole w2 w.heap.size 51 zeroM) := Lib.hid (hR1.fr hF2 (fun e => e))
  have HF := Lib.hid (hF1.trans hF2 (fun _ _ e => e))
  rw [hsz1] at HT0
  unfold zeroM at hw1 hw2
  simp [List.replicate] at hw1 hw2
  obtain ⟨G, hG⟩ : ∃ G, markL s = G := ⟨_, rfl⟩
  rw [hG]
  have HEnd : Hid (∀ w', Fr (fun k => k = g ∨ k = w.heap.size + 1) w2 w' → Fr (fun k => k = g) w w') := Lib.hid (fun w' f => (HF.out.mono (fun _ _ e => e.elim) : Fr (fun k => k = g) w w2).trans f (fun i hi e => by rcases e with e | e; exact e; omega))
  clear hF1 hF2 hR1 hR2 h
  cases hi : idL wObject s with
  | none =>
    have HN : Hid (G = none) := Lib.hid (by rw [← hG, markL, hi])
    have HI := Lib.hid (fun (l : LinesAt w2 g s) => Vlid_none g wObject s (by decide) (by decide) (by omega) hi w2 l)
    obtain ⟨W, hW⟩ : ∃ S, strB wObject = S := ⟨_, rfl⟩
    have hWc : ByteArray.mk #[111, 98, 106, 101, 99, 116] = W := hW
    rw [hW] at HI
    clear hG hi hW
    go_enter Tryd.func45, Tryd.ntmps45
    go_wp2_with (go_at_call 53; refine (HI.out HT0.out.left).mono ?_; rintro e w3 ⟨rfl, f3⟩)
    exact ⟨rfl, MarkPost.gave HN.out rfl ((HF.out.mono (fun _ _ e => e.elim) : Fr (fun k => k = g) w w2).trans f3 (fun _ _ e => e))⟩
  | some x =>
    obtain ⟨T, r0⟩ := x
    have hr0 := (idL_len hi).1
    have HI := Lib.hid (fun (l : LinesAt w2 g s) => Vlid_some g wObject s r0 T (by decide) (by decide) (by omega) hi w2 l)
    have HG1 : Hid (G = markL1 T r0) := Lib.hid (by rw [← hG, markL, hi])
    obtain ⟨W, hW⟩ : ∃ S, strB wObject = S := ⟨_, rfl⟩
    have hWc : ByteArray.mk #[111, 98, 106, 101, 99, 116] = W := hW
    obtain ⟨W2, hW2⟩ : ∃ S, strB wKind = S := ⟨_, rfl⟩
    have hWc2 : ByteArray.mk #[107, 105, 110, 100] = W2 := hW2
    obtain ⟨W3, hW3⟩ : ∃ S, strB wName = S := ⟨_, rfl⟩
    have hWc3 : ByteArray.mk #[110, 97, 109, 101] = W3 := hW3
    obtain ⟨W4, hW4⟩ : ∃ S, strB wTime = S := ⟨_, rfl⟩
    have hWc4 : ByteArray.mk #[116, 105, 109, 101] = W4 := hW4
    rw [hW] at HI
    have hcs := idC_size (dgt T)
    have hco := idC_one (dgt T)
    have HLD := Lib.hid (markC_laid 0 0 [] 0 [] T)
    obtain ⟨ct, hct⟩ : ∃ c, idC (dgt T) = c := ⟨_, rfl⟩
    rw [hct] at HI hcs hco HLD
    have hRS := markC_size 0 0 [] 0 []
    clear hG hi hW hct
    cases hk : digL wKind r0 with
    | none =>
      have HN : Hid (G = none) := Lib.hid (by rw [HG1.out, markL1, hk])
      have HK := Lib.hid (fun (w5 : World) (l : LinesAt w5 g r0) => Vldigit_none g wKind r0 (by decide) (by decide) (by omega) hk w5 l)
      rw [hW2] at HK
      clear hk
      go_enter Tryd.func45, Tryd.ntmps45
      go_wp2_with (first
        | (
          (go_at_call 53; refine (HI.out HT0.out.left).mono ?_; rintro e w3 ⟨rfl, l3, f3⟩
           have HT3 := Lib.hid (HT0.out.took (by omega) l3 f3)
           clear l3 f3))
        | (
          (refine wpList_store_at rfl 23 _ _ rfl (w.heap.size + 1) 0 51 _ ct rfl rfl HT3.out.mark (by rw [hRS, hcs]; decide) (by rw [hcs]; exact size32) hco ?_
           intro w4 hw4 hf4
           rw [HLD.out] at hw4
           have HT4 : Hid (Tm w2 w4 g (w.heap.size + 1) r0 T 0 [] 0 []) := Lib.hid ⟨HT3.out.fr.trans hf4 (fun _ _ e => .inr e), Whole.fr HT3.out.left hf4 (fun e => by omega), hw4⟩
           clear hw4 hf4))
        | (go_at_call 59; refine (HK.out _ HT4.out.left).mono ?_; rintro e w5 ⟨rfl, f5⟩))
      exact ⟨rfl, MarkPost.gave HN.out rfl (HEnd.out _ (HT4.out.fr.trans f5 (fun _ _ e => .inl e)))⟩
    | some xk =>
      obtain ⟨k, r1⟩ := xk
      have hl1 := (digL_len hk).1
      have HG2 : Hid (G = markL2 T k r1) := Lib.hid (by rw [HG1.out, markL1, hk])
      have HK := Lib.hid (fun (w5 : World) (l : LinesAt w5 g r0) => Vldigit_some g wKind r0 r1 k (by decide) (by decide) (by omega) hk w5 l)
      rw [hW2] at HK
      have HT5 := Lib.hid (fun (w4 w5 : World) (h : Tm w2 w4 g (w.heap.size + 1) r0 T 0 [] 0 []) (l5 : LinesAt w5 g r1) (f5 : Fr (fun k => k = g) w4 w5) => h.took (by omega) l5 f5)
      have HS5 := Lib.hid (fun (w5 : World) (h : Tm w2 w5 g (w.heap.size + 1) r1 T 0 [] 0 []) => (h.put (p := ⟨w.heap.size + 1, 32, none⟩) (by omega) rfl (.int .i64 k) (h.mark.setK k) : Tm w2 _ g (w.heap.size + 1) r1 T k [] 0 []))
      clear hk
      cases hta : takeL wName r1 with
      | none =>
        have HN : Hid (G = none) := Lib.hid (by rw [HG2.out, markL2, hta])
        have HC := Lib.hid (fun (w5 : World) (l : LinesAt w5 g r1) => Vltake_none g wName r1 (by decide) (by omega) hta w5 l)
        rw [hW3] at HC
        clear hta
        go_enter Tryd.func45, Tryd.ntmps45
        go_wp2_with (first
          | (
            (go_at_call 53; refine (HI.out HT0.out.left).mono ?_; rintro e w3 ⟨rfl, l3, f3⟩
             have HT3 := Lib.hid (HT0.out.took (by omega) l3 f3)
             clear l3 f3))
          | (
            (refine wpList_store_at rfl 23 _ _ rfl (w.heap.size + 1) 0 51 _ ct rfl rfl HT3.out.mark (by rw [hRS, hcs]; decide) (by rw [hcs]; exact size32) hco ?_
             intro w4 hw4 hf4
             rw [HLD.out] at hw4
             have HT4 : Hid (Tm w2 w4 g (w.heap.size + 1) r0 T 0 [] 0 []) := Lib.hid ⟨HT3.out.fr.trans hf4 (fun _ _ e => .inr e), Whole.fr HT3.out.left hf4 (fun e => by omega), hw4⟩
             clear hw4 hf4))
          | (
            (go_at_call 59; refine (HK.out _ HT4.out.left).mono ?_; rintro e w5 ⟨rfl, l5, f5⟩; have K5 := Lib.hid (HT5.out _ _ HT4.out l5 f5); have K6 := Lib.hid (HS5.out _ K5.out); have d5 := K5.out.mark.ck; have e5 := K5.out.mark.frozen 32; clear l5 f5))
          | (go_at_call 55; refine (HC.out _ K6.out.left).mono ?_; rintro e w7 ⟨rfl, b7⟩))
        exact ⟨rfl, MarkPost.gave HN.out rfl (HEnd.out _ (K6.out.fr.then_below b7))⟩
      | some xa =>
        obtain ⟨a, r2⟩ := xa
        have hl2 := takeL_len hta
        have HG3 : Hid (G = markL3 T k a r2) := Lib.hid (by rw [HG2.out, markL2, hta])
        have HC := Lib.hid (fun (w5 : World) (l : LinesAt w5 g r1) => Vltake_some g wName r1 a r2 (by decide) (by decide) (by omega) hta w5 l)
        rw [hW3] at HC
        have HT7 := Lib.hid (fun (w6 w7 : World) (h : Tm w2 w6 g (w.heap.size + 1) r1 T k [] 0 []) (l7 : LinesAt w7 g r2) (f7 : Fr (fun k => k = g) w6 w7) => h.took (by omega) l7 f7)
        have HS7 := Lib.hid (fun (w7 : World) (h : Tm w2 w7 g (w.heap.size + 1) r2 T k [] 0 []) => (h.put (p := ⟨w.heap.size + 1, 33, none⟩) (by omega) rfl (.string (strB a)) (h.mark.setA a) : Tm w2 _ g (w.heap.size + 1) r2 T k a 0 []))
        obtain ⟨Sa, hSa⟩ : ∃ S, strB a = S := ⟨_, rfl⟩
        rw [hSa] at HC HS7
        clear hta hSa
        cases htn : numL wTime r2 with
        | none =>
          have HN : Hid (G = none) := Lib.hid (by rw [HG3.out, markL3, htn])
          have HD := Lib.hid (fun (w5 : World) (l : LinesAt w5 g r2) => Vlnumber_none g wTime r2 (by decide) (by decide) (by omega) htn w5 l)
          rw [hW4] at HD
          clear htn
          go_enter Tryd.func45, Tryd.ntmps45
          go_wp2_with (first
            | (
              (go_at_call 53; refine (HI.out HT0.out.left).mono ?_; rintro e w3 ⟨rfl, l3, f3⟩
               have HT3 := Lib.hid (HT0.out.took (by omega) l3 f3)
               clear l3 f3))
            | (
              (refine wpList_store_at rfl 23 _ _ rfl (w.heap.size + 1) 0 51 _ ct rfl rfl HT3.out.mark (by rw [hRS, hcs]; decide) (by rw [hcs]; exact size32) hco ?_
               intro w4 hw4 hf4
               rw [HLD.out] at hw4
               have HT4 : Hid (Tm w2 w4 g (w.heap.size + 1) r0 T 0 [] 0 []) := Lib.hid ⟨HT3.out.fr.trans hf4 (fun _ _ e => .inr e), Whole.fr HT3.out.left hf4 (fun e => by omega), hw4⟩
               clear hw4 hf4))
            | (
              (go_at_call 59; refine (HK.out _ HT4.out.left).mono ?_; rintro e w5 ⟨rfl, l5, f5⟩; have K5 := Lib.hid (HT5.out _ _ HT4.out l5 f5); have K6 := Lib.hid (HS5.out _ K5.out); have d5 := K5.out.mark.ck; have e5 := K5.out.mark.frozen 32; clear l5 f5))
            | (
              (go_at_call 55; refine (HC.out _ K6.out.left).mono ?_; rintro e w7 ⟨rfl, l7, f7⟩; have K7 := Lib.hid (HT7.out _ _ K6.out l7 f7); have K8 := Lib.hid (HS7.out _ K7.out); have d7 := K7.out.mark.ca; have e7 := K7.out.mark.frozen 33; clear l7 f7))
            | (go_at_call 56; refine (HD.out _ K8.out.left).mono ?_; rintro e w9 ⟨rfl, f9⟩))
          exact ⟨rfl, MarkPost.gave HN.out rfl (HEnd.out _ (K8.out.fr.trans f9 (fun _ _ e => .inl e)))⟩
        | some xn =>
          obtain ⟨n, r3⟩ := xn
          have hl3 := numL_len htn
          have HG4 : Hid (G = markL4 T k a n r3) := Lib.hid (by rw [HG3.out, markL3, htn])
          have HD := Lib.hid (fun (w5 : World) (l : LinesAt w5 g r2) => Vlnumber_some g wTime r2 r3 n (by decide) (by decide) (by omega) htn w5 l)
          rw [hW4] at HD
          have HT9 := Lib.hid (fun (w6 w7 : World) (h : Tm w2 w6 g (w.heap.size + 1) r2 T k a 0 []) (l7 : LinesAt w7 g r3) (f7 : Fr (fun k => k = g) w6 w7) => h.took (by omega) l7 f7)
          have HS9 := Lib.hid (fun (w7 : World) (h : Tm w2 w7 g (w.heap.size + 1) r3 T k a 0 []) => (h.put (p := ⟨w.heap.size + 1, 34, none⟩) (by omega) rfl (.int .i64 n) (h.mark.setN n) : Tm w2 _ g (w.heap.size + 1) r3 T k a n []))
          clear htn
          cases htx : textL r3 with
          | none =>
            have HN : Hid (G = none) := Lib.hid (by rw [HG4.out, markL4, htx])
            have HX := Lib.hid (fun (w5 : World) (l : LinesAt w5 g r3) => Vltext_none g r3 (by omega) htx w5 l)
            clear htx
            go_enter Tryd.func45, Tryd.ntmps45
            go_wp2_with (first
              | (
                (go_at_call 53; refine (HI.out HT0.out.left).mono ?_; rintro e w3 ⟨rfl, l3, f3⟩
                 have HT3 := Lib.hid (HT0.out.took (by omega) l3 f3)
                 clear l3 f3))
              | (
                (refine wpList_store_at rfl 23 _ _ rfl (w.heap.size + 1) 0 51 _ ct rfl rfl HT3.out.mark (by rw [hRS, hcs]; decide) (by rw [hcs]; exact size32) hco ?_
                 intro w4 hw4 hf4
                 rw [HLD.out] at hw4
                 have HT4 : Hid (Tm w2 w4 g (w.heap.size + 1) r0 T 0 [] 0 []) := Lib.hid ⟨HT3.out.fr.trans hf4 (fun _ _ e => .inr e), Whole.fr HT3.out.left hf4 (fun e => by omega), hw4⟩
                 clear hw4 hf4))
              | (
                (go_at_call 59; refine (HK.out _ HT4.out.left).mono ?_; rintro e w5 ⟨rfl, l5, f5⟩; have K5 := Lib.hid (HT5.out _ _ HT4.out l5 f5); have K6 := Lib.hid (HS5.out _ K5.out); have d5 := K5.out.mark.ck; have e5 := K5.out.mark.frozen 32; clear l5 f5))
              | (
                (go_at_call 55; refine (HC.out _ K6.out.left).mono ?_; rintro e w7 ⟨rfl, l7, f7⟩; have K7 := Lib.hid (HT7.out _ _ K6.out l7 f7); have K8 := Lib.hid (HS7.out _ K7.out); have d7 := K7.out.mark.ca; have e7 := K7.out.mark.frozen 33; clear l7 f7))
              | (
                (go_at_call 56; refine (HD.out _ K8.out.left).mono ?_; rintro e w9 ⟨rfl, l9, f9⟩; have K9 := Lib.hid (HT9.out _ _ K8.out l9 f9); have K10 := Lib.hid (HS9.out _ K9.out); have d9 := K9.out.mark.cn; have e9 := K9.out.mark.frozen 34; clear l9 f9))
              | (go_at_call 57; refine (HX.out _ K10.out.left).mono ?_; rintro e w11 ⟨rfl, f11⟩))
            exact ⟨rfl, MarkPost.gave HN.out rfl (HEnd.out _ (K10.out.fr.trans f11 (fun _ _ e => .inl e)))⟩
          | some t =>
            have HN : Hid (G = some ⟨T, k, a, n, t⟩) := Lib.hid (by rw [HG4.out, markL4, htx])
            have HX := Lib.hid (fun (w5 : World) (l : LinesAt w5 g r3) => Vltext_some g r3 t (by omega) htx w5 l)
            have HSX := Lib.hid (fun (w9 : World) (h : MarkAt w9 (w.heap.size + 1) T k a n []) => h.setT t)
            have HEnd2 : Hid (∀ w8 w9, Tm w2 w8 g (w.heap.size + 1) r3 T k a n [] → Fr (fun k => k = g) w8 w9 → MarkAt w9 (w.heap.size + 1) T k a n [] ∧ (∀ u, Fr (fun k => k = g ∨ k = w.heap.size + 1) w2 (w9.setCell ⟨w.heap.size + 1, 35, none⟩ u) ∧ Whole (w9.setCell ⟨w.heap.size + 1, 35, none⟩ u) w.heap.size 51 zeroM)) := Lib.hid (fun w8 w9 h f => by
              have f2 : ∀ u, Fr (fun k => k = w.heap.size + 1) w9 (w9.setCell ⟨w.heap.size + 1, 35, none⟩ u) := fun u => Fr.setCell (S := fun k => k = w.heap.size + 1) (p := ⟨w.heap.size + 1, 35, none⟩) (Fr.refl _ w9) (fun _ => rfl) u
              have fa : ∀ u, Fr (fun k => k = g ∨ k = w.heap.size + 1) w2 (w9.setCell ⟨w.heap.size + 1, 35, none⟩ u) := fun u => (h.fr.trans f (fun _ _ e => .inl e)).trans (f2 u) (fun _ _ e => .inr e)
              exact ⟨Whole.fr h.mark f (fun e => by omega), fun u => ⟨fa u, HR1.out.fr (fa u) (fun e => by omega)⟩⟩)
            obtain ⟨St, hSt⟩ : ∃ S, strB t = S := ⟨_, rfl⟩
            rw [hSt] at HX HSX
            have hrs := markC_size T k a n t
            have hco' := markC_one T k a n t
            obtain ⟨cr, hcr⟩ : ∃ c, markC T k a n t = c := ⟨_, rfl⟩
            have HCR := Lib.hid hcr
            rw [hcr] at hrs hco'
            clear htx hSt hcr
            go_enter Tryd.func45, Tryd.ntmps45
            go_wp2_with (first
              | (
                (go_at_call 53; refine (HI.out HT0.out.left).mono ?_; rintro e w3 ⟨rfl, l3, f3⟩
                 have HT3 := Lib.hid (HT0.out.took (by omega) l3 f3)
                 clear l3 f3))
              | (
                (refine wpList_store_at rfl 23 _ _ rfl (w.heap.size + 1) 0 51 _ ct rfl rfl HT3.out.mark (by rw [hRS, hcs]; decide) (by rw [hcs]; exact size32) hco ?_
                 intro w4 hw4 hf4
                 rw [HLD.out] at hw4
                 have HT4 : Hid (Tm w2 w4 g (w.heap.size + 1) r0 T 0 [] 0 []) := Lib.hid ⟨HT3.out.fr.trans hf4 (fun _ _ e => .inr e), Whole.fr HT3.out.left hf4 (fun e => by omega), hw4⟩
                 clear hw4 hf4))
              | (
                (go_at_call 59; refine (HK.out _ HT4.out.left).mono ?_; rintro e w5 ⟨rfl, l5, f5⟩; have K5 := Lib.hid (HT5.out _ _ HT4.out l5 f5); have K6 := Lib.hid (HS5.out _ K5.out); have d5 := K5.out.mark.ck; have e5 := K5.out.mark.frozen 32; clear l5 f5))
              | (
                (go_at_call 55; refine (HC.out _ K6.out.left).mono ?_; rintro e w7 ⟨rfl, l7, f7⟩; have K7 := Lib.hid (HT7.out _ _ K6.out l7 f7); have K8 := Lib.hid (HS7.out _ K7.out); have d7 := K7.out.mark.ca; have e7 := K7.out.mark.frozen 33; clear l7 f7))
              | (
                (go_at_call 56; refine (HD.out _ K8.out.left).mono ?_; rintro e w9 ⟨rfl, l9, f9⟩; have K9 := Lib.hid (HT9.out _ _ K8.out l9 f9); have K10 := Lib.hid (HS9.out _ K9.out); have d9 := K9.out.mark.cn; have e9 := K9.out.mark.frozen 34; clear l9 f9))
              | (go_at_call 57; refine (HX.out _ K10.out.left).mono ?_; rintro e w11 ⟨rfl, f11⟩; have KE := Lib.hid (HEnd2.out _ _ K10.out f11); have d11 := KE.out.1.ct; have e11 := Whole.frozen KE.out.1 35
                 have R11 : Hid (Whole (w11.setCell ⟨w.heap.size + 1, 35, none⟩ (.string St)) (w.heap.size + 1) 51 cr) := Lib.hid (by rw [← HCR.out]; exact HSX.out _ KE.out.1)
                 clear f11)
              | (refine wpList_load_row rfl 51 _ rfl _ rfl 51 _ _ _ R11.out Tryd.underlying51 rfl (by rw [hrs]; exact size36m) ?_)
              | (refine wpList_store_at rfl 51 _ _ rfl w.heap.size 0 51 _ cr rfl rfl (KE.out.2 _).2 (by rw [hrs]; decide) (by rw [hrs]; exact size36m) hco' ?_
                 intro w12 hw12 hf12
                 rw [laidAt_all _ _ (by rw [hrs]; rfl)] at hw12))
            refine bodyPost_ret (v := .agg cr) (results_cell_row rfl _ _ _ _ _ _ _ rfl hw12 Tryd.underlying51 rfl (by rw [hrs]; exact size36m)) rfl ?_
            have hfin := (KE.out.2 (.string St))
            show MarkPost g w G _ _
            rw [HN.out]
            exact ⟨by rw [HCR.out], (HEnd.out _ hfin.1).trans hf12 (fun i hi e => by omega)⟩
end Go.Proofs.YtppddpbacpeadaaDoor

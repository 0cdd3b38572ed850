/- What is proved: all lines of a commit are taken, by the program, or it gives up. Conditions: the text is not too long. -/
import Derived.Test.YtppddpbacpeadaaDoorRwa
import Derived.OrdersHeld
namespace Go.Proofs.YtppddpbacpeadaaDoor
open Go.RowKit Go.Sort Go.Shelf
open Ids (idC dgt big idC_size idC_get idC_one cellD zero32 size32 dgt_lt hexB)
set_option linter.unusedVariables false

/-- How taking a commit ends. -/
def RevPost (g : Nat) (w : World) (G : Option RevP) (e : Ending) (w' : World) : Prop := match G with
  | none => e = PC ∧ Fr (fun k => k = g) w w'
  | some R => ∃ v, e = .returned (.agg (revC R.T v R.a R.n R.t)) ∧ w'.ownsRow w.heap.size 23 32 v R.ps.length (flatI R.ps) ∧ Fr (fun k => k = g) w w'
theorem RevPost.gave {g : Nat} {w w' : World} {G : Option RevP} {e : Ending} (h : G = none) (he : e = PC) (hf : Fr (fun k => k = g) w w') : RevPost g w G e w' := by
  subst h; exact ⟨he, hf⟩
/-- What stands while lines are taken: what is left, and what has been told. -/
structure Tk (w2 wr : World) (g g3 base : Nat) (s : List UInt8) (T : Nat) (v : Value) (ps : List Nat) (a : List UInt8) (n : Int) (t : List UInt8) : Prop where
  fr : Fr (fun k => k = g ∨ k = g3) w2 wr
  left : LinesAt wr g s
  rev : RevAt wr g3 T v a n t
  own : wr.ownsRow base 23 32 v ps.length (flatI ps)
section
variable {w2 wr w' : World} {g g3 base : Nat} {s r : List UInt8} {T : Nat} {v : Value} {ps : List Nat} {a : List UInt8} {n : Int} {t : List UInt8}
/-- A line is taken: only what is left turns. -/
theorem Tk.took (h : Tk w2 wr g g3 base s T v ps a n t) (hb : g < base) (hne : g ≠ g3) (l : LinesAt w' g r) (f : Fr (fun k => k = g) wr w') : Tk w2 w' g g3 base r T v ps a n t :=
  ⟨h.fr.trans f (fun _ _ e => .inl e), l, Whole.fr h.rev f (fun e => hne e.symm), own_fr h.own f (fun k hk e => by
    have := (World.ownsRow.lt h.own k hk).1
    omega)⟩
theorem Tk.later (h : Tk w2 wr g g3 base s T v ps a n t) (f : Fr (fun _ => False) wr w') : Tk w2 w' g g3 base s T v ps a n t :=
  ⟨h.fr.trans f (fun _ _ e => e.elim), h.left.fr f, h.rev.fr f, own_fr h.own f (fun _ _ e => e)⟩
theorem Fr.undrew {S : Nat → Prop} {w w' : World} (h : Fr S w.drew w') : Fr S w w' := ⟨h.os, h.tape, h.output, h.size, h.block⟩
theorem Tk.grown (h : Tk w2 wr g g3 w2.heap.size s T v ps a n t) (hg : g < w2.heap.size) (hg3 : g3 < w2.heap.size) (hne : g ≠ g3) {v' : Value} {m : Nat}
    (o : w'.ownsRow w2.heap.size 23 32 v' (ps.length + 1) (flatI ps ++ flatI [m])) (gr : wr.grownBy w' v.ownBlock) : RevAt w' g3 T v a n t ∧ Tk w2 (w'.setCell ⟨g3, 32, none⟩ v') g g3 w2.heap.size s T v' (ps ++ [m]) a n t := by
  have f : Fr (fun k => v.ownBlock = some k) wr w' := (Fr.refl _ wr).grown gr (fun k hk _ => hk)
  have hb : ∀ k, v.ownBlock = some k → w2.heap.size ≤ k := fun k hk => (World.ownsRow.lt h.own k hk).1
  have hl : LinesAt w' g s := Whole.fr h.left f (fun e => by have := hb g e; omega)
  have hr : RevAt w' g3 T v a n t := Whole.fr h.rev f (fun e => by have := hb g3 e; omega)
  have f2 : Fr (fun k => k = g3) w' (w'.setCell ⟨g3, 32, none⟩ v') := Fr.setCell (S := fun k => k = g3) (p := ⟨g3, 32, none⟩) (Fr.refl _ w') (fun _ => rfl) v'
  refine ⟨hr, (h.fr.trans f (fun i hi e => by have := hb i e; omega)).trans f2 (fun _ _ e => .inr e), Whole.fr hl f2 hne, hr.setV v', ?_⟩
  have o2 := own_fr o f2 (fun k hk e => by have := (World.ownsRow.lt o k hk).1; omega)
  rw [List.length_append, List.length_singleton, flatI_append]
  exact o2
theorem Tk.put (h : Tk w2 wr g g3 base s T v ps a n t) (hb : g3 < base) (hne : g ≠ g3) {p : Addr} (hp : p.block = g3) (u : Value) {a' : List UInt8} {n' : Int} {t' : List UInt8} (hr : RevAt (wr.setCell p u) g3 T v a' n' t') : Tk w2 (wr.setCell p u) g g3 base s T v ps a' n' t' := by
  have f : Fr (fun k => k = g3) wr (wr.setCell p u) := Fr.setCell (Fr.refl _ wr) (fun _ => hp) u
  exact ⟨h.fr.trans f (fun _ _ e => .inr e), Whole.fr h.left f hne, hr, own_fr h.own f (fun k hk e => by
    have := (World.ownsRow.lt h.own k hk).1
    omega)⟩
end
/-- A list of one id, made by the call, as one step. -/
theorem wp_build_one {op : Oper} {a : Act} {w : World} {K : Act → World → Prop} {Q : Exit → Act → World → Prop} (x : Operand) (ho : op.op = .buildSlice 24 1 #[(0, x)]) (n : Nat) (c : Array Value) (hc : idC (dgt n) = c)
    (hx : a.eval x = .agg c) (h : K (a.put op.dst (.slice (some ⟨w.heap.size, 0, none⟩) 1 1)) (w.alloc (.cells c 23))) : op.wp Tryd.prog a w K Q := by
  subst hc
  unfold Oper.wp execOp
  have e : (#[((0 : Nat), x)].map fun (i, y) => (i, a.eval y)) = #[(0, .agg (idC (dgt n)))] := by simp [hx]
  simp only [ho, e, Sem.run_bind, build_one, Result.andThen_ok, Sem.run_pure]
  exact h

set_option maxHeartbeats 6400000 in
set_option maxRecDepth 100000 in
theorem VtakeRev_any (g : Nat) (s : List UInt8) (hs : s.length ≤ 100000) (w : World) (h : LinesAt w g s) :
    Calls Tryd.prog 39 #[.pointer (some ⟨g, 0, none⟩)] w (RevPost g w (revL s)) := by
  obtain ⟨w1, hw1⟩ : ∃ w1, w.alloc (.cells zeroR 26) = w1 := ⟨_, rfl⟩
  obtain ⟨w2, hw2⟩ : ∃ w2, w1.alloc (.cells zeroR 26) = w2 := ⟨_, rfl⟩
  have hF1 : Fr (fun _ => False) w w1 := by subst hw1; exact (Fr.refl _ w).alloc _
  have hF2 : Fr (fun _ => False) w1 w2 := by subst hw2; exact (Fr.refl _ w1).alloc _
  have hR1 : Whole w1 w.heap.size 26 zeroR := by subst hw1; exact Whole.new w _ _
  have hR2 : Whole w2 w1.heap.size 26 zeroR := by subst hw2; exact Whole.new w1 _ _
  have hsz1 : w1.heap.size = w.heap.size + 1 := by subst hw1; exact alloc_size _ _
  have hsz2 : w2.heap.size = w.heap.size + 2 := by subst hw2; rw [alloc_size]; omega
  have hg : g < w.heap.size := Whole.lt h
  have HT0 : Hid (Tk w2 w2 g w1.heap.size w2.heap.size s 0 (.slice none 0 0) [] [] 0 []) := Lib.hid ⟨Fr.refl _ _, (h.fr hF1).fr hF2, by rw [RevAt, ← zeroR_eq]; exact hR2, World.ownsRow_nil w2 w2.heap.size 23 32⟩
  have HR1 : Hid (Whole w2 w.heap.size 26 zeroR) := Lib.hid (hR1.fr hF2 (fun e => e))
  have HF := Lib.hid (hF1.trans hF2 (fun _ _ e => e))
  rw [hsz1] at HT0
  unfold zeroR at hw1 hw2
  simp [List.replicate] at hw1 hw2
  obtain ⟨G, hG⟩ : ∃ G, revL s = G := ⟨_, rfl⟩
  rw [hG]
  have HEnd : Hid (∀ w', Fr (fun k => k = g ∨ k = w.heap.size + 1) w2 w' → Fr (fun k => k = g) w w') := Lib.hid (fun w' f => (HF.out.mono (fun _ _ e => e.elim) : Fr (fun k => k = g) w w2).trans f (fun i hi e => by rcases e with e | e; exact e; omega))
  clear hF1 hF2 hR1 hR2 h
  cases hi : idL wTree s with
  | none =>
    have HN : Hid (G = none) := Lib.hid (by rw [← hG, revL, hi])
    have HI := Lib.hid (fun (l : LinesAt w2 g s) => Vlid_none g wTree s (by decide) (by decide) (by omega) hi w2 l)
    obtain ⟨W, hW⟩ : ∃ S, strB wTree = S := ⟨_, rfl⟩
    have hWc : ByteArray.mk #[116, 114, 101, 101] = W := hW
    rw [hW] at HI
    clear hG hi hW
    go_enter Tryd.func39, Tryd.ntmps39
    go_wp2_with (go_at_call 53; refine (HI.out HT0.out.left).mono ?_; rintro e w3 ⟨rfl, f3⟩)
    exact ⟨rfl, RevPost.gave HN.out rfl ((HF.out.mono (fun _ _ e => e.elim) : Fr (fun k => k = g) w w2).trans f3 (fun _ _ e => e))⟩
  | some x =>
    obtain ⟨T, r0⟩ := x
    have hr0 := idL_len hi
    have HI := Lib.hid (fun (l : LinesAt w2 g s) => Vlid_some g wTree s r0 T (by decide) (by decide) (by omega) hi w2 l)
    have HGP : Hid (∀ (P : Option (List Nat × List UInt8)), parA r0.length [] r0 = P → G = revL1 T P) := Lib.hid (fun P hP => by rw [← hG, revL, hi]; simp only []; rw [hP])
    obtain ⟨W, hW⟩ : ∃ S, strB wTree = S := ⟨_, rfl⟩
    have hWc : ByteArray.mk #[116, 114, 101, 101] = W := hW
    obtain ⟨W2, hW2⟩ : ∃ S, strB wParent = S := ⟨_, rfl⟩
    have hWc2 : ByteArray.mk #[112, 97, 114, 101, 110, 116] = W2 := hW2
    obtain ⟨W3, hW3⟩ : ∃ S, strB wAuthor = S := ⟨_, rfl⟩
    have hWc3 : ByteArray.mk #[97, 117, 116, 104, 111, 114] = W3 := hW3
    obtain ⟨W4, hW4⟩ : ∃ S, strB wTime = S := ⟨_, rfl⟩
    have hWc4 : ByteArray.mk #[116, 105, 109, 101] = W4 := hW4
    rw [hW] at HI
    have HIP := Lib.hid (fun (wr : World) (r : List UInt8) (hr : r.length ≤ 100000) (l : LinesAt wr g r) (hn : idL wParent r = none) => Vlid_none g wParent r (by decide) (by decide) (by omega) hn wr l)
    have HIS := Lib.hid (fun (wr : World) (r r' : List UInt8) (n : Nat) (hr : r.length ≤ 100000) (l : LinesAt wr g r) (hn : idL wParent r = some (n, r')) => Vlid_some g wParent r r' n (by decide) (by decide) (by omega) hn wr l)
    have HBE := Lib.hid (fun (wr : World) (r : List UInt8) (hr : r.length ≤ 100000) (l : LinesAt wr g r) => Vlbegin_any g wParent r (by decide) (by omega) wr l)
    rw [hW2] at HIP HIS HBE
    have hcs := idC_size (dgt T)
    have hco := idC_one (dgt T)
    have HLD := Lib.hid (fun (v : Value) => revC_laid 0 v [] 0 [] T)
    obtain ⟨ct, hct⟩ : ∃ c, idC (dgt T) = c := ⟨_, rfl⟩
    rw [hct] at HI hcs hco HLD
    have hRS := revC_size 0 (.slice none 0 0) [] 0 []
    clear hG hi hW hW2 hct
    go_enter Tryd.func39, Tryd.ntmps39
    go_wp2_with (first
      | (go_at_call 53; refine (HI.out HT0.out.left).mono ?_; rintro e w3 ⟨rfl, l3, f3⟩
         have HT3 := Lib.hid (HT0.out.took (by omega) (by omega) l3 f3)
         clear l3 f3)
      | (refine wpList_store_at rfl 23 _ _ rfl (w.heap.size + 1) 0 26 _ ct rfl rfl HT3.out.rev (by rw [hRS, hcs]; decide) (by rw [hcs]; exact size32) hco ?_
         intro w4 hw4 hf4
         rw [HLD.out] at hw4
         have HT4 : Hid (Tk w2 w4 g (w.heap.size + 1) w2.heap.size r0 T (.slice none 0 0) [] [] 0 []) := Lib.hid ⟨HT3.out.fr.trans hf4 (fun _ _ e => .inr e), Whole.fr HT3.out.left hf4 (fun e => by omega), hw4, World.ownsRow_nil w4 w2.heap.size 23 32⟩
         clear hw4 hf4))
    obtain ⟨P, hP⟩ : ∃ P, parA r0.length [] r0 = P := ⟨_, rfl⟩
    have HP0 := Lib.hid hP
    have HGQ := Lib.hid (HGP.out P hP)
    have hr0l := hr0.1
    clear hP hw1 hw2
    simp only [Act.put]
    go_loopg [] r0.length (fun kx wr => ∃ acc v r, Tk w2 wr g (w.heap.size + 1) w2.heap.size r T v acc [] 0 [] ∧ Hid (parA kx acc r = P) ∧ r.length ≤ 100000 ∧ r.length ≤ kx ∧ acc.length + kx ≤ r0.length)
    case atStart => exact ⟨[], _, r0, HT4.out, HP0, by omega, Nat.le_refl _, by simp⟩
    case round =>
      obtain ⟨acc, v, r, htk, HP, hrl, hrk, hal⟩ := hrel
      obtain ⟨wo, rfl⟩ : ∃ wo, wo = wr := ⟨wr, rfl⟩
      have HB := Lib.hid (HBE.out wo r hrl htk.left)
      have HTK := Lib.hid htk
      have c1 := htk.rev.cv
      cases hb : begW wParent r with
      | true =>
        rw [hb] at HB
        cases hid : idL wParent r with
        | none =>
          have HN : Hid (G = none) := Lib.hid (by
            have := HP.out
            rw [parA_bad hb hid] at this
            have h2 := HGQ.out
            rw [← this] at h2
            exact h2)
          have HC := Lib.hid (fun (wr : World) (l : LinesAt wr g r) => HIP.out wr r hrl l hid)
          have HLn := Lib.hid htk.left
          have HFw := Lib.hid (fun (w' : World) (f : Fr (fun k => k = g) wo w') => htk.fr.trans f (fun _ _ e => .inl e))
          clear htk hb hid
          go_wp2_with (go_at_call 54; refine HB.out.mono ?_; rintro e w' ⟨rfl, rfl⟩)
          have hdr : (wo.drew).cell? ⟨w.heap.size + 1, 32, none⟩ = some v := c1
          clear c1
          refine wp_region_held (S := fun _ => True) (by kernel_rfl) ?_
          refine wpAnyH_take (i := 0) (v := .pointer (some ⟨w.heap.size + 1, 32, none⟩)) rfl (by kernel_rfl) (by kernel_rfl) (by kernel_rfl) (fun _ _ _ h => h) (.inl ⟨by rfl, ?_⟩) trivial ?_
          · intro w' _
            go_simp
          refine wpAnyH_take (i := 2) (v := .pointer (some ⟨g, 0, none⟩)) rfl (by kernel_rfl) (by kernel_rfl) (by kernel_rfl) (fun _ _ _ h => h) (.inl ⟨by rfl, ?_⟩) trivial ?_
          · intro w' _
            go_simp
          (
            refine wpAnyH_all (rs := [1, 3]) (by kernel_rfl) (by simp) ?_
            intro i hi
            simp only [List.mem_cons, List.not_mem_nil, or_false] at hi
            rcases hi with hi | hi <;> subst hi)
          · (
            refine wpOp_step rfl (fun K hK => ?_)
            go_simp
            refine hK _ _ ⟨trivial, ?_⟩
            clear hK K)
            (
              refine wpAnyH_all (rs := [3]) (by kernel_rfl) (by simp) ?_
              intro i hi
              simp only [List.mem_cons, List.not_mem_nil, or_false] at hi
              subst hi)
            (
              refine wpOp_step rfl (fun K hK => ?_)
              go_simp
              refine (HC.out wo.drew HLn.out).mono ?_
              rintro e w5 ⟨rfl, f5⟩
              exact ⟨rfl, RevPost.gave HN.out rfl (HEnd.out _ (HFw.out _ f5.undrew))⟩)
          · (
            refine wpOp_step rfl (fun K hK => ?_)
            go_simp
            refine (HC.out wo.drew HLn.out).mono ?_
            rintro e w5 ⟨rfl, f5⟩
            exact ⟨rfl, RevPost.gave HN.out rfl (HEnd.out _ (HFw.out _ f5.undrew))⟩)
        | some x =>
          obtain ⟨n, r'⟩ := x
          have hil := (idL_len hid).1
          have HPN : Hid (parA (gk - 1) (acc ++ [n]) r' = P) := Lib.hid (by
            have := HP.out
            rw [show gk = (gk - 1) + 1 by omega, parA_go hb hid] at this
            exact this)
          obtain ⟨i0, hi0, hz0, hz1, hz2⟩ := info_parts info_id
          have HC := Lib.hid (fun (wr : World) (l : LinesAt wr g r) => HIS.out wr r r' n hrl l hid)
          have HLn := Lib.hid htk.left
          have hcn := idC_size (dgt n)
          obtain ⟨cn, hcn'⟩ : ∃ c, idC (dgt n) = c := ⟨_, rfl⟩
          have HCN := Lib.hid hcn'
          rw [hcn'] at HC hcn
          clear htk hb hid hcn'
          go_wp2_with (go_at_call 54; refine HB.out.mono ?_; rintro e w' ⟨rfl, rfl⟩)
          have hdr : (wo.drew).cell? ⟨w.heap.size + 1, 32, none⟩ = some v := c1
          clear c1
          refine wp_region_held (S := fun _ => True) (by kernel_rfl) ?_
          refine wpAnyH_take (i := 0) (v := .pointer (some ⟨w.heap.size + 1, 32, none⟩)) rfl (by kernel_rfl) (by kernel_rfl) (by kernel_rfl) (fun _ _ _ h => h) (.inl ⟨by rfl, ?_⟩) trivial ?_
          · intro w' _
            go_simp
          refine wpAnyH_take (i := 2) (v := .pointer (some ⟨g, 0, none⟩)) rfl (by kernel_rfl) (by kernel_rfl) (by kernel_rfl) (fun _ _ _ h => h) (.inl ⟨by rfl, ?_⟩) trivial ?_
          · intro w' _
            go_simp
          (
            refine wpAnyH_all (rs := [1, 3]) (by kernel_rfl) (by simp) ?_
            intro i hi
            simp only [List.mem_cons, List.not_mem_nil, or_false] at hi
            rcases hi with hi | hi <;> subst hi)
          · (
            refine wpOp_step rfl (fun K hK => ?_)
            go_simp
            refine hK _ _ ⟨trivial, ?_⟩
            clear hK K)
            (
              refine wpAnyH_all (rs := [3]) (by kernel_rfl) (by simp) ?_
              intro i hi
              simp only [List.mem_cons, List.not_mem_nil, or_false] at hi
              subst hi)
            (
              refine wpOp_step rfl (fun K hK => ?_)
              go_simp
              refine (HC.out wo.drew HLn.out).mono ?_
              rintro e w5 ⟨rfl, l5, f5⟩
              have HT5 := Lib.hid (HTK.out.took (by omega) (by omega) l5 f5.undrew)
              have c5 := HT5.out.rev.cv
              clear l5 f5
              refine hK _ _ ⟨trivial, ?_⟩
              clear hK K)
            (
              refine wpAnyH_all (rs := [4]) (by kernel_rfl) (by simp) ?_
              intro i hi
              simp only [List.mem_cons, List.not_mem_nil, or_false] at hi
              subst hi)
            (
              refine wpOp_step rfl (fun K hK => ?_)
              rw [if_pos (by kernel_rfl)]
              refine wp_build_one (.tmp 12) rfl n cn HCN.out (by kernel_rfl) ?_
              refine hK _ _ ⟨trivial, ?_⟩
              clear hK K
              have HT6 := Lib.hid (HT5.out.later ((Fr.refl (fun _ => False) w5).alloc (.cells cn 23)))
              have c6 := HT6.out.rev.cv)
            (
              (
                refine wpAnyH_all (rs := [5]) (by kernel_rfl) (by simp) ?_
                intro i hi
                simp only [List.mem_cons, List.not_mem_nil, or_false] at hi
                subst hi)
              refine wpOp_step rfl (fun K hK => ?_)
              refine Ids.step_append_row _ (by rfl) (.tmp 10) (.tmp 13) 24 24 (by rfl) w2.heap.size 23 i0 (.agg zero32) 32 32 Tryd.underlying24 hi0 hz0 hz1 hz2 zero32_cells v acc.length (flatI acc) (by kernel_rfl) HT6.out.own _ 1 (flatI [n]) (by kernel_rfl) (by have := src_one32 w5 n; rw [HCN.out] at this; exact this) (by unfold maxLen; omega) (by omega) (by have := HT6.out.fr.size; omega) ?_
              intro v7 w7 o7 g7 at7
              obtain ⟨A7, k7, hv7, _, _⟩ := own_slice o7
              subst hv7
              have HG7 := Lib.hid (HT6.out.grown (by omega) (by omega) (by omega) o7 g7)
              have c7 := HG7.out.1.cv
              have z7 := HG7.out.1.frozen 32
              clear o7 g7 at7
              refine hK _ _ ⟨trivial, ?_⟩
              clear hK K
              refine wpAnyH_take (i := 6) (v := .pointer (some ⟨w.heap.size + 1, 32, none⟩)) rfl (by kernel_rfl) (by kernel_rfl) (by kernel_rfl) (fun _ _ _ h => h) (.inl ⟨by rfl, ?_⟩) trivial ?_
              · intro w' _
                go_simp
              (
                refine wpAnyH_all (rs := [7]) (by kernel_rfl) (by simp) ?_
                intro i hi
                simp only [List.mem_cons, List.not_mem_nil, or_false] at hi
                subst hi)
              refine wpOp_step rfl (fun K hK => ?_)
              go_simp
              refine hK _ _ ⟨trivial, ?_⟩
              clear hK K
              refine wpAnyH_done (by kernel_rfl) ?_ _
              go_wp2_with fail
              go_roundg (gk - 1)
              case measure => omega
              case rel => exact ⟨acc ++ [n], _, r', HG7.out.2, HPN, by omega, by omega, by rw [List.length_append, List.length_singleton]; omega⟩)
          · (
            refine wpOp_step rfl (fun K hK => ?_)
            go_simp
            refine (HC.out wo.drew HLn.out).mono ?_
            rintro e w5 ⟨rfl, l5, f5⟩
            have HT5 := Lib.hid (HTK.out.took (by omega) (by omega) l5 f5.undrew)
            have c5 := HT5.out.rev.cv
            clear l5 f5
            refine hK _ _ ⟨trivial, ?_⟩
            clear hK K)
            (
              refine wpAnyH_all (rs := [1, 4]) (by kernel_rfl) (by simp) ?_
              intro i hi
              simp only [List.mem_cons, List.not_mem_nil, or_false] at hi
              rcases hi with hi | hi <;> subst hi)
            · (
              refine wpOp_step rfl (fun K hK => ?_)
              go_simp
              refine hK _ _ ⟨trivial, ?_⟩
              clear hK K)
              (
                refine wpAnyH_all (rs := [4]) (by kernel_rfl) (by simp) ?_
                intro i hi
                simp only [List.mem_cons, List.not_mem_nil, or_false] at hi
                subst hi)
              (
                refine wpOp_step rfl (fun K hK => ?_)
                rw [if_pos (by kernel_rfl)]
                refine wp_build_one (.tmp 12) rfl n cn HCN.out (by kernel_rfl) ?_
                refine hK _ _ ⟨trivial, ?_⟩
                clear hK K
                have HT6 := Lib.hid (HT5.out.later ((Fr.refl (fun _ => False) w5).alloc (.cells cn 23)))
                have c6 := HT6.out.rev.cv)
              (
                (
                  refine wpAnyH_all (rs := [5]) (by kernel_rfl) (by simp) ?_
                  intro i hi
                  simp only [List.mem_cons, List.not_mem_nil, or_false] at hi
                  subst hi)
                refine wpOp_step rfl (fun K hK => ?_)
                refine Ids.step_append_row _ (by rfl) (.tmp 10) (.tmp 13) 24 24 (by rfl) w2.heap.size 23 i0 (.agg zero32) 32 32 Tryd.underlying24 hi0 hz0 hz1 hz2 zero32_cells v acc.length (flatI acc) (by kernel_rfl) HT6.out.own _ 1 (flatI [n]) (by kernel_rfl) (by have := src_one32 w5 n; rw [HCN.out] at this; exact this) (by unfold maxLen; omega) (by omega) (by have := HT6.out.fr.size; omega) ?_
                intro v7 w7 o7 g7 at7
                obtain ⟨A7, k7, hv7, _, _⟩ := own_slice o7
                subst hv7
                have HG7 := Lib.hid (HT6.out.grown (by omega) (by omega) (by omega) o7 g7)
                have c7 := HG7.out.1.cv
                have z7 := HG7.out.1.frozen 32
                clear o7 g7 at7
                refine hK _ _ ⟨trivial, ?_⟩
                clear hK K
                refine wpAnyH_take (i := 6) (v := .pointer (some ⟨w.heap.size + 1, 32, none⟩)) rfl (by kernel_rfl) (by kernel_rfl) (by kernel_rfl) (fun _ _ _ h => h) (.inl ⟨by rfl, ?_⟩) trivial ?_
                · intro w' _
                  go_simp
                (
                  refine wpAnyH_all (rs := [7]) (by kernel_rfl) (by simp) ?_
                  intro i hi
                  simp only [List.mem_cons, List.not_mem_nil, or_false] at hi
                  subst hi)
                refine wpOp_step rfl (fun K hK => ?_)
                go_simp
                refine hK _ _ ⟨trivial, ?_⟩
                clear hK K
                refine wpAnyH_done (by kernel_rfl) ?_ _
                go_wp2_with fail
                go_roundg (gk - 1)
                case measure => omega
                case rel => exact ⟨acc ++ [n], _, r', HG7.out.2, HPN, by omega, by omega, by rw [List.length_append, List.length_singleton]; omega⟩)
            · (
              refine wpOp_step rfl (fun K hK => ?_)
              rw [if_pos (by kernel_rfl)]
              refine wp_build_one (.tmp 12) rfl n cn HCN.out (by kernel_rfl) ?_
              refine hK _ _ ⟨trivial, ?_⟩
              clear hK K
              have HT6 := Lib.hid (HT5.out.later ((Fr.refl (fun _ => False) w5).alloc (.cells cn 23)))
              have c6 := HT6.out.rev.cv)
              (
                refine wpAnyH_all (rs := [1]) (by kernel_rfl) (by simp) ?_
                intro i hi
                simp only [List.mem_cons, List.not_mem_nil, or_false] at hi
                subst hi)
              (
                refine wpOp_step rfl (fun K hK => ?_)
                go_simp
                refine hK _ _ ⟨trivial, ?_⟩
                clear hK K)
              (
                (
                  refine wpAnyH_all (rs := [5]) (by kernel_rfl) (by simp) ?_
                  intro i hi
                  simp only [List.mem_cons, List.not_mem_nil, or_false] at hi
                  subst hi)
                refine wpOp_step rfl (fun K hK => ?_)
                refine Ids.step_append_row _ (by rfl) (.tmp 10) (.tmp 13) 24 24 (by rfl) w2.heap.size 23 i0 (.agg zero32) 32 32 Tryd.underlying24 hi0 hz0 hz1 hz2 zero32_cells v acc.length (flatI acc) (by kernel_rfl) HT6.out.own _ 1 (flatI [n]) (by kernel_rfl) (by have := src_one32 w5 n; rw [HCN.out] at this; exact this) (by unfold maxLen; omega) (by omega) (by have := HT6.out.fr.size; omega) ?_
                intro v7 w7 o7 g7 at7
                obtain ⟨A7, k7, hv7, _, _⟩ := own_slice o7
                subst hv7
                have HG7 := Lib.hid (HT6.out.grown (by omega) (by omega) (by omega) o7 g7)
                have c7 := HG7.out.1.cv
                have z7 := HG7.out.1.frozen 32
                clear o7 g7 at7
                refine hK _ _ ⟨trivial, ?_⟩
                clear hK K
                refine wpAnyH_take (i := 6) (v := .pointer (some ⟨w.heap.size + 1, 32, none⟩)) rfl (by kernel_rfl) (by kernel_rfl) (by kernel_rfl) (fun _ _ _ h => h) (.inl ⟨by rfl, ?_⟩) trivial ?_
                · intro w' _
                  go_simp
                (
                  refine wpAnyH_all (rs := [7]) (by kernel_rfl) (by simp) ?_
                  intro i hi
                  simp only [List.mem_cons, List.not_mem_nil, or_false] at hi
                  subst hi)
                refine wpOp_step rfl (fun K hK => ?_)
                go_simp
                refine hK _ _ ⟨trivial, ?_⟩
                clear hK K
                refine wpAnyH_done (by kernel_rfl) ?_ _
                go_wp2_with fail
                go_roundg (gk - 1)
                case measure => omega
                case rel => exact ⟨acc ++ [n], _, r', HG7.out.2, HPN, by omega, by omega, by rw [List.length_append, List.length_singleton]; omega⟩)
      | false =>
        rw [hb] at HB
        have HG1 : Hid (G = revL2 T acc r) := Lib.hid (by
          have := HP.out
          rw [parA_end hb] at this
          have h2 := HGQ.out
          rw [← this] at h2
          exact h2)
        clear hb
        cases hta : takeL wAuthor r with
        | none =>
          have HN : Hid (G = none) := Lib.hid (by rw [HG1.out, revL2, hta])
          have HC := Lib.hid (Vltake_none g wAuthor r (by decide) (by omega) hta wo htk.left)
          rw [hW3] at HC
          clear htk hta
          go_wp2_with (first
            | (go_at_call 54; refine HB.out.mono ?_; rintro e w' ⟨rfl, rfl⟩)
            | (go_at_call 55; refine HC.out.mono ?_; rintro e w5 ⟨rfl, b5⟩))
          exact ⟨rfl, RevPost.gave HN.out rfl (HEnd.out _ (HTK.out.fr.then_below b5))⟩
        | some xa =>
          obtain ⟨a, r2⟩ := xa
          have hl2 := takeL_len hta
          have HG2 : Hid (G = revL3 T acc a r2) := Lib.hid (by rw [HG1.out, revL2, hta])
          have HC := Lib.hid (Vltake_some g wAuthor r a r2 (by decide) (by decide) (by omega) hta wo htk.left)
          rw [hW3] at HC
          have HT5 := Lib.hid (fun (w5 : World) (l5 : LinesAt w5 g r2) (f5 : Fr (fun k => k = g) wo w5) => htk.took (by omega) (by omega) l5 f5)
          have HS5 := Lib.hid (fun (w5 : World) (h : Tk w2 w5 g (w.heap.size + 1) w2.heap.size r2 T v acc [] 0 []) => (h.put (p := ⟨w.heap.size + 1, 33, none⟩) (by omega) (by omega) rfl (.string (strB a)) (h.rev.setA a) : Tk w2 _ g (w.heap.size + 1) w2.heap.size r2 T v acc a 0 []))
          obtain ⟨Sa, hSa⟩ : ∃ S, strB a = S := ⟨_, rfl⟩
          rw [hSa] at HC HS5
          clear htk hta hSa
          cases htn : numL wTime r2 with
          | none =>
            have HN : Hid (G = none) := Lib.hid (by rw [HG2.out, revL3, htn])
            have HD := Lib.hid (fun (w5 : World) (l : LinesAt w5 g r2) => Vlnumber_none g wTime r2 (by decide) (by decide) (by omega) htn w5 l)
            rw [hW4] at HD
            clear htn
            go_wp2_with (first
              | (go_at_call 54; refine HB.out.mono ?_; rintro e w' ⟨rfl, rfl⟩)
              | (go_at_call 55; refine HC.out.mono ?_; rintro e w5 ⟨rfl, l5, f5⟩; have K5 := Lib.hid (HT5.out _ l5 f5); have K6 := Lib.hid (HS5.out _ K5.out); have d5 := K5.out.rev.ca; have e5 := K5.out.rev.frozen 33; clear l5 f5)
              | (go_at_call 56; refine (HD.out _ K6.out.left).mono ?_; rintro e w7 ⟨rfl, f7⟩))
            exact ⟨rfl, RevPost.gave HN.out rfl (HEnd.out _ (K6.out.fr.trans f7 (fun _ _ e => .inl e)))⟩
          | some xn =>
            obtain ⟨n, r3⟩ := xn
            have hl3 := numL_len htn
            have HG3 : Hid (G = revL4 T acc a n r3) := Lib.hid (by rw [HG2.out, revL3, htn])
            have HD := Lib.hid (fun (w5 : World) (l : LinesAt w5 g r2) => Vlnumber_some g wTime r2 r3 n (by decide) (by decide) (by omega) htn w5 l)
            rw [hW4] at HD
            have HT7 := Lib.hid (fun (w6 w7 : World) (h : Tk w2 w6 g (w.heap.size + 1) w2.heap.size r2 T v acc a 0 []) (l7 : LinesAt w7 g r3) (f7 : Fr (fun k => k = g) w6 w7) => h.took (by omega) (by omega) l7 f7)
            have HS7 := Lib.hid (fun (w7 : World) (h : Tk w2 w7 g (w.heap.size + 1) w2.heap.size r3 T v acc a 0 []) => (h.put (p := ⟨w.heap.size + 1, 34, none⟩) (by omega) (by omega) rfl (.int .i64 n) (h.rev.setN n) : Tk w2 _ g (w.heap.size + 1) w2.heap.size r3 T v acc a n []))
            clear htn
            cases htx : textL r3 with
            | none =>
              have HN : Hid (G = none) := Lib.hid (by rw [HG3.out, revL4, htx])
              have HX := Lib.hid (fun (w5 : World) (l : LinesAt w5 g r3) => Vltext_none g r3 (by omega) htx w5 l)
              clear htx
              go_wp2_with (first
                | (go_at_call 54; refine HB.out.mono ?_; rintro e w' ⟨rfl, rfl⟩)
                | (go_at_call 55; refine HC.out.mono ?_; rintro e w5 ⟨rfl, l5, f5⟩; have K5 := Lib.hid (HT5.out _ l5 f5); have K6 := Lib.hid (HS5.out _ K5.out); have d5 := K5.out.rev.ca; have e5 := K5.out.rev.frozen 33; clear l5 f5)
                | (go_at_call 56; refine (HD.out _ K6.out.left).mono ?_; rintro e w7 ⟨rfl, l7, f7⟩; have K7 := Lib.hid (HT7.out _ _ K6.out l7 f7); have K8 := Lib.hid (HS7.out _ K7.out); have d7 := K7.out.rev.cn; have e7 := K7.out.rev.frozen 34; clear l7 f7)
                | (go_at_call 57; refine (HX.out _ K8.out.left).mono ?_; rintro e w9 ⟨rfl, f9⟩))
              exact ⟨rfl, RevPost.gave HN.out rfl (HEnd.out _ (K8.out.fr.trans f9 (fun _ _ e => .inl e)))⟩
            | some t =>
              have HN : Hid (G = some ⟨T, acc, a, n, t⟩) := Lib.hid (by rw [HG3.out, revL4, htx])
              have HX := Lib.hid (fun (w5 : World) (l : LinesAt w5 g r3) => Vltext_some g r3 t (by omega) htx w5 l)
              have HS9 := Lib.hid (fun (w9 : World) (h : RevAt w9 (w.heap.size + 1) T v a n []) => h.setT t)
              have HEnd2 : Hid (∀ w8 w9, Tk w2 w8 g (w.heap.size + 1) w2.heap.size r3 T v acc a n [] → Fr (fun k => k = g) w8 w9 → RevAt w9 (w.heap.size + 1) T v a n [] ∧ (∀ u, Fr (fun k => k = g ∨ k = w.heap.size + 1) w2 (w9.setCell ⟨w.heap.size + 1, 35, none⟩ u) ∧ (w9.setCell ⟨w.heap.size + 1, 35, none⟩ u).ownsRow w2.heap.size 23 32 v acc.length (flatI acc) ∧ Whole (w9.setCell ⟨w.heap.size + 1, 35, none⟩ u) w.heap.size 26 zeroR)) := Lib.hid (fun w8 w9 h f => by
                have f2 : ∀ u, Fr (fun k => k = w.heap.size + 1) w9 (w9.setCell ⟨w.heap.size + 1, 35, none⟩ u) := fun u => Fr.setCell (S := fun k => k = w.heap.size + 1) (p := ⟨w.heap.size + 1, 35, none⟩) (Fr.refl _ w9) (fun _ => rfl) u
                have fa : ∀ u, Fr (fun k => k = g ∨ k = w.heap.size + 1) w2 (w9.setCell ⟨w.heap.size + 1, 35, none⟩ u) := fun u => (h.fr.trans f (fun _ _ e => .inl e)).trans (f2 u) (fun _ _ e => .inr e)
                refine ⟨Whole.fr h.rev f (fun e => by omega), fun u => ⟨fa u, ?_, HR1.out.fr (fa u) (fun e => by omega)⟩⟩
                exact own_fr (own_fr h.own f (fun k hk e => by have := (World.ownsRow.lt h.own k hk).1; omega)) (f2 u) (fun k hk e => by have := (World.ownsRow.lt h.own k hk).1; omega))
              obtain ⟨St, hSt⟩ : ∃ S, strB t = S := ⟨_, rfl⟩
              rw [hSt] at HX HS9
              have hrs := revC_size T v a n t
              have HRO := Lib.hid (fun (hv : v.oneCell' = true) => revC_one T v a n t hv)
              obtain ⟨cr, hcr⟩ : ∃ c, revC T v a n t = c := ⟨_, rfl⟩
              have HCR := Lib.hid hcr
              rw [hcr] at hrs HRO
              have hvo : v.oneCell' = true := by
                obtain ⟨A7, k7, hv7, _, _⟩ := own_slice HTK.out.own
                subst hv7
                rfl
              have hco' := HRO.out hvo
              clear htx hSt hcr
              go_wp2_with (first
                | (go_at_call 54; refine HB.out.mono ?_; rintro e w' ⟨rfl, rfl⟩)
                | (go_at_call 55; refine HC.out.mono ?_; rintro e w5 ⟨rfl, l5, f5⟩; have K5 := Lib.hid (HT5.out _ l5 f5); have K6 := Lib.hid (HS5.out _ K5.out); have d5 := K5.out.rev.ca; have e5 := K5.out.rev.frozen 33; clear l5 f5)
                | (go_at_call 56; refine (HD.out _ K6.out.left).mono ?_; rintro e w7 ⟨rfl, l7, f7⟩; have K7 := Lib.hid (HT7.out _ _ K6.out l7 f7); have K8 := Lib.hid (HS7.out _ K7.out); have d7 := K7.out.rev.cn; have e7 := K7.out.rev.frozen 34; clear l7 f7)
                | (go_at_call 57; refine (HX.out _ K8.out.left).mono ?_; rintro e w9 ⟨rfl, f9⟩; have KE := Lib.hid (HEnd2.out _ _ K8.out f9); have d9 := KE.out.1.ct; have e9 := Whole.frozen KE.out.1 35
                   have R9 : Hid (Whole (w9.setCell ⟨w.heap.size + 1, 35, none⟩ (.string St)) (w.heap.size + 1) 26 cr) := Lib.hid (by rw [← HCR.out]; exact HS9.out _ KE.out.1)
                   clear f9)
                | (refine wpList_load_row rfl 26 _ rfl _ rfl 26 _ _ _ R9.out Tryd.underlying26 rfl (by rw [hrs]; exact size36) ?_)
                | (refine wpList_store_at rfl 26 _ _ rfl w.heap.size 0 26 _ cr rfl rfl (KE.out.2 _).2.2 (by rw [hrs]; decide) (by rw [hrs]; exact size36) hco' ?_
                   intro w10 hw10 hf10
                   rw [laidAt_all _ _ (by rw [hrs]; rfl)] at hw10))
              refine bodyPost_ret (v := .agg cr) (results_cell_row rfl _ _ _ _ _ _ _ rfl hw10 Tryd.underlying26 rfl (by rw [hrs]; exact size36)) rfl ?_
              have hfin := (KE.out.2 (.string St))
              show RevPost g w G _ _
              rw [HN.out]
              refine ⟨v, by rw [HCR.out], ?_, ?_⟩
              · have o9 := own_fr hfin.2.1 hf10 (fun k hk e => by have := (World.ownsRow.lt hfin.2.1 k hk).1; omega)
                refine ⟨o9.1, ?_⟩
                rcases o9.2 with h0 | ⟨gg, cap, cur, hv, hb, rr⟩
                · exact .inl h0
                · exact .inr ⟨gg, cap, cur, hv, by omega, rr⟩
              · exact (HEnd.out _ hfin.1).trans hf10 (fun i hi e => by omega)
end Go.Proofs.YtppddpbacpeadaaDoor

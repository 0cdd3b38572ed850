/- What is proved: Topo of the document tells topoL. Conditions: the cells are there, the graph right, the numbers nodes'. -/
import Derived.Test.YtpaigmmpihcdaaaJd
namespace Go.Proofs.Ytpaigmmpihcdaaa
open Go.RowKit Go.Shelf
set_option linter.unusedVariables false

theorem topo_len (pr : Nat → List Nat) (N : Nat) : ∀ c s left, (topoF pr N c s left).length ≤ c
  | 0, _, _ => Nat.le_refl _
  | c + 1, [], left => by simp [topoF]
  | c + 1, n :: s, left => by
    rw [topoF, List.length_cons]
    have := topo_len pr N c (pushL pr N left n ++ s) (outB left n)
    omega
theorem cut_row {w : World} {b : Nat} {A : Option Addr} {n c : Nat} {l r : List Nat} (h : w.ownsRow b 3 1 (.slice A n c) (l ++ r).length (nC (l ++ r))) (hr : r ≠ []) : w.ownsRow b 3 1 (.slice A l.length c) l.length (nC l) := by
  refine ⟨by rw [nC_len, Nat.mul_one], ?_⟩
  rcases h.2 with ⟨h0, h1⟩ | ⟨g, cap, cur, hv, hb, hg, hnc, hcm, hcs, ht⟩
  · exact absurd (List.append_eq_nil_iff.1 (List.eq_nil_of_length_eq_zero h1)).2 hr
  · injection hv with e1 e2 e3
    subst e1; subst e3
    rw [List.length_append] at hnc
    refine .inr ⟨g, c, cur, rfl, hb, hg, by omega, hcm, hcs, ?_⟩
    have e : (cur.toList.take ((l ++ r).length * 1)).take (l.length * 1) = (nC (l ++ r)).take (l.length * 1) := by rw [ht]
    rw [List.take_take, List.length_append, Nat.min_eq_left (by omega)] at e
    rw [e, nC_append, Nat.mul_one, ← nC_len l, List.take_left]
/-- What stands at the head of a round: who is left, the pile (its top last), what is told. -/
structure TpR (w wr : World) (g N : Nat) (left : Nat → Bool) (vp : Value) (p : List Nat) (vo : Value) (out : List Nat) : Prop where
  lf : OwB w wr g N left
  pl : wr.ownsRow w.heap.size 3 1 vp p.length (nC p)
  ow : wr.ownsRow w.heap.size 3 1 vo out.length (nC out)
  ap : ∀ b, vp.ownBlock = some b → vo.ownBlock ≠ some b
section
variable {w wr w' : World} {g N : Nat} {left : Nat → Bool} {vp vo v' : Value} {p out : List Nat}
theorem TpR.frF (h : TpR w wr g N left vp p vo out) (f : Fr (fun _ => False) wr w') : TpR w w' g N left vp p vo out := ⟨h.lf.fr f, own_fr h.pl f (fun _ _ e => e), own_fr h.ow f (fun _ _ e => e), h.ap⟩
theorem TpR.np (h : TpR w wr g N left vp p vo out) : vp.ownBlock ≠ some g := own_apart h.pl h.lf.row (by decide)
theorem TpR.no (h : TpR w wr g N left vp p vo out) : vo.ownBlock ≠ some g := own_apart h.ow h.lf.row (by decide)
theorem OwB.keep {v : Value} {n : Nat} {xs : List Value} (h : OwB w wr g N left) (ho : wr.ownsRow w.heap.size 3 1 v n xs) (gr : wr.grownBy w' v.ownBlock) : OwB w w' g N left := by
  have f : Fr (fun k => v.ownBlock = some k) wr w' := (Fr.refl _ wr).grown gr (fun k e _ => e)
  exact ⟨h.row.fr f (fun e => own_apart ho h.row (by decide) e), h.old.trans f (fun j hj e => by have := (World.ownsRow.lt ho j e).1; omega), h.new⟩
theorem TpR.pushP (h : TpR w wr g N left vp p vo out) {x : Nat} (o : w'.ownsRow w.heap.size 3 1 v' (p.length + 1) (nC p ++ nC [x])) (gr : wr.grownBy w' vp.ownBlock) (at1 : v'.ownBlock = vp.ownBlock ∨ v'.ownBlock = some wr.heap.size) : TpR w w' g N left v' (p ++ [x]) vo out := by
  have f : Fr (fun k => vp.ownBlock = some k) wr w' := (Fr.refl _ wr).grown gr (fun k e _ => e)
  refine ⟨h.lf.keep h.pl gr, by rw [List.length_append, nC_append]; exact o, own_fr h.ow f (fun j hj e => h.ap j e hj), fun b hb hb2 => ?_⟩
  rcases at1 with a | a
  · exact h.ap b (by rw [← a]; exact hb) hb2
  · have := own_lt h.ow hb2
    rw [a] at hb
    injection hb with hb
    omega
theorem TpR.pushO (h : TpR w wr g N left vp p vo out) {x : Nat} (o : w'.ownsRow w.heap.size 3 1 v' (out.length + 1) (nC out ++ nC [x])) (gr : wr.grownBy w' vo.ownBlock) (at1 : v'.ownBlock = vo.ownBlock ∨ v'.ownBlock = some wr.heap.size) : TpR w w' g N left vp p v' (out ++ [x]) := by
  have f : Fr (fun k => vo.ownBlock = some k) wr w' := (Fr.refl _ wr).grown gr (fun k e _ => e)
  refine ⟨h.lf.keep h.ow gr, own_fr h.pl f (fun j hj e => h.ap j hj e), by rw [List.length_append, nC_append]; exact o, fun b hb hb2 => ?_⟩
  rcases at1 with a | a
  · exact h.ap b hb (by rw [← a]; exact hb2)
  · have := own_lt h.pl hb
    rw [a] at hb2
    injection hb2 with hb2
    omega
theorem TpR.out' (h : TpR w wr g N left vp p vo out) (n : Nat) (hn : n < N) : TpR w (wr.setCell ⟨g, n, none⟩ (.bool false)) g N (outB left n) vp p vo out := by
  have f : Fr (fun k => k = g) wr (wr.setCell ⟨g, n, none⟩ (.bool false)) := (Fr.refl (fun k => k = g) wr).setCell (p := ⟨g, n, none⟩) (fun _ => rfl) _
  exact ⟨h.lf.out n hn, own_fr h.pl f (fun j hj e => h.np (by rw [← (show j = g from e)]; exact hj)), own_fr h.ow f (fun j hj e => h.no (by rw [← (show j = g from e)]; exact hj)), h.ap⟩
theorem TpR.pop {A : Option Addr} {n c x : Nat} (h : TpR w wr g N left (.slice A n c) (p ++ [x]) vo out) : TpR w wr g N left (.slice A p.length c) p vo out :=
  ⟨h.lf, cut_row h.pl (by simp), h.ow, fun b hb => h.ap b (by cases A with | none => exact hb | some a => exact hb)⟩
end
theorem TkR.pre {w w2 wr wa w' : World} {g N : Nat} {left : Nat → Bool} {v v' : Value} {p : List Nat} {n : Nat} (h : TkR w w2 wr g N left v p) (hwa : wr.alloc (.cells #[.int .i64 (n : Nat)] 3) = wa) (o : w'.ownsRow w2.heap.size 3 1 v' (1 + p.length) (nC [n] ++ nC p)) (gr : wa.grownBy w' (some wr.heap.size)) : TkR w w2 w' g N left v' (n :: p) := by
  have hk := h.frF (w' := wa) (by subst hwa; exact (Fr.refl (fun _ => False) wr).alloc _)
  have f : Fr (fun k => k = wr.heap.size) wa w' := (Fr.refl _ wa).grown gr (fun k e _ => by injection e with e; exact e.symm)
  have hg := h.lf.row.lt
  have hs := h.fr.size
  refine ⟨⟨hk.lf.row.fr f (fun e => by have e2 : g = wr.heap.size := e; omega), hk.lf.old.trans f (fun j hj e => by have e2 : j = wr.heap.size := e; have := h.lf.old.size; omega), hk.lf.new⟩, hk.fr.trans f (fun j hj e => by have e2 : j = wr.heap.size := e; omega), ?_, h.le⟩
  rw [show (n :: p).length = 1 + p.length by rw [List.length_cons]; omega, show n :: p = [n] ++ p from rfl, nC_append]
  exact o
theorem made_one (w : World) (b n : Nat) (hb : b ≤ w.heap.size) : (w.alloc (.cells #[.int .i64 (n : Nat)] 3)).ownsRow b 3 1 (.slice (some ⟨w.heap.size, 0, none⟩) 1 1) 1 (nC [n]) :=
  ⟨rfl, .inr ⟨w.heap.size, 1, #[.int .i64 (n : Nat)], rfl, hb, heap_alloc_new w _, Nat.le_refl _, by unfold maxLen; omega, rfl, by simp [nC]⟩⟩
end Go.Proofs.Ytpaigmmpihcdaaa

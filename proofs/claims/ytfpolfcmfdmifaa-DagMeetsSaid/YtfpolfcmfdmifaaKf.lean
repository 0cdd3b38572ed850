/- What is proved: a painting in memory; its queue's put and next; marks asked; a new painting; nodes marked. Conditions: the painting is the call's own; at most 128 nodes. -/
import Derived.Test.YtfpolfcmfdmifaaKe
namespace Go.Proofs.Ytfpolfcmfdmifaa
open Go.RowKit Go.Shelf
set_option linter.unusedVariables false

theorem bits_or : ∀ x y : Fin 8, bits .or .u8 ((x : Nat) : Int) ((y : Nat) : Int) = (((x : Nat) ||| (y : Nat) : Nat) : Int) := by decide
theorem bits_and : ∀ x y : Fin 8, bits .and .u8 ((x : Nat) : Int) ((y : Nat) : Int) = (((x : Nat) &&& (y : Nat) : Nat) : Int) := by decide
theorem bor {x y : Nat} (hx : x < 8) (hy : y < 8) : bits .or .u8 (x : Int) (y : Int) = ((x ||| y : Nat) : Int) := bits_or ⟨x, hx⟩ ⟨y, hy⟩
theorem band {x y : Nat} (hx : x < 8) (hy : y < 8) : bits .and .u8 (x : Int) (y : Int) = ((x &&& y : Nat) : Int) := bits_and ⟨x, hx⟩ ⟨y, hy⟩

/-- A painting at block g, its marks at block gm, its queue q. -/
structure Pn (w0 w : World) (g gm : Nat) (gv : Value) (N : Nat) (M : Nat → Nat) (q : Value) (l : List Nat) : Prop where
  pb : Whole w g 66 #[gv, .slice (some ⟨gm, 0, none⟩) N N, q]
  mb : Whole w gm 61 (rowC (markC M) N)
  qb : OwnN w0 w q l
  lg : w0.heap.size ≤ g
  lm : w0.heap.size ≤ gm
section
variable {w0 w w' : World} {g gm : Nat} {gv : Value} {N : Nat} {M : Nat → Nat} {q : Value} {l : List Nat}
theorem Pn.ne (h : Pn w0 w g gm gv N M q l) : g ≠ gm := h.pb.apart h.mb (by decide)
theorem Pn.qg (h : Pn w0 w g gm gv N M q l) : q.ownBlock ≠ some g := own_apart h.qb.1 h.pb (by decide)
theorem Pn.qm (h : Pn w0 w g gm gv N M q l) : q.ownBlock ≠ some gm := own_apart h.qb.1 h.mb (by decide)
theorem Pn.fr (h : Pn w0 w g gm gv N M q l) (f : Fr (fun _ => False) w w') : Pn w0 w' g gm gv N M q l := ⟨h.pb.fr f (fun e => e), h.mb.fr f (fun e => e), h.qb.fr f, h.lg, h.lm⟩
theorem OwnN.set (h : OwnN w0 w q l) {k : Nat} (hk : w0.heap.size ≤ k) (hq : q.ownBlock ≠ some k) (i : Nat) (u : Value) : OwnN w0 (w.setCell ⟨k, i, none⟩ u) q l := by
  have f : Fr (fun j => j = k) w (w.setCell ⟨k, i, none⟩ u) := (Fr.refl (fun j => j = k) w).setCell (p := ⟨k, i, none⟩) (fun _ => rfl) u
  exact ⟨own_fr h.1 f (fun j hj e => hq (by rw [← (show j = k from e)]; exact hj)), h.2.trans f (fun j hj e => by have : j = k := e; omega)⟩
theorem Pn.setq {v' : Value} {l' : List Nat} (hp : Whole w g 66 #[gv, .slice (some ⟨gm, 0, none⟩) N N, q]) (hm : Whole w gm 61 (rowC (markC M) N)) (ho : OwnN w0 w v' l') (hg : w0.heap.size ≤ g) (hgm : w0.heap.size ≤ gm) : Pn w0 (w.setCell ⟨g, 2, none⟩ v') g gm gv N M v' l' := by
  have f : Fr (fun j => j = g) w (w.setCell ⟨g, 2, none⟩ v') := (Fr.refl (fun j => j = g) w).setCell (p := ⟨g, 2, none⟩) (fun _ => rfl) v'
  refine ⟨?_, hm.fr f (fun e => hp.apart hm (by decide) (show gm = g from e).symm), ho.set hg (own_apart ho.1 hp (by decide)) 2 v', hg, hgm⟩
  have := hp.set 2 v'
  simpa using this
theorem Pn.setm (h : Pn w0 w g gm gv N M q l) (x m : Nat) (hx : x < N) : Pn w0 (w.setCell ⟨gm, x, none⟩ (.int .u8 (M x ||| m : Nat))) g gm gv N (addM M m [x]) q l := by
  have f : Fr (fun j => j = gm) w (w.setCell ⟨gm, x, none⟩ (.int .u8 (M x ||| m : Nat))) := (Fr.refl (fun j => j = gm) w).setCell (p := ⟨gm, x, none⟩) (fun _ => rfl) _
  refine ⟨h.pb.fr f (fun e => h.ne e), h.mb.rset x _ hx _ (fun j hj => ?_), h.qb.set h.lm h.qm x _, h.lg, h.lm⟩
  unfold markC addM
  by_cases e : j = x
  · subst e; simp
  · simp [e]
theorem Pn.mark (h : Pn w0 w g gm gv N M q l) (x : Nat) (hx : x < N) : w.cell? ⟨gm, x, none⟩ = some (.int .u8 (M x : Nat)) := h.mb.rcell x hx
theorem OwnN.cut {A : Option Addr} {n c : Nat} {l r : List Nat} (h : OwnN w0 w (.slice A n c) (l ++ r)) (hr : r ≠ []) : OwnN w0 w (.slice A l.length c) l := by
  have hn : n = (l ++ r).length := by
    obtain ⟨B, d, hv, _⟩ := h.shape
    injection hv
  refine ⟨⟨by rw [nC_len, Nat.mul_one], ?_⟩, h.2⟩
  rcases h.1.2 with ⟨h0, h1⟩ | ⟨g, cap, cur, hv, hb, hg, hnc, hcm, hcs, ht⟩
  · exact absurd (List.append_eq_nil_iff.1 (List.eq_nil_of_length_eq_zero h1)).2 hr
  · injection hv with e1 e2 e3
    subst e1; subst e3
    rw [List.length_append] at hnc
    refine .inr ⟨g, c, cur, rfl, hb, hg, by omega, hcm, hcs, ?_⟩
    have e : (cur.toList.take ((l ++ r).length * 1)).take (l.length * 1) = (nC (l ++ r)).take (l.length * 1) := by rw [ht]
    rw [List.take_take, List.length_append, Nat.min_eq_left (by omega)] at e
    rw [e, nC_append, Nat.mul_one, ← nC_len l, List.take_left]
end

set_option maxHeartbeats 1600000 in
set_option maxRecDepth 100000 in
theorem Daput_any (w0 : World) (g gm : Nat) (gv : Value) (N : Nat) (M : Nat → Nat) (q : Value) (f f' : Nat → Bool) (c x : Nat) (hc : c ≤ 128) (hx : x < c) (hf : ∀ k, f' k = (f k || decide (k = x))) (w : World) (h : Pn w0 w g gm gv N M q (selB f c)) :
    Calls Try.prog 38 #[.pointer (some ⟨g, 2, none⟩), .int .i64 x] w fun e w' => e = .returned (.tuple #[]) ∧ ∃ q', Pn w0 w' g gm gv N M q' (selB f' c) ∧ Fr (fun k => k = g ∨ q.ownBlock = some k) w w' ∧ NewB w q q' := by
  have hsl := selB_len f c
  have HS := Lib.hid (fun p H => sel_put f f' c x p hx hf H)
  have hasc := selB_asc f c
  obtain ⟨l, hl⟩ : ∃ l, selB f c = l := ⟨_, rfl⟩
  rw [hl] at h hsl HS hasc
  obtain ⟨A, cap, rfl, hlc, hcm, hA, hli⟩ := h.qb.shape
  have HP := Lib.hid h
  have c2 : w.cell? ⟨g, 2, none⟩ = some (.slice A l.length cap) := by rw [h.pb.cell]; rfl
  have f2 : w.frozen? ⟨g, 2, none⟩ = false := h.pb.frozen 2
  have HB := Lib.hid (GnBSearch_any A cap l x (by omega) hasc w hli)
  have HI := Lib.hid (fun w1 i hi h1 hb hg => GnInsert_any w0 (.slice A l.length cap) l x i w.heap.size (by omega) hi w1 h1 hb hg)
  obtain ⟨L, hL⟩ : ∃ L, l.length = L := ⟨_, rfl⟩
  rw [hL] at HB HI HP c2 ⊢
  have HL := Lib.hid hL
  clear h hasc hli hcm hlc hA hl hL hf
  go_enter Try.func38, Try.ntmps38
  go_upto_region 1 with (go_at_call 43; refine HB.out.mono ?_; rintro e w' ⟨p, rfl, hh, rfl⟩; obtain ⟨b, hb⟩ : ∃ b, hitB l x p = b := ⟨_, rfl⟩; rw [hb]; have HH := Lib.hid hh; have HBb := Lib.hid hb; clear hh hb)
  cases b
  · obtain ⟨w1, hw1⟩ : ∃ w1, w.alloc (.cells #[.int .i64 (x : Nat)] 3) = w1 := ⟨_, rfl⟩
    have HF1 := Lib.hid (show Fr (fun _ => False) w w1 from by subst hw1; exact (Fr.refl _ w).alloc _)
    have HW1 := Lib.hid (show Whole w1 w.heap.size 3 (nC [x]).toArray from by subst hw1; exact Whole.new w 3 _)
    have HO1 := Lib.hid (HP.out.qb.fr HF1.out)
    have HG1 : Hid ((Value.slice A L cap).ownBlock ≠ some w.heap.size) := Lib.hid (fun e => by have := own_lt HP.out.qb.1 e; omega)
    go_wp2_with (go_at_call 44; refine (HI.out _ p (by have := HH.out.le; have := HL.out; omega) HO1.out HW1.out HG1.out).mono ?_
                 rintro e w2 ⟨v', rfl, hins⟩
                 obtain ⟨A', c', hv', _, _, _, _⟩ := hins.1.shape
                 obtain ⟨n', hn'⟩ : ∃ n', (l.take p ++ x :: l.drop p).length = n' := ⟨_, rfl⟩
                 rw [hn'] at hv'
                 subst hv'
                 have HIn := Lib.hid hins
                 have HP2 := Lib.hid (show Whole w2 g 66 _ from (HP.out.pb.fr HF1.out (fun e => e)).fr hins.2.1 (fun e => HP.out.qg e))
                 have HM2 := Lib.hid (show Whole w2 gm 61 _ from (HP.out.mb.fr HF1.out (fun e => e)).fr hins.2.1 (fun e => HP.out.qm e))
                 have c3 := HP2.out.cell 2
                 have f3 := HP2.out.frozen 2
                 simp only [List.getElem?_toArray, List.getElem?_cons_succ, List.getElem?_cons_zero] at c3
                 clear hins hn')
    go_end0
    refine ⟨rfl, .slice A' n' c', ?_, ?_, ?_⟩
    · rw [(HS.out p HH.out).2 HBb.out]
      exact Pn.setq HP2.out HM2.out HIn.out.1 HP.out.lg HP.out.lm
    · exact (((HF1.out.mono (fun _ _ e => e.elim)).trans HIn.out.2.1 (fun j _ e => .inr e))).setCell (p := ⟨g, 2, none⟩) (fun _ => .inl rfl) _
    · exact HIn.out.2.2.elim .inl (fun ⟨b, h1, h2⟩ => .inr ⟨b, h1, Nat.le_trans HF1.out.size h2⟩)
  · go_wp2
    go_end0
    exact ⟨rfl, _, by rw [(HS.out p HH.out).1 HBb.out]; exact HP.out, Fr.refl _ _, .inl rfl⟩
end Go.Proofs.Ytfpolfcmfdmifaa

/- What is proved: what waits, in memory: a pile and a queue of the program; put, next, ready. Conditions: the memory is the call's own. -/
import Derived.Test.YtpaigmmpihcdaaaJj
import Derived.Test.YtpaigmmpihcdaaaJf
namespace Go.Proofs.Ytpaigmmpihcdaaa
open Go.RowKit Go.Shelf
set_option linter.unusedVariables false

/-- A world without its younger blocks. -/
def cutW (w : World) (b : Nat) : World := { w with heap := w.heap.extract 0 b }
theorem cutW_size {w : World} {b : Nat} (h : b ≤ w.heap.size) : (cutW w b).heap.size = b := by
  show (w.heap.extract 0 b).size = b
  rw [Array.size_extract]; omega
theorem cutW_fr {w : World} {b : Nat} (h : b ≤ w.heap.size) : Fr (fun _ => False) (cutW w b) w :=
  ⟨rfl, rfl, rfl, by rw [cutW_size h]; exact h, fun k hk _ => by
    rw [cutW_size h] at hk
    show w.heap[k]? = (w.heap.extract 0 b)[k]?
    rw [Array.getElem?_extract, if_pos (by omega), Nat.zero_add]⟩
theorem ownN_cut {w : World} {b : Nat} {v : Value} {l : List Nat} (hb : b ≤ w.heap.size) (h : w.ownsRow b 3 1 v l.length (nC l)) : OwnN (cutW w b) w v l := ⟨by rw [cutW_size hb]; exact h, cutW_fr hb⟩
/-- Blocks that what waits may turn. -/
def IntB (w : World) (k : Nat) : Prop := ∃ (cs : Array Value) (hd : Nat × Nat), w.heap[k]? = some (.cells cs 3 hd)
def Chg (w : World) (gq k : Nat) : Prop := k = gq ∨ IntB w k
theorem own_int {w : World} {b n : Nat} {v : Value} {xs : List Value} (h : w.ownsRow b 3 1 v n xs) {k : Nat} (hk : v.ownBlock = some k) : IntB w k := by
  rcases h.2 with ⟨h0, _⟩ | ⟨g, cap, cur, hv, hb, hg, _⟩
  · rw [h0] at hk; cases hk
  · rw [hv] at hk; injection hk with hk; subst hk; exact ⟨cur, (0, 0), hg⟩
theorem Whole.int {w : World} {g : Nat} {cs : Array Value} (h : Whole w g 3 cs) : IntB w g := ⟨cs, (0, 0), h⟩
theorem Whole.noInt {w : World} {g : Nat} {t : TypeId} {cs : Array Value} (h : Whole w g t cs) (ht : t ≠ 3) : ¬ IntB w g := fun ⟨c, hd, e⟩ => by
  have h2 : w.heap[g]? = some (.cells cs t (0, 0)) := h
  rw [h2] at e
  injection e with e
  injection e with e1 e2 e3
  exact ht e2
theorem Chg.trans {a b c : World} {gq : Nat} (h : Fr (Chg a gq) a b) (k : Fr (Chg b gq) b c) : Fr (Chg a gq) a c :=
  ⟨k.os.trans h.os, k.tape.trans h.tape, k.output.trans h.output, Nat.le_trans h.size k.size, fun i hi hn => by
    have h1 := h.block i hi hn
    refine (k.block i (Nat.lt_of_lt_of_le hi h.size) (fun e => hn ?_)).trans h1
    rcases e with e | ⟨cs, hd, e⟩
    · exact .inl e
    · exact .inr ⟨cs, hd, by rw [← h1]; exact e⟩⟩
theorem Chg.of {a b : World} {gq : Nat} (h : Fr (fun _ => False) a b) : Fr (Chg a gq) a b := h.mono (fun _ _ e => e.elim)

def ageF (gb : Nat) : Value := .func (.func 37) #[] #[.pointer (some ⟨gb, 0, none⟩)]
/-- What stands while it is told. -/
structure TlR (wq wr : World) (ga gq gb N : Nat) (ah : Nat → Nat) (byv vq : Value) (l : List Nat) (vo : Value) (out : List Nat) : Prop where
  fr : Fr (fun k => k = ga) wq wr
  ab : Whole wr ga 3 (rowC (intC ah) N)
  qb : Whole wr gq 54 #[vq, ageF gb]
  bb : Whole wr gb 23 #[byv]
  ql : wr.ownsRow wq.heap.size 3 1 vq l.length (nC l)
  ol : wr.ownsRow wq.heap.size 3 1 vo out.length (nC out)
  ap : ∀ k, vq.ownBlock = some k → vo.ownBlock ≠ some k
  lq : wq.heap.size ≤ gq
  la : ga < wq.heap.size
section
variable {wq wr w2 w' : World} {ga gq gb N : Nat} {ah : Nat → Nat} {byv vq vo v' : Value} {l l' out : List Nat}
theorem TlR.frF (h : TlR wq wr ga gq gb N ah byv vq l vo out) (f : Fr (fun _ => False) wr w') : TlR wq w' ga gq gb N ah byv vq l vo out :=
  ⟨h.fr.trans f (fun _ _ e => e.elim), h.ab.fr f (fun e => e), h.qb.fr f (fun e => e), h.bb.fr f (fun e => e), own_fr h.ql f (fun _ _ e => e), own_fr h.ol f (fun _ _ e => e), h.ap, h.lq, h.la⟩
theorem TlR.qN (h : TlR wq wr ga gq gb N ah byv vq l vo out) : OwnN (cutW wr wq.heap.size) wr vq l := ownN_cut h.fr.size h.ql
theorem TlR.oN (h : TlR wq wr ga gq gb N ah byv vq l vo out) : OwnN (cutW wr wq.heap.size) wr vo out := ownN_cut h.fr.size h.ol
/-- A new row stands where the old one stood. -/
theorem TlR.setQ (h : TlR wq wr ga gq gb N ah byv vq l vo out) (f : Fr (fun k => vq.ownBlock = some k) wr w2) (o : w2.ownsRow wq.heap.size 3 1 v' l'.length (nC l')) (ap : ∀ k, v'.ownBlock = some k → vo.ownBlock ≠ some k) :
    TlR wq (w2.setCell ⟨gq, 0, none⟩ v') ga gq gb N ah byv v' l' vo out ∧ Fr (Chg wr gq) wr (w2.setCell ⟨gq, 0, none⟩ v') := by
  have nq : vq.ownBlock ≠ some gq := own_apart h.ql h.qb (by decide)
  have na : ga ≠ gq := by have := h.la; have := h.lq; omega
  have nv : vq.ownBlock ≠ some ga := fun e => by have := (World.ownsRow.lt h.ql ga e).1; have := h.la; omega
  have q2 : Whole w2 gq 54 #[vq, ageF gb] := h.qb.fr f nq
  have b2 := h.bb.fr f (fun e => own_apart h.ql h.bb (by decide) e)
  have s : Fr (fun k => k = gq) w2 (w2.setCell ⟨gq, 0, none⟩ v') := (Fr.refl (fun k => k = gq) w2).setCell (p := ⟨gq, 0, none⟩) (fun _ => rfl) v'
  have nb : gb ≠ gq := h.bb.apart h.qb (by decide)
  have no2 : vo.ownBlock ≠ some gq := own_apart h.ol h.qb (by decide)
  have nv2 : v'.ownBlock ≠ some gq := own_apart o q2 (by decide)
  refine ⟨⟨?_, ?_, ?_, b2.fr s (fun e => nb e), own_fr o s (fun k hk e => nv2 (by rw [← (show k = gq from e)]; exact hk)), ?_, ap, h.lq, h.la⟩, ?_⟩
  · exact (h.fr.trans f (fun k hk e => by have := (World.ownsRow.lt h.ql k e).1; omega)).trans s (fun k hk e => by have e2 : k = gq := e; have := h.lq; omega)
  · exact (h.ab.fr f nv).fr s na
  · have := q2.set 0 v'
    simpa using this
  · exact own_fr (own_fr h.ol f (fun k hk e => h.ap k e hk)) s (fun k hk e => no2 (by rw [← (show k = gq from e)]; exact hk))
  · exact (f.mono (fun k _ e => .inr (own_int h.ql e))).trans s (fun k _ e => .inl e)
theorem TlR.pushO (h : TlR wq wr ga gq gb N ah byv vq l vo out) {x : Nat} (o : w'.ownsRow wq.heap.size 3 1 v' (out.length + 1) (nC out ++ nC [x])) (gr : wr.grownBy w' vo.ownBlock) (at1 : v'.ownBlock = vo.ownBlock ∨ v'.ownBlock = some wr.heap.size) :
    TlR wq w' ga gq gb N ah byv vq l v' (out ++ [x]) ∧ Fr (Chg wr gq) wr w' := by
  have f : Fr (fun k => vo.ownBlock = some k) wr w' := (Fr.refl _ wr).grown gr (fun k e _ => e)
  have no2 : vo.ownBlock ≠ some gq := own_apart h.ol h.qb (by decide)
  have nb2 : vo.ownBlock ≠ some gb := own_apart h.ol h.bb (by decide)
  have na : vo.ownBlock ≠ some ga := fun e => by have := (World.ownsRow.lt h.ol ga e).1; have := h.la; omega
  refine ⟨⟨h.fr.trans f (fun k hk e => by have := (World.ownsRow.lt h.ol k e).1; omega), h.ab.fr f na, h.qb.fr f no2, h.bb.fr f nb2, own_fr h.ql f (fun k hk e => h.ap k hk e), by rw [List.length_append, nC_append]; exact o, fun k hk hk2 => ?_, h.lq, h.la⟩, f.mono (fun k _ e => .inr (own_int h.ol e))⟩
  rcases at1 with a | a
  · exact h.ap k hk (by rw [← a]; exact hk2)
  · have := own_lt h.ql hk
    rw [a] at hk2
    injection hk2 with hk2
    omega
theorem TlR.setA (h : TlR wq wr ga gq gb N ah byv vq l vo out) (x v : Nat) (hx : x < N) (ah' : Nat → Nat) (he : ∀ j, j < N → ah' j = if j = x then v else ah j) :
    TlR wq (wr.setCell ⟨ga, x, none⟩ (.int .i64 v)) ga gq gb N ah' byv vq l vo out ∧ Fr (Chg wr gq) wr (wr.setCell ⟨ga, x, none⟩ (.int .i64 v)) := by
  have s : Fr (fun k => k = ga) wr (wr.setCell ⟨ga, x, none⟩ (.int .i64 v)) := (Fr.refl (fun k => k = ga) wr).setCell (p := ⟨ga, x, none⟩) (fun _ => rfl) _
  have na : ga ≠ gq := by have := h.la; have := h.lq; omega
  have nv : vq.ownBlock ≠ some ga := fun e => by have := (World.ownsRow.lt h.ql ga e).1; have := h.la; omega
  have no2 : vo.ownBlock ≠ some ga := fun e => by have := (World.ownsRow.lt h.ol ga e).1; have := h.la; omega
  refine ⟨⟨h.fr.trans s (fun _ _ e => e), h.ab.rset x _ hx _ (fun j hj => ?_), h.qb.fr s (fun e => na e.symm), h.bb.fr s (fun e => h.bb.apart h.ab (by decide) e), own_fr h.ql s (fun k hk e => nv (by rw [← (show k = ga from e)]; exact hk)), own_fr h.ol s (fun k hk e => no2 (by rw [← (show k = ga from e)]; exact hk)), h.ap, h.lq, h.la⟩, s.mono (fun k _ e => .inr (by rw [show k = ga from e]; exact h.ab.int))⟩
  unfold intC
  rw [he j hj]
  by_cases e : j = x
  · subst e; simp
  · simp [e]
end

set_option maxHeartbeats 1600000 in
set_option maxRecDepth 100000 in
theorem Orpnext_no (wq : World) (ga gq gb N : Nat) (ah : Nat → Nat) (byv vq vo : Value) (out : List Nat) (w : World) (h : TlR wq w ga gq gb N ah byv vq [] vo out) :
    Calls Try.prog 64 #[.pointer (some ⟨gq, 0, none⟩)] w fun e w' => e = .returned (.tuple #[.int .i64 0, .bool false]) ∧ w = w' := by
  obtain ⟨A, cap, rfl, hlc, hcm, hA, hli⟩ := h.qN.shape
  have c2 : w.cell? ⟨gq, 0, none⟩ = some (.slice A 0 cap) := by rw [h.qb.cell]; rfl
  have f2 : w.frozen? ⟨gq, 0, none⟩ = false := h.qb.frozen 0
  clear h hli hcm hlc hA
  go_enter Try.func64, Try.ntmps64
  go_wp2
  go_ret2
  exact ⟨rfl, rfl⟩
set_option maxHeartbeats 1600000 in
set_option maxRecDepth 100000 in
theorem Orpnext_yes (wq : World) (ga gq gb N : Nat) (ah : Nat → Nat) (byv vq vo : Value) (l out : List Nat) (x : Nat) (hl : l.length ≤ 1000) (w : World) (h : TlR wq w ga gq gb N ah byv vq (l ++ [x]) vo out) :
    Calls Try.prog 64 #[.pointer (some ⟨gq, 0, none⟩)] w fun e w' => e = .returned (.tuple #[.int .i64 x, .bool true]) ∧ (∃ vq', TlR wq w' ga gq gb N ah byv vq' l vo out) ∧ Fr (Chg w gq) w w' := by
  obtain ⟨A, cap, rfl, hlc, hcm, hA, hli⟩ := h.qN.shape
  have hcut := cut_row h.ql (by simp)
  have HS := Lib.hid (h.setQ (Fr.refl _ w) hcut (fun k hk => h.ap k (by cases A with | none => exact hk | some a => exact hk)))
  have c2 : w.cell? ⟨gq, 0, none⟩ = some (.slice A (l ++ [x]).length cap) := by rw [h.qb.cell]; rfl
  have f2 : w.frozen? ⟨gq, 0, none⟩ = false := h.qb.frozen 0
  have e1 : (l ++ [x]).length = l.length + 1 := by simp
  obtain ⟨b, o, rfl, cx⟩ := lies_nat hli (Fr.refl _ w) l.length (by omega)
  rw [show (l ++ [x]).getD l.length 0 = x by simp [List.getD_eq_getElem?_getD]] at cx
  have hs := fun w => slice_hdN (some ⟨b, o, none⟩) (.inr ⟨b, o, rfl⟩) (l.length + 1) cap l.length (by omega) w
  rw [e1] at c2 hlc
  obtain ⟨L, hL⟩ : ∃ L, l.length = L := ⟨_, rfl⟩
  rw [hL] at cx hs hl c2 hlc HS
  have wL : IntKind.i64.wrap ((L : Int) + 1 - 1) = (L : Int) := by rw [IntKind.wrap_i64]; omega
  have nL : ¬ ((L : Int) < 0) := by omega
  have nL2 : (L : Int) < (L : Int) + 1 := by omega
  have hz : (((L + 1 : Nat) : Int)) = (L : Int) + 1 := by omega
  clear h hli hcm hA hL e1 hcut
  go_enter Try.func64, Try.ntmps64
  go_wp2
  go_ret2
  exact ⟨rfl, ⟨_, HS.out.1⟩, HS.out.2⟩

set_option maxHeartbeats 1600000 in
set_option maxRecDepth 100000 in
theorem Orpput_any (wq : World) (ga gq gb N : Nat) (ah : Nat → Nat) (byv vq vo : Value) (l out : List Nat) (x : Nat) (hl : l.length ≤ 1000) (w : World) (h : TlR wq w ga gq gb N ah byv vq l vo out) :
    Calls Try.prog 65 #[.pointer (some ⟨gq, 0, none⟩), .int .i64 x] w fun e w' => e = .returned (.tuple #[]) ∧ (∃ vq', TlR wq w' ga gq gb N ah byv vq' (l ++ [x]) vo out) ∧ Fr (Chg w gq) w w' := by
  obtain ⟨i0, hii, hz0, hz1, hz2⟩ := info_parts info_int
  have HT := Lib.hid h
  have c2 : w.cell? ⟨gq, 0, none⟩ = some vq := by rw [h.qb.cell]; rfl
  have f2 : w.frozen? ⟨gq, 0, none⟩ = false := h.qb.frozen 0
  obtain ⟨wa, hwa⟩ : ∃ w1, w.alloc (.cells #[.int .i64 (x : Nat)] 3) = w1 := ⟨_, rfl⟩
  have HFa := Lib.hid (show Fr (fun _ => False) w wa from by subst hwa; exact (Fr.refl (fun _ => False) w).alloc _)
  have HSrc := Lib.hid (show Src Try.prog 1 23 (.slice (some ⟨w.heap.size, 0, none⟩) 1 1) 1 (nC [x]) wa from by subst hwa; exact src_one Try.underlying23 w _ rfl)
  have HTa := Lib.hid (h.frF HFa.out)
  have HBase : Hid (wq.heap.size ≤ wa.heap.size) := Lib.hid HTa.out.fr.size
  have HSlc : Hid (∀ (v' : Value) n xs (w4 : World), w4.ownsRow wq.heap.size 3 1 v' n xs → ∃ A n' c, v' = .slice A n' c) := Lib.hid (fun v' n xs w4 o => by
    rcases o.2 with ⟨h0, _⟩ | ⟨g, cap, cur, hv, _⟩
    · exact ⟨_, _, _, h0⟩
    · exact ⟨_, _, _, hv⟩)
  clear h
  go_enter Try.func65, Try.ntmps65
  go_wp2_with (at_builtin; refine wpList_append_row _ rfl (.tmp 8) (.tmp 10) 23 23 rfl wq.heap.size 3 i0 (.int .i64 0) 1 8 Try.underlying23 hii hz0 hz1 hz2 rfl vq l.length (nC l) rfl HTa.out.ql (.slice (some ⟨w.heap.size, 0, none⟩) 1 1) 1 (nC [x]) rfl HSrc.out (by unfold maxLen; omega) (by omega) HBase.out ?_
               intro v' w4 o1 g1 at1
               have HT4 := Lib.hid (HTa.out.setQ (l' := l ++ [x]) ((Fr.refl _ wa).grown g1 (fun k e _ => e)) (by rw [List.length_append, nC_append]; exact o1) (fun k hk hk2 => by
                 rcases at1 with a | a
                 · exact HTa.out.ap k (by rw [← a]; exact hk) hk2
                 · have := own_lt HTa.out.ol hk2
                   rw [a] at hk; injection hk with hk; omega))
               have HQ4 := Lib.hid (show Whole w4 gq 54 #[vq, ageF gb] from HTa.out.qb.fr ((Fr.refl (fun k => vq.ownBlock = some k) wa).grown g1 (fun k e _ => e)) (own_apart HTa.out.ql HTa.out.qb (by decide)))
               have c4 : w4.cell? ⟨gq, 0, none⟩ = some vq := by rw [HQ4.out.cell]; rfl
               have f4 : w4.frozen? ⟨gq, 0, none⟩ = false := HQ4.out.frozen 0
               obtain ⟨A', n', c', hv'⟩ := HSlc.out v' _ _ w4 o1
               subst hv'
               clear o1 g1 at1)
  go_end0
  exact ⟨rfl, ⟨_, HT4.out.1⟩, Chg.trans (Chg.of HFa.out) HT4.out.2⟩

structure OqS (gq : Nat) (a b : Value) (w : World) : Prop where
  c0 : w.cell? ⟨gq, 0, none⟩ = some a
  c1 : w.cell? ⟨gq, 1, none⟩ = some b
set_option maxHeartbeats 1600000 in
set_option maxRecDepth 100000 in
theorem Orqput_any (wq : World) (ga gq gb N : Nat) (ah : Nat → Nat) (B : Option Addr) (nb cB : Nat) (by' : List Int) (vq vo : Value) (l out : List Nat) (x : Nat) (hb : by'.length = nb) (hl : l.length ≤ 1000) (hln : ∀ y ∈ l, y < nb) (hx : x < nb) (hr : l.Pairwise (old (fun n => by'.getD n 0))) (w : World) (h : TlR wq w ga gq gb N ah (.slice B nb cB) vq l vo out) (hby : Lies w B (zC by')) :
    Calls Try.prog 34 #[.pointer (some ⟨gq, 0, none⟩), .int .i64 x] w fun e w' => e = .returned (.tuple #[]) ∧ (∃ vq' l', InsA (fun n => by'.getD n 0) l x l' ∧ TlR wq w' ga gq gb N ah (.slice B nb cB) vq' l' vo out) ∧ Fr (Chg w gq) w w' := by
  have HT := Lib.hid h
  obtain ⟨A, c, hvq, hlc, hcm, hA, hli⟩ := h.qN.shape
  have HBs := Lib.hid (fun w1 (f : Fr (fun _ => False) w w1) => GnBSearchF_any gb B nb cB by' A c l x hb hl hln hx hr w1 (hli.fr f (fun _ _ e => e)) (by rw [(h.bb.fr f (fun e => e)).cell]; rfl) (hby.fr f (fun _ _ e => e)))
  rw [← hvq] at HBs
  have HIns := Lib.hid (fun (w1 : World) (i g1 : Nat) (hi : i ≤ l.length) (hT : TlR wq w1 ga gq gb N ah (.slice B nb cB) vq l vo out) (hb1 : Whole w1 g1 3 (nC [x]).toArray) (hg : vq.ownBlock ≠ some g1) => GnInsert_any (cutW w1 wq.heap.size) vq l x i g1 hl hi w1 hT.qN hb1 hg)
  have c2 : w.cell? ⟨gq, 0, none⟩ = some vq := by rw [h.qb.cell]; rfl
  have c3 : w.cell? ⟨gq, 1, none⟩ = some (.func (.func 37) #[] #[.pointer (some ⟨gb, 0, none⟩)]) := by rw [h.qb.cell]; rfl
  obtain ⟨t, ht⟩ : ∃ t : Nat → Int, (fun n => by'.getD n 0) = t := ⟨_, rfl⟩
  rw [ht] at HBs ⊢
  clear h hby hr hln hx hb ht hli hA hcm hlc hvq
  go_enter Try.func34, Try.ntmps34
  obtain ⟨cl, hcl⟩ : ∃ cl : Value, Value.func (.func 37) #[] #[.pointer (some ⟨gb, 0, none⟩)] = cl := ⟨_, rfl⟩
  have HCl := Lib.hid hcl
  rw [hcl] at c3 HBs
  clear hcl
  refine wp_seq_k ?_
  intro Kn hKn
  refine wp_region_held (S := OqS gq vq cl) (by kernel_rfl) ?_
  change wpAnyH _ _ _ _ _ _ _ _ (World.drew w)
  have HFc := Lib.hid (show Fr (fun _ => False) w w.drew from (Fr.refl _ w).drew)
  have HSq := Lib.hid (show OqS gq vq cl w.drew from ⟨HFc.out.cell c2 (fun e => e), HFc.out.cell c3 (fun e => e)⟩)
  obtain ⟨wc, hwc⟩ : ∃ wc, w.drew = wc := ⟨_, rfl⟩
  rw [hwc] at HFc HSq ⊢
  clear hwc c2 c3
  (
    refine wpAnyH_takeM (i := 0) (v := .pointer (some ⟨gq, 0, none⟩)) 7 rfl rfl (by kernel_rfl) (by kernel_rfl) (by kernel_rfl) (fun _ _ _ h => h) (.inl ⟨by rfl, ?_⟩) HSq.out ?_
    · intro wq hq
      obtain ⟨k0, k1⟩ := hq
      go_simp)
  (
    refine wpAnyH_takeM (i := 1) (v := .pointer (some ⟨gq, 0, none⟩)) 8 rfl rfl (by kernel_rfl) (by kernel_rfl) (by kernel_rfl) (fun _ _ _ h => h) (.inl ⟨by rfl, ?_⟩) HSq.out ?_
    · intro wq hq
      obtain ⟨k0, k1⟩ := hq
      go_simp)
  (
    refine wpAnyH_takeM (i := 2) (v := .pointer (some ⟨gq, 0, none⟩)) 9 rfl rfl (by kernel_rfl) (by kernel_rfl) (by kernel_rfl) (fun _ _ _ h => h) (.inl ⟨by rfl, ?_⟩) HSq.out ?_
    · intro wq hq
      obtain ⟨k0, k1⟩ := hq
      go_simp)
  (
    refine wpAnyH_takeM (i := 3) (v := .pointer (some ⟨gq, 0, none⟩)) 10 rfl rfl (by kernel_rfl) (by kernel_rfl) (by kernel_rfl) (fun _ _ _ h => h) (.inl ⟨by rfl, ?_⟩) HSq.out ?_
    · intro wq hq
      obtain ⟨k0, k1⟩ := hq
      go_simp)
  (
    refine wpAnyH_takeM (i := 4) (v := vq) 11 rfl rfl (by kernel_rfl) (by kernel_rfl) (by kernel_rfl) (fun _ _ _ h => h) (.inl ⟨by rfl, ?_⟩) HSq.out ?_
    · intro wq hq
      obtain ⟨k0, k1⟩ := hq
      go_simp)
  (
    refine wpAnyH_takeM (i := 5) (v := .int .i64 (x : Nat)) 12 rfl rfl (by kernel_rfl) (by kernel_rfl) (by kernel_rfl) (fun _ _ _ h => h) (.inl ⟨by rfl, ?_⟩) HSq.out ?_
    · intro wq hq
      obtain ⟨k0, k1⟩ := hq
      go_simp)
  (
    refine wpAnyH_takeM (i := 6) (v := .pointer (some ⟨gq, 0, none⟩)) 13 rfl rfl (by kernel_rfl) (by kernel_rfl) (by kernel_rfl) (fun _ _ _ h => h) (.inl ⟨by rfl, ?_⟩) HSq.out ?_
    · intro wq hq
      obtain ⟨k0, k1⟩ := hq
      go_simp)
  (
    refine wpAnyH_takeM (i := 7) (v := .pointer (some ⟨gq, 0, none⟩)) 14 rfl rfl (by kernel_rfl) (by kernel_rfl) (by kernel_rfl) (fun _ _ _ h => h) (.inl ⟨by rfl, ?_⟩) HSq.out ?_
    · intro wq hq
      obtain ⟨k0, k1⟩ := hq
      go_simp)
  (
    refine wpAnyH_takeM (i := 8) (v := .pointer (some ⟨gq, 1, none⟩)) 15 rfl rfl (by kernel_rfl) (by kernel_rfl) (by kernel_rfl) (fun _ _ _ h => h) (.inl ⟨by rfl, ?_⟩) HSq.out ?_
    · intro wq hq
      obtain ⟨k0, k1⟩ := hq
      go_simp)
  (
    refine wpAnyH_takeM (i := 9) (v := cl) 16 rfl rfl (by kernel_rfl) (by kernel_rfl) (by kernel_rfl) (fun _ _ _ h => h) (.inl ⟨by rfl, ?_⟩) HSq.out ?_
    · intro wq hq
      obtain ⟨k0, k1⟩ := hq
      go_simp)
  (
    try simp only [List.setIfInBounds_toArray, List.set_cons_succ, List.set_cons_zero]
    refine wpAnyH_all (rs := [10]) (by kernel_rfl) (by simp) ?_
    intro i hi
    simp only [List.mem_cons, List.not_mem_nil, or_false] at hi
    subst hi)
  refine wpOp_step rfl (fun K hK => ?_)
  go_simp
  go_wp2_with (go_at_call 40; refine (HBs.out _ HFc.out).mono ?_; rintro e w1 ⟨p, b, rfl, hh, hf⟩; have HH := Lib.hid hh; have HF1 := Lib.hid (HFc.out.trans hf (fun _ _ e => e)); clear hh hf)
  have HSq := Lib.hid (show OqS gq vq cl w1 from ⟨by rw [(HT.out.frF HF1.out).qb.cell]; rfl, by rw [(HT.out.frF HF1.out).qb.cell, ← HCl.out]; rfl⟩)
  refine ⟨HSq.out, ?_⟩
  (
    refine wpAnyH_takeM (i := 11) (v := .tuple #[.int .i64 (p : Nat), .bool b]) 6 rfl rfl (by kernel_rfl) (by kernel_rfl) (by kernel_rfl) (fun _ _ _ h => h) (.inl ⟨by rfl, ?_⟩) HSq.out ?_
    · intro wq hq
      obtain ⟨k0, k1⟩ := hq
      go_simp)
  (
    refine wpAnyH_takeM (i := 12) (v := .int .i64 (p : Nat)) 18 rfl rfl (by kernel_rfl) (by kernel_rfl) (by kernel_rfl) (fun _ _ _ h => h) (.inl ⟨by rfl, ?_⟩) HSq.out ?_
    · intro wq hq
      obtain ⟨k0, k1⟩ := hq
      go_simp)
  (
    refine wpAnyH_takeM (i := 13) (v := .bool b) 19 rfl rfl (by kernel_rfl) (by kernel_rfl) (by kernel_rfl) (fun _ _ _ h => h) (.inl ⟨by rfl, ?_⟩) HSq.out ?_
    · intro wq hq
      obtain ⟨k0, k1⟩ := hq
      go_simp)
  (
    refine wpAnyH_takeM (i := 14) (v := .int .i64 (p : Nat)) 4 rfl rfl (by kernel_rfl) (by kernel_rfl) (by kernel_rfl) (fun _ _ _ h => h) (.inl ⟨by rfl, ?_⟩) HSq.out ?_
    · intro wq hq
      obtain ⟨k0, k1⟩ := hq
      go_simp)
  (
    refine wpAnyH_takeM (i := 15) (v := .bool b) 5 rfl rfl (by kernel_rfl) (by kernel_rfl) (by kernel_rfl) (fun _ _ _ h => h) (.inl ⟨by rfl, ?_⟩) HSq.out ?_
    · intro wq hq
      obtain ⟨k0, k1⟩ := hq
      go_simp)
  refine wpAnyH_done (by kernel_rfl) ?_ _
  refine hKn _ _ ?_
  have HT1 := Lib.hid (HT.out.frF HF1.out)
  have c1 : w1.cell? ⟨gq, 0, none⟩ = some vq := HSq.out.c0
  obtain ⟨w2, hw2⟩ : ∃ w2, w1.alloc (.cells #[.int .i64 (x : Nat)] 3) = w2 := ⟨_, rfl⟩
  have HF2 := Lib.hid (show Fr (fun _ => False) w1 w2 from by subst hw2; exact (Fr.refl _ w1).alloc _)
  have HW2 := Lib.hid (show Whole w2 w1.heap.size 3 (nC [x]).toArray from by subst hw2; exact Whole.new w1 3 _)
  have HT2 := Lib.hid (HT1.out.frF HF2.out)
  have HG2 : Hid (vq.ownBlock ≠ some w1.heap.size) := Lib.hid (fun e => by have := own_lt HT1.out.ql e; omega)
  have hpl := HH.out.le
  go_wp2_with (go_at_call 41; refine (HIns.out _ p _ hpl HT2.out HW2.out HG2.out).mono ?_
               rintro e w3 ⟨v', rfl, hins⟩
               have hb2 : wq.heap.size ≤ w2.heap.size := HT2.out.fr.size
               obtain ⟨A', c', hv', _, _, _, _⟩ := hins.1.shape
               have ho := hins.1.1
               rw [cutW_size hb2] at ho
               have HS3 := Lib.hid (HT2.out.setQ hins.2.1 ho (fun k hk hk2 => by
                 rcases hins.2.2 with a | ⟨bn, a, a2⟩
                 · exact HT2.out.ap k (by rw [← a]; exact hk) hk2
                 · have := own_lt HT2.out.ol hk2
                   rw [a] at hk; injection hk with hk; omega))
               have HQ3 := Lib.hid (show Whole w3 gq 54 #[vq, ageF gb] from HT2.out.qb.fr hins.2.1 (own_apart HT2.out.ql HT2.out.qb (by decide)))
               have c4 : w3.cell? ⟨gq, 0, none⟩ = some vq := by rw [HQ3.out.cell]; rfl
               have f4 : w3.frozen? ⟨gq, 0, none⟩ = false := HQ3.out.frozen 0
               obtain ⟨n', hn'⟩ : ∃ n', (l.take p ++ x :: l.drop p).length = n' := ⟨_, rfl⟩
               rw [hn'] at hv'
               subst hv'
               clear hins ho hn' hb2)
  go_end0
  exact ⟨rfl, ⟨_, _, ⟨p, HH.out.le, HH.out.lo, HH.out.hi, rfl⟩, HS3.out.1⟩, Chg.trans (Chg.of (HF1.out.trans HF2.out (fun _ _ e => e))) HS3.out.2⟩
end Go.Proofs.Ytpaigmmpihcdaaa

/- What is proved: what waits is told, by the program, from a pile and from a queue. Conditions: the memory is the call's own, the graph right. -/
import Derived.Test.YtpaigmmpihcdaaaJo
import Derived.Deep.RegionWith
namespace Go.Proofs.Ytpaigmmpihcdaaa
open Go.RowKit Go.Shelf
set_option linter.unusedVariables false

theorem Whole.noLoop {w : World} {g L : Nat} {t : TypeId} {cs : Array Value} (h : Whole w g t cs) (hl : ∃ o, w.heap[L]? = some (.loop o)) : g ≠ L := fun e => by
  obtain ⟨o, ho⟩ := hl
  have h2 : w.heap[g]? = some (.cells cs t (0, 0)) := h
  rw [e, ho] at h2
  cases h2
theorem Whole.noDef {w : World} {g D : Nat} {t : TypeId} {cs : Array Value} (h : Whole w g t cs) {o} (hd : w.heap[D]? = some (.deferred o)) : g ≠ D := fun e => by
  have h2 : w.heap[g]? = some (.cells cs t (0, 0)) := h
  rw [e, hd] at h2
  cases h2
theorem IntB.noLoop {w : World} {g L : Nat} (h : IntB w g) (hl : ∃ o, w.heap[L]? = some (.loop o)) : g ≠ L := fun e => by
  obtain ⟨o, ho⟩ := hl
  obtain ⟨cs, hd, h2⟩ := h
  rw [e, ho] at h2
  cases h2
theorem IntB.noDef {w : World} {g D : Nat} (h : IntB w g) {o} (hd : w.heap[D]? = some (.deferred o)) : g ≠ D := fun e => by
  obtain ⟨cs, hx, h2⟩ := h
  rw [e, hd] at h2
  cases h2
theorem TlR.frL {wq wr w' : World} {ga gq gb N L : Nat} {ah : Nat → Nat} {byv vq vo : Value} {l out : List Nat} (h : TlR wq wr ga gq gb N ah byv vq l vo out) (hL : wq.heap.size ≤ L) (hl : ∃ o, wr.heap[L]? = some (.loop o)) (f : Fr (fun j => j = L) wr w') : TlR wq w' ga gq gb N ah byv vq l vo out :=
  ⟨h.fr.trans f (fun j hj e => by have e2 : j = L := e; omega), h.ab.fr f (h.ab.noLoop hl), h.qb.fr f (h.qb.noLoop hl), h.bb.fr f (h.bb.noLoop hl), own_fr h.ql f (fun k hk => (own_int h.ql hk).noLoop hl), own_fr h.ol f (fun k hk => (own_int h.ol hk).noLoop hl), h.ap, h.lq, h.la⟩

/-- What stands while it is told: what waits, the two boxes, the marks. -/
structure TlS (wq w : World) (gl ga gq gb N bl bw : Nat) (wty : TypeId) (ah : Nat → Nat) (byv vq : Value) (l : List Nat) (vo : Value) (out rs : List Nat) : Prop where
  tl : TlR wq w ga gq gb N ah byv vq l vo out
  bl : Whole w bl 45 #[.pointer (some ⟨gl, 0, none⟩)]
  bw : Whole w bw 62 #[.iface wty (.pointer (some ⟨gq, 0, none⟩))]
  nd : rs.Nodup
  mr : ∀ r ∈ rs, wq.heap.size ≤ r ∧ w.heap[r]? = some (.deferred (some []))
section
variable {wq w w' : World} {gl ga gq gb N bl bw : Nat} {wty : TypeId} {ah ah' : Nat → Nat} {byv vq vq' vo vo' : Value} {l l' out out' rs : List Nat}
theorem TlS.chg (h : TlS wq w gl ga gq gb N bl bw wty ah byv vq l vo out rs) (t : TlR wq w' ga gq gb N ah' byv vq' l' vo' out') (f : Fr (Chg w gq) w w') : TlS wq w' gl ga gq gb N bl bw wty ah' byv vq' l' vo' out' rs :=
  ⟨t, h.bl.fr f (fun e => e.elim (fun q => h.bl.apart h.tl.qb (by decide) q) (h.bl.noInt (by decide))), h.bw.fr f (fun e => e.elim (fun q => h.bw.apart h.tl.qb (by decide) q) (h.bw.noInt (by decide))), h.nd,
    fun r hr => ⟨(h.mr r hr).1, (f.block r (Array.getElem?_eq_some_iff.1 (h.mr r hr).2).1 (fun e => e.elim (fun q => h.tl.qb.noDef (h.mr r hr).2 q.symm) (fun q => q.noDef (h.mr r hr).2 rfl))).trans (h.mr r hr).2⟩⟩
theorem TlS.frF (h : TlS wq w gl ga gq gb N bl bw wty ah byv vq l vo out rs) (f : Fr (fun _ => False) w w') : TlS wq w' gl ga gq gb N bl bw wty ah byv vq l vo out rs := h.chg (h.tl.frF f) (Chg.of f)
theorem TlS.frL {L : Nat} (h : TlS wq w gl ga gq gb N bl bw wty ah byv vq l vo out rs) (hL : wq.heap.size ≤ L) (hl : ∃ o, w.heap[L]? = some (.loop o)) (f : Fr (fun j => j = L) w w') : TlS wq w' gl ga gq gb N bl bw wty ah byv vq l vo out rs :=
  ⟨h.tl.frL hL hl f, h.bl.fr f (h.bl.noLoop hl), h.bw.fr f (h.bw.noLoop hl), h.nd, fun r hr => ⟨(h.mr r hr).1, (f.block r (Array.getElem?_eq_some_iff.1 (h.mr r hr).2).1 (fun e => by
    obtain ⟨o, ho⟩ := hl
    have h2 := (h.mr r hr).2
    rw [show r = L from e, ho] at h2
    cases h2)).trans (h.mr r hr).2⟩⟩
theorem TlS.mark {D : Nat} (h : TlS wq w gl ga gq gb N bl bw wty ah byv vq l vo out rs) (hD : wq.heap.size ≤ D) (hd : w.heap[D]? = some (.deferred (some []))) (hn : ¬ D ∈ rs) : TlS wq w gl ga gq gb N bl bw wty ah byv vq l vo out (D :: rs) :=
  ⟨h.tl, h.bl, h.bw, List.nodup_cons.2 ⟨hn, h.nd⟩, fun r hr => (List.mem_cons.1 hr).elim (fun e => by subst e; exact ⟨hD, hd⟩) (h.mr r)⟩
/-- What a round turns is neither the loop's record nor its mark. -/
theorem TlS.around {D L : Nat} (h : TlS wq w gl ga gq gb N bl bw wty ah byv vq l vo out rs) (hl : ∃ o, w.heap[L]? = some (.loop o)) (hd : ∃ o, w.heap[D]? = some (.deferred o)) (f : Fr (Chg w gq) w w') : Fr (fun j => j ≠ D ∧ j ≠ L) w w' :=
  f.mono (fun j _ e => by
    obtain ⟨o, hd⟩ := hd
    exact e.elim (fun q => ⟨by rw [q]; exact h.tl.qb.noDef hd, by rw [q]; exact h.tl.qb.noLoop hl⟩) (fun q => ⟨q.noDef hd, q.noLoop hl⟩))
end
/-- What stands between two rounds of the range. -/
structure TlI (wq W : World) (gl ga gq gb N bl bw bs : Nat) (wty : TypeId) (sl : Value) (left : Nat → Bool) (Mid : Nat → List Nat → Prop) (ahj : Nat → Nat → Nat) (byv vo : Value) (out rs : List Nat) (k : Nat) : Prop where
  st : ∃ vq l, Mid k l ∧ TlS wq W gl ga gq gb N bl bw wty (ahj k) byv vq l vo out rs
  bs : Whole W bs 23 #[sl]

theorem Orpnext_any (wq : World) (ga gq gb N : Nat) (ah : Nat → Nat) (byv vq vo : Value) (l out : List Nat) (hl : l.length ≤ 1000) (w : World) (h : TlR wq w ga gq gb N ah byv vq l vo out) :
    Calls Try.prog 64 #[.pointer (some ⟨gq, 0, none⟩)] w fun e w' => ∃ (n : Nat) (b : Bool) (vq' : Value) (l' : List Nat), e = .returned (.tuple #[.int .i64 (n : Nat), .bool b]) ∧ (b = true → l = l' ++ [n]) ∧ (b = false → l = [] ∧ l' = []) ∧ TlR wq w' ga gq gb N ah byv vq' l' vo out ∧ Fr (Chg w gq) w w' := by
  rcases List.eq_nil_or_concat l with rfl | ⟨l0, x, rfl⟩
  · exact (Orpnext_no wq ga gq gb N ah byv vq vo out w h).mono fun e w' ⟨he, hw⟩ => by
      subst hw
      exact ⟨0, false, vq, [], he, (fun e => nomatch e), fun _ => ⟨rfl, rfl⟩, h, Fr.refl _ _⟩
  · rw [List.concat_eq_append] at h hl ⊢
    rw [List.length_append, List.length_singleton] at hl
    exact (Orpnext_yes wq ga gq gb N ah byv vq vo l0 out x (by omega) w h).mono fun e w' ⟨he, ⟨vq', ht⟩, hf⟩ => ⟨x, true, vq', l0, he, fun _ => rfl, (fun e => nomatch e), ht, hf⟩
theorem TlR.slice {wq wr : World} {ga gq gb N : Nat} {ah : Nat → Nat} {byv vq vo : Value} {l out : List Nat} (h : TlR wq wr ga gq gb N ah byv vq l vo out) : ∃ A n c, vo = .slice A n c := by
  rcases h.ol.2 with ⟨h0, _⟩ | ⟨g, cap, cur, hv, _⟩
  · exact ⟨_, _, _, h0⟩
  · exact ⟨_, _, _, hv⟩

set_option maxHeartbeats 6400000 in
set_option maxRecDepth 100000 in
theorem Ortell_pile (w0 wq : World) (A : Option Addr) (c N : Nat) (G : List Nd) (hN : G.length = N) (gl gh ga gq gb : Nat) (has : Nat → Bool) (byv : Value) (T : List Nat) (Psh : List Nat → Nat → List Nat → Prop) (Pre : List Nat → Prop) (Kd : TK (prG G) N has T Psh Pre) (hR : RightG G) (hND : ∀ n, n < N → (prG G n).Nodup) (hG : GAt w0 A G) (f0 : Fr (fun _ => False) w0 wq) (hga : w0.heap.size ≤ ga) (hlga : gl ≠ ga) (hhga : gh ≠ ga)
    (hL : Whole wq gl 60 #[.slice A N c, .slice (some ⟨gh, 0, none⟩) N N, .slice (some ⟨ga, 0, none⟩) N N]) (hH : Whole wq gh 4 (rowC (boolC has) N))
    (HPut : ∀ ah vq l vo out x w, Pre l → x < N → TlR wq w ga gq gb N ah byv vq l vo out → Calls Try.prog 65 #[.pointer (some ⟨gq, 0, none⟩), .int .i64 (x : Nat)] w fun e w' => e = .returned (.tuple #[]) ∧ (∃ vq' l', Psh l x l' ∧ TlR wq w' ga gq gb N ah byv vq' l' vo out) ∧ Fr (Chg w gq) w w')
    (w : World) (vq : Value) (l : List Nat) (hg : Kd.Good has l []) (h : TlR wq w ga gq gb N (ahN (prG G) has N) byv vq l (.slice none 0 0) []) :
    Calls Try.prog 27 #[.pointer (some ⟨gl, 0, none⟩), .iface 49 (.pointer (some ⟨gq, 0, none⟩))] w fun e w' => ∃ v, e = .returned v ∧ w'.ownsRow wq.heap.size 3 1 v T.length (nC T) ∧ Fr (fun k => k = ga) wq w' := by
  (
    have hm1 : ∀ w, (method 197 49 (.pointer (some ⟨gq, 0, none⟩)) "sleuth/order.next").run Try.prog w = .ok (64, .pointer (some ⟨gq, 0, none⟩)) w := fun _ => by kernel_rfl
    have hm2 : ∀ w, (method 197 49 (.pointer (some ⟨gq, 0, none⟩)) "sleuth/order.put").run Try.prog w = .ok (65, .pointer (some ⟨gq, 0, none⟩)) w := fun _ => by kernel_rfl
    obtain ⟨i0, hii, hz0, hz1, hz2⟩ := info_parts info_int
    have hlen := hR.len
    have HKin := Lib.hid (fun n (hn : n < G.length) => kin_at hG hR n hn)
    have HFew := Lib.hid hR.few
    rw [hN] at hlen HKin HFew
    have HOld := Lib.hid (fun wr (f : Fr (fun k => k = ga) wq wr) => show Fr (fun _ => False) w0 wr from f0.trans f (fun j hj e => by have e2 : j = ga := e; omega))
    have HGl := Lib.hid (fun wr (f : Fr (fun k => k = ga) wq wr) => hL.fr f (fun e => hlga e))
    have HRy := Lib.hid (fun ah x (hx : x < N) wr (f : Fr (fun k => k = ga) wq wr) h1 => Orready_any gl gh ga N (.slice A N c) has ah x hx (by omega) wr (hL.fr f (fun e => hlga e)) (hH.fr f (fun e => hhga e)) h1)
    have HNx := Lib.hid (fun ah vq vo l out hl w h => Orpnext_any wq ga gq gb N ah byv vq vo l out hl w h)
    have HPt := Lib.hid HPut
    obtain ⟨Good, Mid, kstart, kpar, kpre, kpush, kskip, kfin, kstop, klen⟩ := Kd
    have hg2 : Good has l [] := hg
    have HDl := Lib.hid (fun n (hn : n < N) => hR.dn n (by omega))
    obtain ⟨pr, hpr⟩ : ∃ p, prG G = p := ⟨_, rfl⟩
    rw [hpr] at h HKin HFew hND kpar kpush kskip kfin HDl
    have HStart := Lib.hid kstart
    have HPar := Lib.hid kpar
    have HPre := Lib.hid kpre
    have HPush := Lib.hid kpush
    have HSkip := Lib.hid kskip
    have HFin := Lib.hid kfin
    have HStop := Lib.hid kstop
    have HLen := Lib.hid klen
    have HND := Lib.hid hND
    obtain ⟨w1, hw1⟩ : ∃ w1, (w.alloc (.cells #[.pointer (some ⟨gl, 0, none⟩)] 45)).alloc (.cells #[.iface 49 (.pointer (some ⟨gq, 0, none⟩))] 62) = w1 := ⟨_, rfl⟩
    obtain ⟨bl, hbl⟩ : ∃ bl, w.heap.size = bl := ⟨_, rfl⟩
    obtain ⟨bw, hbw⟩ : ∃ bw, w.heap.size + 1 = bw := ⟨_, rfl⟩
    have HF1 : Fr (fun _ => False) w w1 := by subst hw1; exact ((Fr.refl _ w).alloc _).alloc _
    have HT1 := Lib.hid (show TlS wq w1 gl ga gq gb N bl bw 49 (ahN pr has N) byv vq l (.slice none 0 0) [] [] from
      ⟨h.frF HF1, by subst hw1; subst hbl; exact (Whole.new w 45 _).fr ((Fr.refl (fun _ => False) _).alloc _) (fun e => e), by subst hw1; subst hbw; have := Whole.new (w.alloc (.cells #[.pointer (some ⟨gl, 0, none⟩)] 45)) 62 #[.iface 49 (.pointer (some ⟨gq, 0, none⟩))]; rw [World.size_alloc] at this; exact this, List.nodup_nil, fun r hr => by simp at hr⟩)
    have HG0 := Lib.hid hg2
    have HW1 := Lib.hid hw1
    have HBl := Lib.hid hbl
    have HBw := Lib.hid hbw
    have HF1 := Lib.hid HF1
    clear hL hH hG f0 HPut hg hg2 h kstart kpar kpre kpush kskip kfin kstop klen hND hR hN hpr hw1 hbl hbw hga hlga hhga
    refine (callsIn_wide (n := 9)).1 (callsIn_of_wp_marks Try.func27 rfl trivial ?_ rfl)
    simp only [Try.ntmps27, List.size_toArray, List.length_cons, List.length_nil, Nat.reduceAdd, Nat.reduceSub, Array.replicate_succ, Array.replicate_zero, List.push_toArray, List.append_toArray, List.nil_append, List.cons_append]
    refine wpIn_wide.2 ?_
    go_upto_region 2 with fail
    rw [HW1.out, HBw.out, HBl.out]
    have cw1 : w1.cell? ⟨bw, 0, none⟩ = some (.iface 49 (.pointer (some ⟨gq, 0, none⟩))) := by rw [HT1.out.bw.cell]; rfl
    have hl1 := (HLen.out _ _ _ HG0.out).1
    go_wp2_with (go_at_call 64; refine (HNx.out _ _ _ _ _ (by omega) _ HT1.out.tl).mono ?_; rintro e w2 ⟨n, b, vq2, l2, rfl, hb1, hb2, ht, hf⟩; have HB1 := Lib.hid hb1; have HB2 := Lib.hid hb2; have HT2 := Lib.hid (HT1.out.chg ht hf); clear hb1 hb2 ht hf)
    clear cw1 hl1 hm1
    have hm1 : ∀ w, (method 197 49 (.pointer (some ⟨gq, 0, none⟩)) "sleuth/order.next").run Try.prog w = .ok (64, .pointer (some ⟨gq, 0, none⟩)) w := fun _ => by kernel_rfl
    refine wp_loop_ghost_k (fun kx a' wr => ∃ (ds : List Deferred) (u5 u6 u7 u8 u9 u10 u11 u12 u13 u14 u15 u16 u17 u18 u19 u20 u21 u22 u23 u24 u25 u26 u27 u28 u29 u30 u31 u32 u33 u34 u35 u36 u37 u38 u39 u40 u41 u42 u43 u44 u45 u46 u47 u48 u49 u50 u51 : Value), (∃ (left : Nat → Bool) (n : Nat) (b : Bool) (vq : Value) (l out rs : List Nat), u6 = .int .i64 (n : Nat) ∧ u7 = .bool b ∧ ds = rs.map mkD ∧ cnt left N ≤ kx ∧ Hid (b = true → Good left (l ++ [n]) out) ∧ Hid (b = false → Good left [] out) ∧ Hid (TlS wq wr gl ga gq gb N bl bw 49 (ahN pr left N) byv vq l u5 out rs)) ∧ a' = { tmps := #[.pointer (some ⟨gl, 0, none⟩), .iface 49 (.pointer (some ⟨gq, 0, none⟩)), .pointer (some ⟨bl, 0, none⟩), .pointer (some ⟨bw, 0, none⟩), .slice none 0 0, u5, u6, u7, u8, u9, u10, u11, u12, u13, u14, u15, u16, u17, u18, u19, u20, u21, u22, u23, u24, u25, u26, u27, u28, u29, u30, u31, u32, u33, u34, u35, u36, u37, u38, u39, u40, u41, u42, u43, u44, u45, u46, u47, u48, u49, u50, u51], defers := ds }) N ?_ ?_
    · refine ⟨[], _, _, _, _, _, _, _, _, _, _, _, _, _, _, _, _, _, _, _, _, _, _, _, _, _, _, _, _, _, _, _, _, _, _, _, _, _, _, _, _, _, _, _, _, _, _, _, ⟨has, n, b, vq2, l2, [], [], rfl, rfl, rfl, cnt_le _ _, Lib.hid (fun e => by rw [← HB1.out e]; exact HG0.out), Lib.hid (fun e => by have h9 := HG0.out; rw [(HB2.out e).1] at h9; exact h9), HT2⟩, rfl⟩
    · intro gk _ wr hinv
      obtain ⟨ds, u5, u6, u7, u8, u9, u10, u11, u12, u13, u14, u15, u16, u17, u18, u19, u20, u21, u22, u23, u24, u25, u26, u27, u28, u29, u30, u31, u32, u33, u34, u35, u36, u37, u38, u39, u40, u41, u42, u43, u44, u45, u46, u47, u48, u49, u50, u51, hrel, ha⟩ := hinv
      subst ha
      intro _ _ _ _
      obtain ⟨left, n1, b1, vq1, l1, out, rs, rfl, rfl, hds, hcx, HGt, HGf, HS⟩ := hrel
      obtain ⟨wo, rfl⟩ : ∃ wo, wo = wr := ⟨wr, rfl⟩
      clear HB1 HB2 HT2 HT1 HG0
      have HDs := Lib.hid hds
      clear hds
      cases b1
      · have HE := Lib.hid (HStop.out _ _ (HGf.out rfl))
        have HND := HS.out.nd
        have HMR := HS.out.mr
        have HOL := Lib.hid HS.out.tl.ol
        have HFR := Lib.hid HS.out.tl.fr
        have HLA := Lib.hid HS.out.tl.la
        have HX := Lib.hid (fun w' (f : Fr (fun k => k ∈ rs) wo w') => own_fr HS.out.tl.ol f (fun k hk e => (own_int HS.out.tl.ol hk).noDef (HMR k e).2 rfl))
        have HX2 := Lib.hid (fun w' (f : Fr (fun k => k ∈ rs) wo w') => show Fr (fun k => k = ga) wq w' from HS.out.tl.fr.trans f (fun j hj e => by have := (HMR j e).1; omega))
        have HNd2 := Lib.hid HND
        have HMr2 := Lib.hid (fun r hr => (HMR r hr).2)
        clear HND HMR
        go_wp2
        rw [HDs.out]
        refine leaves_marks rs wo HNd2.out HMr2.out (fun w' f => ?_)
        refine ⟨_, results_tmp rfl _ _ _, _, rfl, ?_, HX2.out w' f⟩
        rw [← HE.out]
        exact HX.out w' f
      · obtain ⟨hnN, hln, hM0⟩ := HStart.out _ _ _ _ (HGt.out rfl)
        have hcnt := cnt_out left n1 N hnN hln
        have hlen2 := HLen.out _ _ _ (HGt.out rfl)
        have hol : out.length ≤ 128 := by omega
        have HM0 := Lib.hid hM0
        have HCx := Lib.hid (show cnt (outB left n1) N + 1 ≤ gk from by omega)
        have HnN := Lib.hid hnN
        have HA0 := Lib.hid (ahJ_zero pr N left n1 hnN hln)
        have HDn := Lib.hid (fun x hx => HDl.out n1 hnN x hx)
        have HNo := Lib.hid (HND.out n1 hnN)
        have HPr1 := Lib.hid (fun k l h => HPar.out (outB left n1) (out ++ [n1]) n1 k l h)
        have HPre1 := Lib.hid (fun k l h => HPre.out (outB left n1) (out ++ [n1]) n1 k l h)
        have HPush1 := Lib.hid (fun k l x l' h1 h2 h3 h4 => HPush.out (outB left n1) (out ++ [n1]) n1 k l x l' h1 h2 h3 h4)
        have HSkip1 := Lib.hid (fun k l x h1 h2 h3 => HSkip.out (outB left n1) (out ++ [n1]) n1 k l x h1 h2 h3)
        have HFin1 := Lib.hid (fun l h => HFin.out (outB left n1) (out ++ [n1]) n1 l h)
        have HLen1 := Lib.hid (fun l h => HLen.out (outB left n1) l (out ++ [n1]) h)
        have hfew := HFew.out n1 hnN
        have HAe := Lib.hid (ahJ_end pr N (outB left n1) n1)
        have HAs := Lib.hid (fun j x hj k => ahJ_step pr N (outB left n1) n1 j x hj k)
        have HAb := Lib.hid (fun k => ahN_le pr (outB left n1) k N (fun m hm => HFew.out m hm))
        have HAc := Lib.hid (fun j (x : Nat) => show ahJ pr N (outB left n1) n1 j x ≤ 6 * N + 6 from by
          unfold ahJ
          have h1 := HAb.out x
          have h2 := List.count_le_length (l := (pr n1).reverse.drop j) (a := x)
          rw [List.length_drop, List.length_reverse] at h2
          omega)
        have HRm := Lib.hid (fun j x l hm hj hx => rdyF_mid (N := N) (has := has) (left := outB left n1) (n := n1) (j := j) (x := x) HNo.out hj (HPr1.out j l hm x hx).1 (HPr1.out j l hm x hx).2)
        obtain ⟨Ap, cp, hkin⟩ := HKin.out n1 hnN
        have HKi := Lib.hid hkin
        obtain ⟨ps, hps⟩ : ∃ ps, pr n1 = ps := ⟨_, rfl⟩
        have HPs := Lib.hid hps
        rw [hps] at hfew HKi HDn HNo
        obtain ⟨P, hP⟩ : ∃ P, ps.length = P := ⟨_, rfl⟩
        have HPl := Lib.hid hP
        rw [hP] at hfew HKi
        have hn0 : (0 : Int) ≤ (n1 : Int) := by omega
        have hnz : (n1 : Int) < (N : Int) := by omega
        obtain ⟨wa, hwa⟩ : ∃ w1, wo.alloc (.cells #[.int .i64 (n1 : Nat)] 3) = w1 := ⟨_, rfl⟩
        have HFa := Lib.hid (show Fr (fun _ => False) wo wa from by subst hwa; exact (Fr.refl (fun _ => False) wo).alloc _)
        have HSrc := Lib.hid (show Src Try.prog 1 23 (.slice (some ⟨wo.heap.size, 0, none⟩) 1 1) 1 (nC [n1]) wa from by subst hwa; exact src_one Try.underlying23 wo _ rfl)
        have HSa := Lib.hid (HS.out.frF HFa.out)
        have HBase : Hid (wq.heap.size ≤ wa.heap.size) := Lib.hid HSa.out.tl.fr.size
        clear hM0 hlen2 hcnt hps hP hkin hln HStart HPar HPre HPush HSkip HFin HStop HGt HGf HFew HKin HND HDl HAb
        go_wp2_with (first
          | (at_builtin; refine wpList_append_row _ rfl (.tmp 21) (.tmp 23) 23 23 rfl wq.heap.size 3 i0 (.int .i64 0) 1 8 Try.underlying23 hii hz0 hz1 hz2 rfl u5 out.length (nC out) rfl HSa.out.tl.ol (.slice (some ⟨wo.heap.size, 0, none⟩) 1 1) 1 (nC [n1]) rfl HSrc.out (by unfold maxLen; omega) (by omega) HBase.out ?_
             intro v' w4 o1 g1 at1
             obtain ⟨t4, f4⟩ := HSa.out.tl.pushO o1 g1 at1
             have HS4 := Lib.hid (HSa.out.chg t4 f4)
             have cb4 : w4.cell? ⟨bl, 0, none⟩ = some (.pointer (some ⟨gl, 0, none⟩)) := by rw [HS4.out.bl.cell]; rfl
             have cg4 : w4.cell? ⟨gl, 0, none⟩ = some (.slice A N c) := by rw [(HGl.out w4 HS4.out.tl.fr).cell]; rfl
             obtain ⟨bb, o, hA, cn4, hpr4⟩ := HKi.out w4 (HOld.out w4 HS4.out.tl.fr)
             subst hA
             clear o1 g1 at1 t4 f4 hpr4)
          | (go_at_call 31; refine (GnBackward_any _ _ _ _).mono ?_; rintro e w5 ⟨rfl, hw5⟩))
        rw [← hw5]
        have HF5 := Lib.hid (show Fr (fun _ => False) w4 w5 from by subst hw5; exact (Fr.refl _ w4).alloc _)
        have HW5 := Lib.hid (show Whole w5 w4.heap.size 23 #[.slice Ap P cp] from by subst hw5; exact Whole.new w4 23 _)
        have HS5 := Lib.hid (HS4.out.frF HF5.out)
        obtain ⟨bs, hbs⟩ : ∃ bs, w4.heap.size = bs := ⟨_, rfl⟩
        rw [hbs] at HW5 ⊢
        clear hw5 hbs cb4 cg4 cn4
        have HSz := Lib.hid (show wq.heap.size ≤ w5.heap.size from HS5.out.tl.fr.size)
        have HRow := Lib.hid (fun W (f : Fr (fun k => k = ga) wq W) => by
          obtain ⟨b9, o9, _, _, h9⟩ := HKi.out W (HOld.out W f)
          exact h9)
        refine (wpIn_wide (n := 9)).1 ?_
        refine range_plain (gf := 36) (lb := #[.pointer (some ⟨bs, 0, none⟩)]) rfl (enters_of Try.func36 (by kernel_rfl) rfl) P (fun k => #[.int .i64 ((P : Int) - 1 - (k : Int)), .int .i64 (ps.reverse.getD k 0 : Nat)]) (fun _ => rfl) (BkRd bs Ap P cp ps) ?seq (fun k W => TlI wq W gl ga gq gb N bl bw bs 49 (.slice Ap P cp) (outB left n1) (fun j l => Mid (outB left n1) (out ++ [n1]) n1 j l) (fun j => ahJ pr N (outB left n1) n1 j) byv v' (out ++ [n1]) rs k) ?fr ?rd ?zero ?round ?done
        case seq =>
          intro l9 W J hj0 hjr hjy
          exact GnBackward1_any l9 bs Ap P cp ps HPl.out (by omega) W J hj0 hjr hjy
        case fr =>
          rintro k W W' ⟨⟨vq3, l3, hm, hs⟩, hb⟩ f hl
          exact ⟨⟨vq3, l3, hm, hs.frL (by have := HSz.out; omega) hl f⟩, hb.fr f (hb.noLoop hl)⟩
        case rd =>
          rintro k W ⟨⟨vq3, l3, hm, hs⟩, hb⟩
          exact ⟨by rw [hb.cell]; rfl, fun j hj => HRow.out W hs.tl.fr j hj⟩
        case zero =>
          intro W f
          exact ⟨⟨vq1, l1, HM0.out, by have h9 := HS5.out.frF f; rw [← HA0.out] at h9; exact h9⟩, HW5.out.fr f (fun e => e)⟩
        case round =>
          intro l9 k Wk hik hkP Kk hKk
          have HK := Lib.hid hKk
          obtain ⟨x, hx⟩ : ∃ x, ps.reverse.getD k 0 = x := ⟨_, rfl⟩
          have hxk : (pr n1).reverse[k]? = some x := by rw [HPs.out, ← hx, List.getD_eq_getElem?_getD, List.getElem?_eq_getElem (by rw [List.length_reverse, HPl.out]; exact hkP)]; rfl
          have hxp : x ∈ pr n1 := List.mem_reverse.1 (List.mem_of_getElem? hxk)
          have hxn := HDn.out x (by rw [← HPs.out]; exact hxp)
          have HXk := Lib.hid hxk
          have HXp := Lib.hid hxp
          have hxN : x < N := by omega
          simp only [hx]
          clear hKk hik hx hxk hxp
          refine wpIn_region_lit ?_
          refine wpListIn_of_wpList (fun ⟨_, _, h⟩ => h) _ (by intro o ho c; simp only [List.mem_cons, List.not_mem_nil, or_false] at ho; rcases ho with rfl; simp) _ _ ?_
          go_wp2
          refine HK.out _ (fun Wb hib hlb hdb => ?_)
          clear HK
          obtain ⟨⟨vq3, l3, hm3, hs3⟩, hb3⟩ := hib
          have HM3 := Lib.hid hm3
          have HS3 := Lib.hid hs3
          have HB3 := Lib.hid hb3
          have HLp := Lib.hid hlb
          have HDf := Lib.hid hdb
          have ca := hs3.tl.ab.rcell x hxN
          have fa := hs3.tl.ab.frozen x
          simp only [intC] at ca
          have hst := HAs.out k x HXk.out x
          rw [if_pos rfl] at hst
          have hbd := HAc.out k x
          obtain ⟨y, hy⟩ : ∃ y, ahJ pr N (outB left n1) n1 (k + 1) x = y := ⟨_, rfl⟩
          rw [hy] at hst
          rw [hst] at ca hbd
          have hca : ((y + 1 : Nat) : Int) = (y : Int) + 1 := by omega
          rw [hca] at ca
          have wy : wrap64 (y : Int) = (y : Int) := by unfold wrap64; omega
          obtain ⟨t4, f4⟩ := hs3.tl.setA x y hxN (ahJ pr N (outB left n1) n1 (k + 1)) (fun j hj => by
            have h9 := HAs.out k x HXk.out j
            by_cases e : j = x
            · subst e; rw [if_pos rfl]; exact hy
            · rw [if_neg e] at h9 ⊢; omega)
          have HS4b := Lib.hid (hs3.chg t4 f4)
          have HF4b := Lib.hid f4
          have cb1 : Wb.cell? ⟨bl, 0, none⟩ = some (.pointer (some ⟨gl, 0, none⟩)) := by rw [hs3.bl.cell]; rfl
          have cg1 : Wb.cell? ⟨gl, 2, none⟩ = some (.slice (some ⟨ga, 0, none⟩) N N) := by rw [(HGl.out Wb hs3.tl.fr).cell]; rfl
          have hx0 : (0 : Int) ≤ (x : Int) := by omega
          have hxz : (x : Int) < (N : Int) := by omega
          obtain ⟨w6, hw6⟩ : ∃ w6, Wb.setCell ⟨ga, x, none⟩ (.int .i64 (y : Nat)) = w6 := ⟨_, rfl⟩
          rw [hw6] at HS4b HF4b
          have HRdy := Lib.hid (HRy.out (ahJ pr N (outB left n1) n1 (k + 1)) x hxN w6 HS4b.out.tl.fr HS4b.out.tl.ab)
          have hrm := HRm.out k x l3 HM3.out HXk.out HXp.out
          rw [hrm] at HRdy
          clear hm3 hs3 hb3 hlb hdb hst hbd hy hca t4 f4 hrm
          refine wpIn_block ?_
          refine wpIn_seq ?_
          refine wpIn_region_lit ?_
          refine wpListIn_of_wpList (fun ⟨_, _, h⟩ => by cases h.1) _ (by intro o ho c; simp only [List.mem_cons, List.not_mem_nil, or_false] at ho; rcases ho with rfl | rfl | rfl | rfl | rfl | rfl | rfl | rfl | rfl | rfl <;> simp) _ _ ?_
          go_wp2
          try simp only [wy]
          try rw [hw6]
          clear ca fa cb1 cg1 wy hw6
          have cb2 : w6.cell? ⟨bl, 0, none⟩ = some (.pointer (some ⟨gl, 0, none⟩)) := by rw [HS4b.out.bl.cell]; rfl
          have cw2 : w6.cell? ⟨bw, 0, none⟩ = some (.iface 49 (.pointer (some ⟨gq, 0, none⟩))) := by rw [HS4b.out.bw.cell]; rfl
          obtain ⟨r, hr⟩ : ∃ r, rdyB pr N (outB left n1) x = r := ⟨_, rfl⟩
          rw [hr] at HRdy
          refine wpIn_seq ?_
          refine wpIn_region_lit ?_
          refine wpListIn_of_wpList (fun ⟨_, _, h⟩ => by cases h.1) _ (by intro o ho c; simp only [List.mem_cons, List.not_mem_nil, or_false] at ho; rcases ho with rfl | rfl | rfl <;> simp) _ _ ?_
          go_wp2_with (go_at_call 32; refine HRdy.out.mono ?_; rintro e w7 ⟨rfl, rfl⟩)
          cases r
          · refine wpIn_cond_false rfl ?_
            refine wpIn_skip ?_
            exact ⟨rfl, ⟨⟨vq3, l3, HSkip1.out k l3 x HM3.out HXk.out hr, HS4b.out⟩, HB3.out.fr HF4b.out (fun e => e.elim (fun q => HB3.out.apart HS3.out.tl.qb (by decide) q) (HB3.out.noInt (by decide)))⟩, HS3.out.around HLp.out HDf.out HF4b.out⟩
          · have HQ := Lib.hid (HPt.out _ vq3 l3 v' (out ++ [n1]) x w6 (HPre1.out k l3 HM3.out) hxN HS4b.out.tl)
            have HPk := Lib.hid (fun l' h9 => HPush1.out k l3 x l' HM3.out HXk.out hr h9)
            clear hr
            refine wpIn_cond_true rfl ?_
            refine wpIn_region_lit ?_
            refine wpListIn_of_wpList (fun ⟨_, _, h⟩ => by cases h.1) _ (by intro o ho c; simp only [List.mem_cons, List.not_mem_nil, or_false] at ho; rcases ho with rfl | rfl | rfl <;> simp) _ _ ?_
            go_wp2_with (go_at_call 65; refine HQ.out.mono ?_; rintro e w7 ⟨rfl, ⟨vq7, l7, hp, ht⟩, hf⟩; have HP7 := Lib.hid hp; have HT7 := Lib.hid ht; have HF7 := Lib.hid hf; clear hp ht hf)
            have HB6 := HB3.out.fr HF4b.out (fun e => e.elim (fun q => HB3.out.apart HS3.out.tl.qb (by decide) q) (HB3.out.noInt (by decide)))
            exact ⟨trivial, ⟨⟨vq7, l7, HPk.out l7 HP7.out, HS4b.out.chg HT7.out HF7.out⟩, HB6.fr HF7.out (fun e => e.elim (fun q => HB6.apart HS4b.out.tl.qb (by decide) q) (HB6.noInt (by decide)))⟩, HS3.out.around HLp.out HDf.out (Chg.trans HF4b.out HF7.out)⟩
        case done =>
          rintro W ⟨⟨vq3, l3, hm, hs⟩, hb⟩ hd
          have HG3 := Lib.hid (HFin1.out l3 (by rw [HPs.out, HPl.out]; exact hm))
          have hs2 := hs
          rw [← HPl.out, ← HPs.out, HAe.out] at hs2
          have HS7 := Lib.hid (hs2.mark (D := w5.heap.size) HSz.out hd (fun hr => by have := (Array.getElem?_eq_some_iff.1 (HS5.out.mr _ hr).2).1; omega))
          have cw3 : W.cell? ⟨bw, 0, none⟩ = some (.iface 49 (.pointer (some ⟨gq, 0, none⟩))) := by rw [hs.bw.cell]; rfl
          have hl3 := (HLen1.out _ HG3.out).1
          have HDs2 := Lib.hid (show ({ target := .collected w5.heap.size, args := #[] } : Deferred) :: ds = (w5.heap.size :: rs).map mkD from by rw [HDs.out]; rfl)
          obtain ⟨ds2, hds2⟩ : ∃ d, ({ target := .collected w5.heap.size, args := #[] } : Deferred) :: ds = d := ⟨_, rfl⟩
          rw [hds2] at HDs2 ⊢
          clear hm hs hb hd hs2 hds2
          simp only [Exit.inBlock, Exit.then]
          go_wp2_with (go_at_call 64; refine (HNx.out _ _ _ _ _ (by omega) _ HS7.out.tl).mono ?_; rintro e w8 ⟨n8, b8, vq8, l8, rfl, hb1, hb2, ht, hf⟩; have HB1 := Lib.hid hb1; have HB2 := Lib.hid hb2; have HT8 := Lib.hid (HS7.out.chg ht hf); clear hb1 hb2 ht hf)
          go_roundg (cnt (outB left n1) N)
          case measure => have := HCx.out; omega
          case rel => exact ⟨outB left n1, n8, b8, vq8, l8, out ++ [n1], w5.heap.size :: rs, rfl, rfl, HDs2.out, Nat.le_refl _, Lib.hid (fun e => by rw [← HB1.out e]; exact HG3.out), Lib.hid (fun e => by have h9 := HG3.out; rw [(HB2.out e).1] at h9; exact h9), HT8⟩)
set_option maxHeartbeats 6400000 in
set_option maxRecDepth 100000 in
theorem Ortell_queue (w0 wq : World) (A : Option Addr) (c N : Nat) (G : List Nd) (hN : G.length = N) (gl gh ga gq gb : Nat) (has : Nat → Bool) (byv : Value) (T : List Nat) (Psh : List Nat → Nat → List Nat → Prop) (Pre : List Nat → Prop) (Kd : TK (prG G) N has T Psh Pre) (hR : RightG G) (hND : ∀ n, n < N → (prG G n).Nodup) (hG : GAt w0 A G) (f0 : Fr (fun _ => False) w0 wq) (hga : w0.heap.size ≤ ga) (hlga : gl ≠ ga) (hhga : gh ≠ ga)
    (hL : Whole wq gl 60 #[.slice A N c, .slice (some ⟨gh, 0, none⟩) N N, .slice (some ⟨ga, 0, none⟩) N N]) (hH : Whole wq gh 4 (rowC (boolC has) N))
    (HPut : ∀ ah vq l vo out x w, Pre l → x < N → TlR wq w ga gq gb N ah byv vq l vo out → Calls Try.prog 34 #[.pointer (some ⟨gq, 0, none⟩), .int .i64 (x : Nat)] w fun e w' => e = .returned (.tuple #[]) ∧ (∃ vq' l', Psh l x l' ∧ TlR wq w' ga gq gb N ah byv vq' l' vo out) ∧ Fr (Chg w gq) w w')
    (w : World) (vq : Value) (l : List Nat) (hg : Kd.Good has l []) (h : TlR wq w ga gq gb N (ahN (prG G) has N) byv vq l (.slice none 0 0) []) :
    Calls Try.prog 27 #[.pointer (some ⟨gl, 0, none⟩), .iface 55 (.pointer (some ⟨gq, 0, none⟩))] w fun e w' => ∃ v, e = .returned v ∧ w'.ownsRow wq.heap.size 3 1 v T.length (nC T) ∧ Fr (fun k => k = ga) wq w' := by
  (
    have hm1 : ∀ w, (method 197 55 (.pointer (some ⟨gq, 0, none⟩)) "sleuth/order.next").run Try.prog w = .ok (64, .pointer (some ⟨gq, 0, none⟩)) w := fun _ => by kernel_rfl
    have hm2 : ∀ w, (method 197 55 (.pointer (some ⟨gq, 0, none⟩)) "sleuth/order.put").run Try.prog w = .ok (34, .pointer (some ⟨gq, 0, none⟩)) w := fun _ => by kernel_rfl
    obtain ⟨i0, hii, hz0, hz1, hz2⟩ := info_parts info_int
    have hlen := hR.len
    have HKin := Lib.hid (fun n (hn : n < G.length) => kin_at hG hR n hn)
    have HFew := Lib.hid hR.few
    rw [hN] at hlen HKin HFew
    have HOld := Lib.hid (fun wr (f : Fr (fun k => k = ga) wq wr) => show Fr (fun _ => False) w0 wr from f0.trans f (fun j hj e => by have e2 : j = ga := e; omega))
    have HGl := Lib.hid (fun wr (f : Fr (fun k => k = ga) wq wr) => hL.fr f (fun e => hlga e))
    have HRy := Lib.hid (fun ah x (hx : x < N) wr (f : Fr (fun k => k = ga) wq wr) h1 => Orready_any gl gh ga N (.slice A N c) has ah x hx (by omega) wr (hL.fr f (fun e => hlga e)) (hH.fr f (fun e => hhga e)) h1)
    have HNx := Lib.hid (fun ah vq vo l out hl w h => Orpnext_any wq ga gq gb N ah byv vq vo l out hl w h)
    have HPt := Lib.hid HPut
    obtain ⟨Good, Mid, kstart, kpar, kpre, kpush, kskip, kfin, kstop, klen⟩ := Kd
    have hg2 : Good has l [] := hg
    have HDl := Lib.hid (fun n (hn : n < N) => hR.dn n (by omega))
    obtain ⟨pr, hpr⟩ : ∃ p, prG G = p := ⟨_, rfl⟩
    rw [hpr] at h HKin HFew hND kpar kpush kskip kfin HDl
    have HStart := Lib.hid kstart
    have HPar := Lib.hid kpar
    have HPre := Lib.hid kpre
    have HPush := Lib.hid kpush
    have HSkip := Lib.hid kskip
    have HFin := Lib.hid kfin
    have HStop := Lib.hid kstop
    have HLen := Lib.hid klen
    have HND := Lib.hid hND
    obtain ⟨w1, hw1⟩ : ∃ w1, (w.alloc (.cells #[.pointer (some ⟨gl, 0, none⟩)] 45)).alloc (.cells #[.iface 55 (.pointer (some ⟨gq, 0, none⟩))] 62) = w1 := ⟨_, rfl⟩
    obtain ⟨bl, hbl⟩ : ∃ bl, w.heap.size = bl := ⟨_, rfl⟩
    obtain ⟨bw, hbw⟩ : ∃ bw, w.heap.size + 1 = bw := ⟨_, rfl⟩
    have HF1 : Fr (fun _ => False) w w1 := by subst hw1; exact ((Fr.refl _ w).alloc _).alloc _
    have HT1 := Lib.hid (show TlS wq w1 gl ga gq gb N bl bw 55 (ahN pr has N) byv vq l (.slice none 0 0) [] [] from
      ⟨h.frF HF1, by subst hw1; subst hbl; exact (Whole.new w 45 _).fr ((Fr.refl (fun _ => False) _).alloc _) (fun e => e), by subst hw1; subst hbw; have := Whole.new (w.alloc (.cells #[.pointer (some ⟨gl, 0, none⟩)] 45)) 62 #[.iface 55 (.pointer (some ⟨gq, 0, none⟩))]; rw [World.size_alloc] at this; exact this, List.nodup_nil, fun r hr => by simp at hr⟩)
    have HG0 := Lib.hid hg2
    have HW1 := Lib.hid hw1
    have HBl := Lib.hid hbl
    have HBw := Lib.hid hbw
    have HF1 := Lib.hid HF1
    clear hL hH hG f0 HPut hg hg2 h kstart kpar kpre kpush kskip kfin kstop klen hND hR hN hpr hw1 hbl hbw hga hlga hhga
    refine (callsIn_wide (n := 9)).1 (callsIn_of_wp_marks Try.func27 rfl trivial ?_ rfl)
    simp only [Try.ntmps27, List.size_toArray, List.length_cons, List.length_nil, Nat.reduceAdd, Nat.reduceSub, Array.replicate_succ, Array.replicate_zero, List.push_toArray, List.append_toArray, List.nil_append, List.cons_append]
    refine wpIn_wide.2 ?_
    go_upto_region 2 with fail
    rw [HW1.out, HBw.out, HBl.out]
    have cw1 : w1.cell? ⟨bw, 0, none⟩ = some (.iface 55 (.pointer (some ⟨gq, 0, none⟩))) := by rw [HT1.out.bw.cell]; rfl
    have hl1 := (HLen.out _ _ _ HG0.out).1
    go_wp2_with (go_at_call 64; refine (HNx.out _ _ _ _ _ (by omega) _ HT1.out.tl).mono ?_; rintro e w2 ⟨n, b, vq2, l2, rfl, hb1, hb2, ht, hf⟩; have HB1 := Lib.hid hb1; have HB2 := Lib.hid hb2; have HT2 := Lib.hid (HT1.out.chg ht hf); clear hb1 hb2 ht hf)
    clear cw1 hl1 hm1
    have hm1 : ∀ w, (method 197 55 (.pointer (some ⟨gq, 0, none⟩)) "sleuth/order.next").run Try.prog w = .ok (64, .pointer (some ⟨gq, 0, none⟩)) w := fun _ => by kernel_rfl
    refine wp_loop_ghost_k (fun kx a' wr => ∃ (ds : List Deferred) (u5 u6 u7 u8 u9 u10 u11 u12 u13 u14 u15 u16 u17 u18 u19 u20 u21 u22 u23 u24 u25 u26 u27 u28 u29 u30 u31 u32 u33 u34 u35 u36 u37 u38 u39 u40 u41 u42 u43 u44 u45 u46 u47 u48 u49 u50 u51 : Value), (∃ (left : Nat → Bool) (n : Nat) (b : Bool) (vq : Value) (l out rs : List Nat), u6 = .int .i64 (n : Nat) ∧ u7 = .bool b ∧ ds = rs.map mkD ∧ cnt left N ≤ kx ∧ Hid (b = true → Good left (l ++ [n]) out) ∧ Hid (b = false → Good left [] out) ∧ Hid (TlS wq wr gl ga gq gb N bl bw 55 (ahN pr left N) byv vq l u5 out rs)) ∧ a' = { tmps := #[.pointer (some ⟨gl, 0, none⟩), .iface 55 (.pointer (some ⟨gq, 0, none⟩)), .pointer (some ⟨bl, 0, none⟩), .pointer (some ⟨bw, 0, none⟩), .slice none 0 0, u5, u6, u7, u8, u9, u10, u11, u12, u13, u14, u15, u16, u17, u18, u19, u20, u21, u22, u23, u24, u25, u26, u27, u28, u29, u30, u31, u32, u33, u34, u35, u36, u37, u38, u39, u40, u41, u42, u43, u44, u45, u46, u47, u48, u49, u50, u51], defers := ds }) N ?_ ?_
    · refine ⟨[], _, _, _, _, _, _, _, _, _, _, _, _, _, _, _, _, _, _, _, _, _, _, _, _, _, _, _, _, _, _, _, _, _, _, _, _, _, _, _, _, _, _, _, _, _, _, _, ⟨has, n, b, vq2, l2, [], [], rfl, rfl, rfl, cnt_le _ _, Lib.hid (fun e => by rw [← HB1.out e]; exact HG0.out), Lib.hid (fun e => by have h9 := HG0.out; rw [(HB2.out e).1] at h9; exact h9), HT2⟩, rfl⟩
    · intro gk _ wr hinv
      obtain ⟨ds, u5, u6, u7, u8, u9, u10, u11, u12, u13, u14, u15, u16, u17, u18, u19, u20, u21, u22, u23, u24, u25, u26, u27, u28, u29, u30, u31, u32, u33, u34, u35, u36, u37, u38, u39, u40, u41, u42, u43, u44, u45, u46, u47, u48, u49, u50, u51, hrel, ha⟩ := hinv
      subst ha
      intro _ _ _ _
      obtain ⟨left, n1, b1, vq1, l1, out, rs, rfl, rfl, hds, hcx, HGt, HGf, HS⟩ := hrel
      obtain ⟨wo, rfl⟩ : ∃ wo, wo = wr := ⟨wr, rfl⟩
      clear HB1 HB2 HT2 HT1 HG0
      have HDs := Lib.hid hds
      clear hds
      cases b1
      · have HE := Lib.hid (HStop.out _ _ (HGf.out rfl))
        have HND := HS.out.nd
        have HMR := HS.out.mr
        have HOL := Lib.hid HS.out.tl.ol
        have HFR := Lib.hid HS.out.tl.fr
        have HLA := Lib.hid HS.out.tl.la
        have HX := Lib.hid (fun w' (f : Fr (fun k => k ∈ rs) wo w') => own_fr HS.out.tl.ol f (fun k hk e => (own_int HS.out.tl.ol hk).noDef (HMR k e).2 rfl))
        have HX2 := Lib.hid (fun w' (f : Fr (fun k => k ∈ rs) wo w') => show Fr (fun k => k = ga) wq w' from HS.out.tl.fr.trans f (fun j hj e => by have := (HMR j e).1; omega))
        have HNd2 := Lib.hid HND
        have HMr2 := Lib.hid (fun r hr => (HMR r hr).2)
        clear HND HMR
        go_wp2
        rw [HDs.out]
        refine leaves_marks rs wo HNd2.out HMr2.out (fun w' f => ?_)
        refine ⟨_, results_tmp rfl _ _ _, _, rfl, ?_, HX2.out w' f⟩
        rw [← HE.out]
        exact HX.out w' f
      · obtain ⟨hnN, hln, hM0⟩ := HStart.out _ _ _ _ (HGt.out rfl)
        have hcnt := cnt_out left n1 N hnN hln
        have hlen2 := HLen.out _ _ _ (HGt.out rfl)
        have hol : out.length ≤ 128 := by omega
        have HM0 := Lib.hid hM0
        have HCx := Lib.hid (show cnt (outB left n1) N + 1 ≤ gk from by omega)
        have HnN := Lib.hid hnN
        have HA0 := Lib.hid (ahJ_zero pr N left n1 hnN hln)
        have HDn := Lib.hid (fun x hx => HDl.out n1 hnN x hx)
        have HNo := Lib.hid (HND.out n1 hnN)
        have HPr1 := Lib.hid (fun k l h => HPar.out (outB left n1) (out ++ [n1]) n1 k l h)
        have HPre1 := Lib.hid (fun k l h => HPre.out (outB left n1) (out ++ [n1]) n1 k l h)
        have HPush1 := Lib.hid (fun k l x l' h1 h2 h3 h4 => HPush.out (outB left n1) (out ++ [n1]) n1 k l x l' h1 h2 h3 h4)
        have HSkip1 := Lib.hid (fun k l x h1 h2 h3 => HSkip.out (outB left n1) (out ++ [n1]) n1 k l x h1 h2 h3)
        have HFin1 := Lib.hid (fun l h => HFin.out (outB left n1) (out ++ [n1]) n1 l h)
        have HLen1 := Lib.hid (fun l h => HLen.out (outB left n1) l (out ++ [n1]) h)
        have hfew := HFew.out n1 hnN
        have HAe := Lib.hid (ahJ_end pr N (outB left n1) n1)
        have HAs := Lib.hid (fun j x hj k => ahJ_step pr N (outB left n1) n1 j x hj k)
        have HAb := Lib.hid (fun k => ahN_le pr (outB left n1) k N (fun m hm => HFew.out m hm))
        have HAc := Lib.hid (fun j (x : Nat) => show ahJ pr N (outB left n1) n1 j x ≤ 6 * N + 6 from by
          unfold ahJ
          have h1 := HAb.out x
          have h2 := List.count_le_length (l := (pr n1).reverse.drop j) (a := x)
          rw [List.length_drop, List.length_reverse] at h2
          omega)
        have HRm := Lib.hid (fun j x l hm hj hx => rdyF_mid (N := N) (has := has) (left := outB left n1) (n := n1) (j := j) (x := x) HNo.out hj (HPr1.out j l hm x hx).1 (HPr1.out j l hm x hx).2)
        obtain ⟨Ap, cp, hkin⟩ := HKin.out n1 hnN
        have HKi := Lib.hid hkin
        obtain ⟨ps, hps⟩ : ∃ ps, pr n1 = ps := ⟨_, rfl⟩
        have HPs := Lib.hid hps
        rw [hps] at hfew HKi HDn HNo
        obtain ⟨P, hP⟩ : ∃ P, ps.length = P := ⟨_, rfl⟩
        have HPl := Lib.hid hP
        rw [hP] at hfew HKi
        have hn0 : (0 : Int) ≤ (n1 : Int) := by omega
        have hnz : (n1 : Int) < (N : Int) := by omega
        obtain ⟨wa, hwa⟩ : ∃ w1, wo.alloc (.cells #[.int .i64 (n1 : Nat)] 3) = w1 := ⟨_, rfl⟩
        have HFa := Lib.hid (show Fr (fun _ => False) wo wa from by subst hwa; exact (Fr.refl (fun _ => False) wo).alloc _)
        have HSrc := Lib.hid (show Src Try.prog 1 23 (.slice (some ⟨wo.heap.size, 0, none⟩) 1 1) 1 (nC [n1]) wa from by subst hwa; exact src_one Try.underlying23 wo _ rfl)
        have HSa := Lib.hid (HS.out.frF HFa.out)
        have HBase : Hid (wq.heap.size ≤ wa.heap.size) := Lib.hid HSa.out.tl.fr.size
        clear hM0 hlen2 hcnt hps hP hkin hln HStart HPar HPre HPush HSkip HFin HStop HGt HGf HFew HKin HND HDl HAb
        go_wp2_with (first
          | (at_builtin; refine wpList_append_row _ rfl (.tmp 21) (.tmp 23) 23 23 rfl wq.heap.size 3 i0 (.int .i64 0) 1 8 Try.underlying23 hii hz0 hz1 hz2 rfl u5 out.length (nC out) rfl HSa.out.tl.ol (.slice (some ⟨wo.heap.size, 0, none⟩) 1 1) 1 (nC [n1]) rfl HSrc.out (by unfold maxLen; omega) (by omega) HBase.out ?_
             intro v' w4 o1 g1 at1
             obtain ⟨t4, f4⟩ := HSa.out.tl.pushO o1 g1 at1
             have HS4 := Lib.hid (HSa.out.chg t4 f4)
             have cb4 : w4.cell? ⟨bl, 0, none⟩ = some (.pointer (some ⟨gl, 0, none⟩)) := by rw [HS4.out.bl.cell]; rfl
             have cg4 : w4.cell? ⟨gl, 0, none⟩ = some (.slice A N c) := by rw [(HGl.out w4 HS4.out.tl.fr).cell]; rfl
             obtain ⟨bb, o, hA, cn4, hpr4⟩ := HKi.out w4 (HOld.out w4 HS4.out.tl.fr)
             subst hA
             clear o1 g1 at1 t4 f4 hpr4)
          | (go_at_call 31; refine (GnBackward_any _ _ _ _).mono ?_; rintro e w5 ⟨rfl, hw5⟩))
        rw [← hw5]
        have HF5 := Lib.hid (show Fr (fun _ => False) w4 w5 from by subst hw5; exact (Fr.refl _ w4).alloc _)
        have HW5 := Lib.hid (show Whole w5 w4.heap.size 23 #[.slice Ap P cp] from by subst hw5; exact Whole.new w4 23 _)
        have HS5 := Lib.hid (HS4.out.frF HF5.out)
        obtain ⟨bs, hbs⟩ : ∃ bs, w4.heap.size = bs := ⟨_, rfl⟩
        rw [hbs] at HW5 ⊢
        clear hw5 hbs cb4 cg4 cn4
        have HSz := Lib.hid (show wq.heap.size ≤ w5.heap.size from HS5.out.tl.fr.size)
        have HRow := Lib.hid (fun W (f : Fr (fun k => k = ga) wq W) => by
          obtain ⟨b9, o9, _, _, h9⟩ := HKi.out W (HOld.out W f)
          exact h9)
        refine (wpIn_wide (n := 9)).1 ?_
        refine range_plain (gf := 36) (lb := #[.pointer (some ⟨bs, 0, none⟩)]) rfl (enters_of Try.func36 (by kernel_rfl) rfl) P (fun k => #[.int .i64 ((P : Int) - 1 - (k : Int)), .int .i64 (ps.reverse.getD k 0 : Nat)]) (fun _ => rfl) (BkRd bs Ap P cp ps) ?seq (fun k W => TlI wq W gl ga gq gb N bl bw bs 55 (.slice Ap P cp) (outB left n1) (fun j l => Mid (outB left n1) (out ++ [n1]) n1 j l) (fun j => ahJ pr N (outB left n1) n1 j) byv v' (out ++ [n1]) rs k) ?fr ?rd ?zero ?round ?done
        case seq =>
          intro l9 W J hj0 hjr hjy
          exact GnBackward1_any l9 bs Ap P cp ps HPl.out (by omega) W J hj0 hjr hjy
        case fr =>
          rintro k W W' ⟨⟨vq3, l3, hm, hs⟩, hb⟩ f hl
          exact ⟨⟨vq3, l3, hm, hs.frL (by have := HSz.out; omega) hl f⟩, hb.fr f (hb.noLoop hl)⟩
        case rd =>
          rintro k W ⟨⟨vq3, l3, hm, hs⟩, hb⟩
          exact ⟨by rw [hb.cell]; rfl, fun j hj => HRow.out W hs.tl.fr j hj⟩
        case zero =>
          intro W f
          exact ⟨⟨vq1, l1, HM0.out, by have h9 := HS5.out.frF f; rw [← HA0.out] at h9; exact h9⟩, HW5.out.fr f (fun e => e)⟩
        case round =>
          intro l9 k Wk hik hkP Kk hKk
          have HK := Lib.hid hKk
          obtain ⟨x, hx⟩ : ∃ x, ps.reverse.getD k 0 = x := ⟨_, rfl⟩
          have hxk : (pr n1).reverse[k]? = some x := by rw [HPs.out, ← hx, List.getD_eq_getElem?_getD, List.getElem?_eq_getElem (by rw [List.length_reverse, HPl.out]; exact hkP)]; rfl
          have hxp : x ∈ pr n1 := List.mem_reverse.1 (List.mem_of_getElem? hxk)
          have hxn := HDn.out x (by rw [← HPs.out]; exact hxp)
          have HXk := Lib.hid hxk
          have HXp := Lib.hid hxp
          have hxN : x < N := by omega
          simp only [hx]
          clear hKk hik hx hxk hxp
          refine wpIn_region_lit ?_
          refine wpListIn_of_wpList (fun ⟨_, _, h⟩ => h) _ (by intro o ho c; simp only [List.mem_cons, List.not_mem_nil, or_false] at ho; rcases ho with rfl; simp) _ _ ?_
          go_wp2
          refine HK.out _ (fun Wb hib hlb hdb => ?_)
          clear HK
          obtain ⟨⟨vq3, l3, hm3, hs3⟩, hb3⟩ := hib
          have HM3 := Lib.hid hm3
          have HS3 := Lib.hid hs3
          have HB3 := Lib.hid hb3
          have HLp := Lib.hid hlb
          have HDf := Lib.hid hdb
          have ca := hs3.tl.ab.rcell x hxN
          have fa := hs3.tl.ab.frozen x
          simp only [intC] at ca
          have hst := HAs.out k x HXk.out x
          rw [if_pos rfl] at hst
          have hbd := HAc.out k x
          obtain ⟨y, hy⟩ : ∃ y, ahJ pr N (outB left n1) n1 (k + 1) x = y := ⟨_, rfl⟩
          rw [hy] at hst
          rw [hst] at ca hbd
          have hca : ((y + 1 : Nat) : Int) = (y : Int) + 1 := by omega
          rw [hca] at ca
          have wy : wrap64 (y : Int) = (y : Int) := by unfold wrap64; omega
          obtain ⟨t4, f4⟩ := hs3.tl.setA x y hxN (ahJ pr N (outB left n1) n1 (k + 1)) (fun j hj => by
            have h9 := HAs.out k x HXk.out j
            by_cases e : j = x
            · subst e; rw [if_pos rfl]; exact hy
            · rw [if_neg e] at h9 ⊢; omega)
          have HS4b := Lib.hid (hs3.chg t4 f4)
          have HF4b := Lib.hid f4
          have cb1 : Wb.cell? ⟨bl, 0, none⟩ = some (.pointer (some ⟨gl, 0, none⟩)) := by rw [hs3.bl.cell]; rfl
          have cg1 : Wb.cell? ⟨gl, 2, none⟩ = some (.slice (some ⟨ga, 0, none⟩) N N) := by rw [(HGl.out Wb hs3.tl.fr).cell]; rfl
          have hx0 : (0 : Int) ≤ (x : Int) := by omega
          have hxz : (x : Int) < (N : Int) := by omega
          obtain ⟨w6, hw6⟩ : ∃ w6, Wb.setCell ⟨ga, x, none⟩ (.int .i64 (y : Nat)) = w6 := ⟨_, rfl⟩
          rw [hw6] at HS4b HF4b
          have HRdy := Lib.hid (HRy.out (ahJ pr N (outB left n1) n1 (k + 1)) x hxN w6 HS4b.out.tl.fr HS4b.out.tl.ab)
          have hrm := HRm.out k x l3 HM3.out HXk.out HXp.out
          rw [hrm] at HRdy
          clear hm3 hs3 hb3 hlb hdb hst hbd hy hca t4 f4 hrm
          refine wpIn_block ?_
          refine wpIn_seq ?_
          refine wpIn_region_lit ?_
          refine wpListIn_of_wpList (fun ⟨_, _, h⟩ => by cases h.1) _ (by intro o ho c; simp only [List.mem_cons, List.not_mem_nil, or_false] at ho; rcases ho with rfl | rfl | rfl | rfl | rfl | rfl | rfl | rfl | rfl | rfl <;> simp) _ _ ?_
          go_wp2
          try simp only [wy]
          try rw [hw6]
          clear ca fa cb1 cg1 wy hw6
          have cb2 : w6.cell? ⟨bl, 0, none⟩ = some (.pointer (some ⟨gl, 0, none⟩)) := by rw [HS4b.out.bl.cell]; rfl
          have cw2 : w6.cell? ⟨bw, 0, none⟩ = some (.iface 55 (.pointer (some ⟨gq, 0, none⟩))) := by rw [HS4b.out.bw.cell]; rfl
          obtain ⟨r, hr⟩ : ∃ r, rdyB pr N (outB left n1) x = r := ⟨_, rfl⟩
          rw [hr] at HRdy
          refine wpIn_seq ?_
          refine wpIn_region_lit ?_
          refine wpListIn_of_wpList (fun ⟨_, _, h⟩ => by cases h.1) _ (by intro o ho c; simp only [List.mem_cons, List.not_mem_nil, or_false] at ho; rcases ho with rfl | rfl | rfl <;> simp) _ _ ?_
          go_wp2_with (go_at_call 32; refine HRdy.out.mono ?_; rintro e w7 ⟨rfl, rfl⟩)
          cases r
          · refine wpIn_cond_false rfl ?_
            refine wpIn_skip ?_
            exact ⟨rfl, ⟨⟨vq3, l3, HSkip1.out k l3 x HM3.out HXk.out hr, HS4b.out⟩, HB3.out.fr HF4b.out (fun e => e.elim (fun q => HB3.out.apart HS3.out.tl.qb (by decide) q) (HB3.out.noInt (by decide)))⟩, HS3.out.around HLp.out HDf.out HF4b.out⟩
          · have HQ := Lib.hid (HPt.out _ vq3 l3 v' (out ++ [n1]) x w6 (HPre1.out k l3 HM3.out) hxN HS4b.out.tl)
            have HPk := Lib.hid (fun l' h9 => HPush1.out k l3 x l' HM3.out HXk.out hr h9)
            clear hr
            refine wpIn_cond_true rfl ?_
            refine wpIn_region_lit ?_
            refine wpListIn_of_wpList (fun ⟨_, _, h⟩ => by cases h.1) _ (by intro o ho c; simp only [List.mem_cons, List.not_mem_nil, or_false] at ho; rcases ho with rfl | rfl | rfl <;> simp) _ _ ?_
            go_wp2_with (go_at_call 34; refine HQ.out.mono ?_; rintro e w7 ⟨rfl, ⟨vq7, l7, hp, ht⟩, hf⟩; have HP7 := Lib.hid hp; have HT7 := Lib.hid ht; have HF7 := Lib.hid hf; clear hp ht hf)
            have HB6 := HB3.out.fr HF4b.out (fun e => e.elim (fun q => HB3.out.apart HS3.out.tl.qb (by decide) q) (HB3.out.noInt (by decide)))
            exact ⟨trivial, ⟨⟨vq7, l7, HPk.out l7 HP7.out, HS4b.out.chg HT7.out HF7.out⟩, HB6.fr HF7.out (fun e => e.elim (fun q => HB6.apart HS4b.out.tl.qb (by decide) q) (HB6.noInt (by decide)))⟩, HS3.out.around HLp.out HDf.out (Chg.trans HF4b.out HF7.out)⟩
        case done =>
          rintro W ⟨⟨vq3, l3, hm, hs⟩, hb⟩ hd
          have HG3 := Lib.hid (HFin1.out l3 (by rw [HPs.out, HPl.out]; exact hm))
          have hs2 := hs
          rw [← HPl.out, ← HPs.out, HAe.out] at hs2
          have HS7 := Lib.hid (hs2.mark (D := w5.heap.size) HSz.out hd (fun hr => by have := (Array.getElem?_eq_some_iff.1 (HS5.out.mr _ hr).2).1; omega))
          have cw3 : W.cell? ⟨bw, 0, none⟩ = some (.iface 55 (.pointer (some ⟨gq, 0, none⟩))) := by rw [hs.bw.cell]; rfl
          have hl3 := (HLen1.out _ HG3.out).1
          have HDs2 := Lib.hid (show ({ target := .collected w5.heap.size, args := #[] } : Deferred) :: ds = (w5.heap.size :: rs).map mkD from by rw [HDs.out]; rfl)
          obtain ⟨ds2, hds2⟩ : ∃ d, ({ target := .collected w5.heap.size, args := #[] } : Deferred) :: ds = d := ⟨_, rfl⟩
          rw [hds2] at HDs2 ⊢
          clear hm hs hb hd hs2 hds2
          simp only [Exit.inBlock, Exit.then]
          go_wp2_with (go_at_call 64; refine (HNx.out _ _ _ _ _ (by omega) _ HS7.out.tl).mono ?_; rintro e w8 ⟨n8, b8, vq8, l8, rfl, hb1, hb2, ht, hf⟩; have HB1 := Lib.hid hb1; have HB2 := Lib.hid hb2; have HT8 := Lib.hid (HS7.out.chg ht hf); clear hb1 hb2 ht hf)
          go_roundg (cnt (outB left n1) N)
          case measure => have := HCx.out; omega
          case rel => exact ⟨outB left n1, n8, b8, vq8, l8, out ++ [n1], w5.heap.size :: rs, rfl, rfl, HDs2.out, Nat.le_refl _, Lib.hid (fun e => by rw [← HB1.out e]; exact HG3.out), Lib.hid (fun e => by have h9 := HG3.out; rw [(HB2.out e).1] at h9; exact h9), HT8⟩)
end Go.Proofs.Ytpaigmmpihcdaaa

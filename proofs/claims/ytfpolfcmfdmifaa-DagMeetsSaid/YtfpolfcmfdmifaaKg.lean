/- What is proved: the queue's next; marks asked, handed up; a new painting; nodes marked. Conditions: the painting is the call's own; at most 128 nodes. -/
import Derived.Test.YtfpolfcmfdmifaaKf
namespace Go.Proofs.Ytfpolfcmfdmifaa
open Go.RowKit Go.Shelf
set_option linter.unusedVariables false

set_option maxHeartbeats 800000 in
set_option maxRecDepth 100000 in
theorem Danext_nil (w0 : World) (g gm : Nat) (gv : Value) (N : Nat) (M : Nat → Nat) (q : Value) (w : World) (h : Pn w0 w g gm gv N M q []) :
    Calls Try.prog 39 #[.pointer (some ⟨g, 2, none⟩)] w fun e w' => e = .returned (.tuple #[.int .i64 0, .bool false]) ∧ w = w' := by
  obtain ⟨A, cap, rfl, hlc, hcm, hA, hli⟩ := h.qb.shape
  have c2 : w.cell? ⟨g, 2, none⟩ = some (.slice A 0 cap) := by rw [h.pb.cell]; rfl
  have f2 : w.frozen? ⟨g, 2, none⟩ = false := h.pb.frozen 2
  clear h hli hcm hlc hA
  go_enter Try.func39, Try.ntmps39
  go_wp2
  go_ret2
  exact ⟨rfl, rfl⟩
set_option maxHeartbeats 800000 in
set_option maxRecDepth 100000 in
theorem Danext_some (w0 : World) (g gm : Nat) (gv : Value) (N : Nat) (M : Nat → Nat) (q : Value) (l : List Nat) (x : Nat) (hl : l.length ≤ 1000) (w : World) (h : Pn w0 w g gm gv N M q (l ++ [x])) :
    Calls Try.prog 39 #[.pointer (some ⟨g, 2, none⟩)] w fun e w' => e = .returned (.tuple #[.int .i64 x, .bool true]) ∧ ∃ q', Pn w0 w' g gm gv N M q' l ∧ Fr (fun k => k = g) w w' ∧ q'.ownBlock = q.ownBlock := by
  obtain ⟨A, cap, rfl, hlc, hcm, hA, hli⟩ := h.qb.shape
  have HP := Lib.hid h
  have hcut := h.qb.cut (by simp)
  have c2 : w.cell? ⟨g, 2, none⟩ = some (.slice A (l ++ [x]).length cap) := by rw [h.pb.cell]; rfl
  have f2 : w.frozen? ⟨g, 2, none⟩ = false := h.pb.frozen 2
  have e1 : (l ++ [x]).length = l.length + 1 := by simp
  obtain ⟨b, o, rfl, cx⟩ := lies_nat hli (Fr.refl _ w) l.length (by omega)
  rw [show (l ++ [x]).getD l.length 0 = x by simp [List.getD_eq_getElem?_getD]] at cx
  have hs := fun w => slice_hdN (some ⟨b, o, none⟩) (.inr ⟨b, o, rfl⟩) (l.length + 1) cap l.length (by omega) w
  rw [e1] at c2 hlc HP ⊢
  obtain ⟨L, hL⟩ : ∃ L, l.length = L := ⟨_, rfl⟩
  rw [hL] at cx hs hl hcut HP c2 hlc ⊢
  have HC := Lib.hid hcut
  have wL : IntKind.i64.wrap ((L : Int) + 1 - 1) = (L : Int) := by rw [IntKind.wrap_i64]; omega
  have nL : ¬ ((L : Int) < 0) := by omega
  have nL2 : (L : Int) < (L : Int) + 1 := by omega
  have hz : (((L + 1 : Nat) : Int)) = (L : Int) + 1 := by omega
  clear h hli hcm hA hL e1 hcut
  go_enter Try.func39, Try.ntmps39
  go_wp2
  go_ret2
  exact ⟨rfl, _, Pn.setq HP.out.pb HP.out.mb HC.out HP.out.lg HP.out.lm, (Fr.refl (fun k => k = g) w).setCell (p := ⟨g, 2, none⟩) (fun _ => rfl) _, rfl⟩

theorem Dahas_any (m s : Nat) (hm : m < 8) (hs : s < 8) (w : World) : Calls Try.prog 33 #[.int .u8 m, .int .u8 s] w fun e w' => e = .returned (.bool (decide (m &&& s = s))) ∧ w = w' := by
  have h1 := band hm hs
  have hb : (((m &&& s : Nat) : Int) == (s : Int)) = decide (m &&& s = s) := by
    rw [Bool.eq_iff_iff, beq_iff_eq, decide_eq_true_eq]; omega
  obtain ⟨r, hr⟩ : ∃ r, m &&& s = r := ⟨_, rfl⟩
  rw [hr] at h1 hb ⊢
  obtain ⟨b, hbb⟩ : ∃ b, decide (r = s) = b := ⟨_, rfl⟩
  rw [hbb] at hb ⊢
  have hb2 : decide ((r : Int) = (s : Int)) = b := by rw [← hb]; rfl
  clear hr hbb
  go_enter Try.func33, Try.ntmps33
  go_wp2
  go_ret
  exact ⟨by first | rfl | (rw [← hb]; rfl) | (rw [← hb2]; rfl), rfl⟩
theorem Dahanded_any (m : Nat) (hm : m < 8) (w : World) : Calls Try.prog 40 #[.int .u8 m] w fun e w' => e = .returned (.int .u8 (hu m : Nat)) ∧ w = w' := by
  have H := Lib.hid (fun w => Dahas_any m 3 hm (by decide) w)
  have h1 := bor hm (show 4 < 8 by decide)
  by_cases e : m &&& 3 = 3
  · have HU : Hid (hu m = m ||| 4) := Lib.hid (by unfold hu; rw [if_pos e])
    have hd : decide (m &&& 3 = 3) = true := decide_eq_true e
    rw [hd] at H
    obtain ⟨r, hr⟩ : ∃ r, m ||| 4 = r := ⟨_, rfl⟩
    rw [hr] at h1 HU
    clear e hd hr
    go_enter Try.func40, Try.ntmps40
    go_wp2_with (go_at_call 33; refine (H.out _).mono ?_; rintro e w' ⟨rfl, rfl⟩)
    go_ret
    exact ⟨by rw [HU.out]; first | rfl | (rw [← h1]; rfl), rfl⟩
  · have HU : Hid (hu m = m) := Lib.hid (by unfold hu; rw [if_neg e])
    have hd : decide (m &&& 3 = 3) = false := decide_eq_false e
    rw [hd] at H
    clear e hd
    go_enter Try.func40, Try.ntmps40
    go_wp2_with (go_at_call 33; refine (H.out _).mono ?_; rintro e w' ⟨rfl, rfl⟩)
    go_ret
    exact ⟨by rw [HU.out]; rfl, rfl⟩

set_option maxHeartbeats 800000 in
theorem DanewP_any (A : Option Addr) (N c : Nat) (hN : N ≤ 128) (w : World) :
    Calls Try.prog 30 #[.slice A N c] w fun e w' => ∃ g gm, e = .returned (.pointer (some ⟨g, 0, none⟩)) ∧ Pn w w' g gm (.slice A N c) N (fun _ => 0) (.slice none 0 0) [] := by
  have hmk := make_marks N (by omega) w
  obtain ⟨w1, hw1⟩ : ∃ w1, w.alloc (.cells (rowC (markC fun _ => 0) N) 61) = w1 := ⟨_, rfl⟩
  have HF1 := Lib.hid (show Fr (fun _ => False) w w1 from by subst hw1; exact (Fr.refl (fun _ => False) w).alloc _)
  have HW1 := Lib.hid (show Whole w1 w.heap.size 61 (rowC (markC fun _ => 0) N) from by subst hw1; exact Whole.new w 61 _)
  rw [hw1] at hmk
  have hb : ∀ (x : Nat) (w : World), (Instr.build 66 #[(0, .slice A N c), (1, .slice (some ⟨x, 0, none⟩) N N)]).run Try.prog w = .ok (.agg #[.slice A N c, .slice (some ⟨x, 0, none⟩) N N, .slice none 0 0]) w := fun x w => by kernel_rfl
  obtain ⟨B, hB⟩ : ∃ B, w.heap.size = B := ⟨_, rfl⟩
  have HB := Lib.hid hB
  rw [hB] at HW1 hmk
  have hb2 := fun w => hb B w
  clear hw1 hb hB
  go_enter Try.func30, Try.ntmps30
  go_wp2
  go_ret
  refine ⟨_, B, rfl, ?_⟩
  have f : Fr (fun _ => False) w1 (w1.alloc (.cells #[.slice A N c, .slice (some ⟨B, 0, none⟩) N N, .slice none 0 0] 66)) := (Fr.refl (fun _ => False) w1).alloc _
  exact ⟨Whole.new w1 66 _, HW1.out.fr f (fun e => e), OwnN.nil (HF1.out.trans f (fun _ _ e => e)), HF1.out.size, by rw [HB.out]; exact Nat.le_refl _⟩

/-- The blocks of a painting. -/
def PF (g gm : Nat) (q : Value) (k : Nat) : Prop := k = g ∨ k = gm ∨ q.ownBlock = some k
theorem NewB.trans {w w1 : World} {a b c : Value} (h : NewB w a b) (k : NewB w1 b c) (hs : w.heap.size ≤ w1.heap.size) : NewB w a c := by
  rcases k with k | ⟨d, k, hd⟩
  · rcases h with h | ⟨d, h, hd⟩
    · exact .inl (k.trans h)
    · exact .inr ⟨d, k.trans h, hd⟩
  · exact .inr ⟨d, k, Nat.le_trans hs hd⟩
theorem PF.step {w w1 w2 : World} {g gm : Nat} {q q1 : Value} {S : Nat → Prop} (h : Fr (PF g gm q) w w1) (k : Fr S w1 w2) (hS : ∀ j, S j → PF g gm q1 j) (hq : NewB w q q1) : Fr (PF g gm q) w w2 :=
  h.trans k (fun j hj e => by
    rcases hS j e with e1 | e1 | e1
    · exact .inl e1
    · exact .inr (.inl e1)
    · rcases hq with hq | ⟨d, hq, hd⟩
      · exact .inr (.inr (hq.symm.trans e1))
      · rw [hq] at e1; injection e1 with e1; omega)

theorem Pn.old {w0 w w' : World} {g gm : Nat} {gv : Value} {N : Nat} {M : Nat → Nat} {q : Value} {l : List Nat} (h : Pn w0 w g gm gv N M q l) (f : Fr (PF g gm q) w w') : Fr (fun _ => False) w0 w' :=
  h.qb.2.trans f (fun j hj e => by
    have h1 := h.lg
    have h2 := h.lm
    rcases e with e | e | e
    · omega
    · omega
    · have := (World.ownsRow.lt h.qb.1 j e).1; omega)
set_option maxHeartbeats 1600000 in
set_option maxRecDepth 100000 in
theorem Danext_sel (w0 : World) (g gm : Nat) (gv : Value) (N : Nat) (M : Nat → Nat) (q : Value) (f : Nat → Bool) (c : Nat) (hc : c ≤ 128) (w : World) (h : Pn w0 w g gm gv N M q (selB f c)) :
    Calls Try.prog 39 #[.pointer (some ⟨g, 2, none⟩)] w fun e w' => ∃ (n : Nat) (b : Bool) (q' : Value), e = .returned (.tuple #[.int .i64 n, .bool b]) ∧ Pn w0 w' g gm gv N M q' (if b then selB f n else []) ∧ (b = true → n < c ∧ f n = true ∧ ∀ k, n < k → k < c → f k = false) ∧ (b = false → ∀ k, k < c → f k = false) := by
  rcases sel_last f c with ⟨h1, h2⟩ | ⟨n, h1, h2, h3, h4⟩
  · rw [h1] at h
    exact (Danext_nil w0 g gm gv N M q w h).mono fun e w' ⟨he, hw⟩ => by
      subst hw
      exact ⟨0, false, q, he, h, (fun e => nomatch e), fun _ => h2⟩
  · rw [h4] at h
    exact (Danext_some w0 g gm gv N M q (selB f n) n (by have := selB_len f n; omega) w h).mono fun e w' ⟨he, q', hp, _, _⟩ => ⟨n, true, q', he, hp, fun _ => ⟨h1, h2, h3⟩, fun e => nomatch e⟩

set_option maxHeartbeats 1600000 in
set_option maxRecDepth 100000 in
theorem Daadd_any (w0 : World) (g gm : Nat) (gv : Value) (N : Nat) (M : Nat → Nat) (q : Value) (c m : Nat) (ns : List Nat) (A : Option Addr) (cap : Nat) (hN : N ≤ 128) (hc : c ≤ N) (hM : Mk8 M) (hm0 : m ≠ 0) (hm : m < 8) (hns : ∀ x ∈ ns, x < c) (hl : ns.length ≤ 1000) (w : World)
    (h : Pn w0 w g gm gv N M q (selB (onB M) c)) (hA : ∀ w', Fr (PF g gm q) w w' → Lies w' A (nC ns)) :
    Calls Try.prog 31 #[.pointer (some ⟨g, 0, none⟩), .int .u8 m, .slice A ns.length cap] w fun e w' => e = .returned (.tuple #[]) ∧ ∃ q', Pn w0 w' g gm gv N (addM M m ns) q' (selB (onB (addM M m ns)) c) ∧ Fr (PF g gm q) w w' ∧ NewB w q q' := by
  have HLs := Lib.hid hA
  have HX : Hid (∀ k, k < ns.length → ns.getD k 0 < c) := Lib.hid (fun k hk => hns _ (by rw [List.getD_eq_getElem?_getD, List.getElem?_eq_getElem hk]; exact List.getElem_mem hk))
  have HT := Lib.hid (nat_snoc ns)
  have HTa := Lib.hid (List.take_length (l := ns))
  have HM := Lib.hid (fun l => hM.add hm l)
  have HP := Lib.hid h
  have HLG := Lib.hid (fun (w' : World) (hh : Lies w' A (nC ns)) k hk => lies_nat hh (Fr.refl (fun _ => False) w') k hk)
  have HPut := Lib.hid (fun M1 q1 x hx M2 hf w1 h1 => Daput_any w0 g gm gv N M2 q1 (onB M1) (onB (addM M1 m [x])) c x (by omega) hx hf w1 h1)
  have HOn := Lib.hid (fun M1 x k => on_add M1 m x hm0 k)
  have h0 : addM M m (ns.take 0) = M := by rw [List.take_zero, addM_nil]
  obtain ⟨L, hL⟩ : ∃ L, ns.length = L := ⟨_, rfl⟩
  have HL := Lib.hid hL
  rw [hL] at hl HX HLG HT HTa ⊢
  have H0 := Lib.hid h0
  have HC := Lib.hid hc
  clear hL h hA hM hns h0 hc
  go_enter Try.func31, Try.ntmps31
  go_wp2
  go_loopg [10] L (fun kx s10 wr => ∃ (k : Nat) (q1 : Value), s10 = .int .i64 k ∧ k ≤ L ∧ L - k ≤ kx ∧ Hid (Pn w0 wr g gm gv N (addM M m (ns.take k)) q1 (selB (onB (addM M m (ns.take k))) c)) ∧ Hid (Fr (PF g gm q) w wr) ∧ Hid (NewB w q q1))
  case atStart => exact ⟨0, q, rfl, by omega, by omega, Lib.hid (by rw [H0.out]; exact HP.out), Lib.hid (Fr.refl _ _), Lib.hid (.inl rfl)⟩
  case round =>
    obtain ⟨k, q1, rfl, hk, hkx, HPr, HFr, HNb⟩ := hrel
    obtain ⟨wi, rfl⟩ : ∃ wi, wi = wr := ⟨wr, rfl⟩
    have wk := wrap_nat k (by omega)
    by_cases hlt : k < L
    · have hltz : (k : Int) < L := by omega
      obtain ⟨b, o, rfl, cx⟩ := HLG.out wi (HLs.out wi HFr.out) k hlt
      have hx := HX.out k hlt
      have HTk := Lib.hid (HT.out k hlt)
      obtain ⟨x, hxd⟩ : ∃ x, ns.getD k 0 = x := ⟨_, rfl⟩
      rw [hxd] at cx hx HTk
      have HMk := Lib.hid (HM.out (ns.take k))
      have HTs := Lib.hid (show addM M m (ns.take (k + 1)) = addM (addM M m (ns.take k)) m [x] from by rw [HTk.out, addM_snoc])
      obtain ⟨M1, hM1⟩ : ∃ M1, addM M m (ns.take k) = M1 := ⟨_, rfl⟩
      rw [hM1] at HPr HMk HTs
      have hxN : x < N := by have := HC.out; omega
      have c1 : wi.cell? ⟨g, 1, none⟩ = some (.slice (some ⟨gm, 0, none⟩) N N) := by rw [HPr.out.pb.cell]; rfl
      have cm := HPr.out.mark x hxN
      have fm := HPr.out.mb.frozen x
      have hor := bor (HMk.out x) hm
      have HPm := Lib.hid (HPr.out.setm x m hxN)
      have HFm := Lib.hid (show Fr (fun j => j = gm) wi (wi.setCell ⟨gm, x, none⟩ (.int .u8 (M1 x ||| m : Nat))) from (Fr.refl (fun j => j = gm) wi).setCell (p := ⟨gm, x, none⟩) (fun _ => rfl) _)
      have HCall := Lib.hid (HPut.out M1 q1 x hx (addM M1 m [x]) (HOn.out M1 x) _ HPm.out)
      obtain ⟨r, hr⟩ : ∃ r, M1 x ||| m = r := ⟨_, rfl⟩
      rw [hr] at hor HPm HFm HCall
      obtain ⟨y, hy⟩ : ∃ y, M1 x = y := ⟨_, rfl⟩
      rw [hy] at cm hor
      have hx0 : (0 : Int) ≤ (x : Int) := by omega
      have hxz : (x : Int) < (N : Int) := by omega
      clear hxd hM1 hr hy
      go_wp2_with (go_at_call 38; refine HCall.out.mono ?_; rintro e w2 ⟨rfl, q2, hp2, hf2, hn2⟩
                   have HP2 := Lib.hid hp2
                   have HF2 := Lib.hid (PF.step (HFr.out.trans HFm.out (fun j _ e => .inr (.inl e))) hf2 (fun j e => e.elim .inl (fun e => .inr (.inr e))) HNb.out)
                   have HN2 := Lib.hid (HNb.out.trans hn2 (Nat.le_trans HFr.out.size HFm.out.size))
                   clear hp2 hf2 hn2)
      go_roundg (L - (k + 1))
      case measure => omega
      case rel => exact ⟨k + 1, q2, by go_num, by omega, Nat.le_refl _, Lib.hid (by rw [HTs.out]; exact HP2.out), HF2, HN2⟩
    · obtain rfl : k = L := by omega
      rw [show ns.take k = ns from by rw [← HL.out, List.take_length]] at HPr
      go_wp2
      go_end0
      exact ⟨rfl, q1, HPr.out, HFr.out, HNb.out⟩
end Go.Proofs.Ytfpolfcmfdmifaa

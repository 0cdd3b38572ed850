/- What is proved: Topo of the document tells topoL. Conditions: the cells are there, the graph right, the numbers nodes'. -/
import Derived.Test.YtpaigmmpihcdaaaJe
import Derived.Deep.CutBlock
namespace Go.Proofs.Ytpaigmmpihcdaaa
open Go.RowKit Go.Shelf
set_option linter.unusedVariables false

set_option maxHeartbeats 6400000 in
set_option maxRecDepth 100000 in
theorem QoTopo_any (A : Option Addr) (c : Nat) (G : List Nd) (B : Option Addr) (cB : Nat) (l : List Nat) (hok : okG G = true) (hn : l.length ≤ 100000) (hl : ∀ x ∈ l, x < G.length) (w : World) (hG : GAt w A G) (h : Lies w B (nC l)) :
    Calls Try.prog 16 #[.slice A G.length c, .slice B l.length cB] w fun e w' => ∃ v, e = .returned v ∧ OwnN w w' v (topoL (prG G) (fun n => (timeL G).getD n 0) G.length l) := by
  have hR := right_of hok
  obtain ⟨i0, hii, hz0, hz1, hz2⟩ := info_parts info_int
  have hlen := hR.len
  have hmk := make_bools G.length (by omega)
  have HIn := Lib.hid (QoIn_any A c G.length B cB l (by omega) hn hl w h)
  have HTm := Lib.hid (fun w1 (f : Fr (fun _ => False) w w1) => QoTimes_any A c G (by omega) w1 (hG.fr f))
  have HRd := Lib.hid (fun g f w1 (q : Fr (fun _ => False) w w1) h1 => QoReady_any A c G g f hR w1 (hG.fr q) h1)
  have hTl : (timeL G).length = G.length := by unfold timeL; rw [List.length_map]
  have HTl := Lib.hid hTl
  have HYg := Lib.hid (fun g f A2 c2 w1 (h1 : Whole w1 g 4 (rowC (boolC f) G.length)) (h2 : Lies w1 A2 (zC (timeL G))) => Qoyoungest_any g G.length f A2 G.length c2 (timeL G) (by omega) hTl (Nat.le_refl _) w1 h1 h2)
  have HKin := Lib.hid (kin_at hG hR)
  have HLt := Lib.hid (pr_lt hR)
  have HFew := Lib.hid hR.few
  have HSt := Lib.hid (fun left n s (hn : n < G.length) (q : Stk (prG G) G.length left (n :: s)) => Stk.step hR.dn (pr_nodup hok n hn) q)
  obtain ⟨t, ht⟩ : ∃ t : Nat → Int, (fun n => (timeL G).getD n 0) = t := ⟨_, rfl⟩
  rw [ht] at HYg ⊢
  obtain ⟨N, hN⟩ : ∃ N, G.length = N := ⟨_, rfl⟩
  rw [hN] at hmk HIn HTm HRd HYg HKin HLt HFew HSt hlen HTl ⊢
  have HP : Hid (∀ left, pickP t N left = yng left t N) := Lib.hid (fun left => rfl)
  have HStep := Lib.hid (fun left n out T h hT => tl_P (t := t) (N := N) (left := left) (n := n) (out := out) (T := T) h hT)
  have HMem := Lib.hid (fun left n h => pickP_mem (t := t) (N := N) (left := left) (n := n) h)
  have HEnd := Lib.hid (fun left c h => takeY_end (pickP t N) left c h)
  obtain ⟨L0, hL0⟩ : ∃ L0 : Nat → Bool, (fun k => decide (k ∈ l)) = L0 := ⟨_, rfl⟩
  have HTo : Hid (topoF (prG G) N (cnt L0 N) (takeY (pickP t N) (cnt (rdyB (prG G) N L0) N) (rdyB (prG G) N L0)) L0 = topoL (prG G) t N l) := Lib.hid (by rw [← hL0]; rfl)
  have HS0 := Lib.hid (stk_start (prG G) t N L0 (cnt (rdyB (prG G) N L0) N))
  have hsl := take_mem (pickP t N) N (fun left n h => pickP_mem h) (cnt (rdyB (prG G) N L0) N) (rdyB (prG G) N L0)
  have hsl2 := cnt_le (rdyB (prG G) N L0) N
  have hcl := cnt_le L0 N
  obtain ⟨T, hT⟩ : ∃ T, topoL (prG G) t N l = T := ⟨_, rfl⟩
  rw [hT] at HTo ⊢
  have hTN : T.length ≤ 128 := by rw [← HTo.out]; have := topo_len (prG G) N (cnt L0 N) (takeY (pickP t N) (cnt (rdyB (prG G) N L0) N) (rdyB (prG G) N L0)) L0; omega
  rw [hL0] at HIn
  obtain ⟨rd, hrd⟩ : ∃ rd, rdyB (prG G) N L0 = rd := ⟨_, rfl⟩
  have HRdd := Lib.hid hrd
  rw [hrd] at HTo HS0 hsl hsl2
  obtain ⟨S, hS⟩ : ∃ S, takeY (pickP t N) (cnt rd N) rd = S := ⟨_, rfl⟩
  rw [hS] at HTo HS0 hsl
  have HS1 : Hid ([] ++ takeY (pickP t N) (cnt rd N) rd = S) := Lib.hid hS
  obtain ⟨pick, hpk⟩ : ∃ p, pickP t N = p := ⟨_, rfl⟩
  rw [hpk] at HStep HMem HEnd HP HS1
  clear hok hR hn hl hG h hN ht hTl hL0 hT hrd hS hpk
  go_enter Try.func16, Try.ntmps16
  go_upto_region 5 with (first
    | (go_at_call 17; refine HIn.out.mono ?_; rintro e w1 ⟨g, rfl, h1⟩; have HO1 := Lib.hid h1; clear h1)
    | (go_at_call 14; refine (HTm.out _ HO1.out.old).mono ?_; rintro e w2 ⟨v2, rfl, ho⟩; obtain ⟨A2, c2, hv2, hl2, had⟩ := ho.shape; rw [HTl.out] at hv2; subst hv2; have HL2 := Lib.hid hl2; have HO2 := Lib.hid (HO1.out.fr ho.2); clear ho hl2 had)
    | (go_at_call 25; refine (HRd.out g _ _ HO2.out.old HO2.out.row).mono ?_; rintro e w3 ⟨gr, rfl, h3⟩; rw [HRdd.out] at h3; have HR3 := Lib.hid h3; have HO3 := Lib.hid (HO2.out.fr h3.old); have HL3 := Lib.hid (HL2.out.fr h3.old (fun _ _ e => e)); clear h3))
  clear HIn HTm HO1 HO2 HL2
  obtain ⟨w4, hw4⟩ : ∃ w4, w3.alloc (.cells (rowC (boolC fun _ => false) N) 4) = w4 := ⟨_, rfl⟩
  obtain ⟨gf, hgf⟩ : ∃ gf, w3.heap.size = gf := ⟨_, rfl⟩
  have HF4 := Lib.hid (show OwB w3 w4 gf N (fun _ => false) from ⟨by subst hw4; subst hgf; exact Whole.new w3 4 _, by subst hw4; exact (Fr.refl (fun _ => False) w3).alloc _, by omega⟩)
  have hmk1 := hmk w3
  rw [hw4, hgf] at hmk1
  clear hmk hw4 hgf
  go_upto_block 0 with fail
  clear hmk1
  go_cut [] (fun wc => Hid (OwB w3 wc gf N rd))
  case first =>
    go_wp2_with fail
    go_loopg [10] N (fun kx s10 wr => ∃ k : Nat, s10 = .int .i64 k ∧ k ≤ N ∧ N - k ≤ kx ∧ Hid (OwB w3 wr gf N (fun j => if j < k then rd j else false)))
    case atStart => exact ⟨0, rfl, by omega, by omega, Lib.hid (by simpa using HF4.out)⟩
    case round =>
      obtain ⟨k, rfl, hk, hkx, HO⟩ := hrel
      obtain ⟨wo, rfl⟩ : ∃ wo, wo = wr := ⟨wr, rfl⟩
      have wk := wrap_nat1 k (by omega)
      by_cases hlt : k < N
      · have hltz : (k : Int) < N := by omega
        have hk0 : (0 : Int) ≤ (k : Int) := by omega
        have cl := (HR3.out.row.fr HO.out.old (fun e => e)).rcell k hlt
        have cm := HO.out.row.rcell k hlt
        have fm := HO.out.row.frozen k
        simp only [boolC, Nat.lt_irrefl, if_false] at cl cm
        obtain ⟨b, hb⟩ : ∃ b, rd k = b := ⟨_, rfl⟩
        rw [hb] at cl
        have HS := Lib.hid (HO.out.set k hlt b (fun j => if j < k + 1 then rd j else false) (fun j hj => by
          by_cases e : j = k
          · subst e; rw [if_pos rfl, if_pos (by omega), hb]
          · rw [if_neg e]
            by_cases e2 : j < k
            · rw [if_pos e2, if_pos (by omega)]
            · rw [if_neg e2, if_neg (by omega)]))
        clear hb
        go_wp2
        go_roundg (N - (k + 1))
        case measure => omega
        case rel => exact ⟨k + 1, by go_num, by omega, Nat.le_refl _, HS⟩
      · obtain rfl : k = N := by omega
        go_wp2
        go_meet
        exact Lib.hid ⟨by
          have := HO.out.row
          rwa [rowC_congr (f := boolC rd) (fun j hj => by
            unfold boolC
            show Value.bool (if j < k then rd j else false) = _
            rw [if_pos hj])] at this, HO.out.old, HO.out.new⟩
  case rest =>
  obtain ⟨wp, rfl⟩ : ∃ wp, wp = wc := ⟨wc, rfl⟩
  have HFf := Lib.hid hcut.out
  have HYq := Lib.hid (fun first wr (h1 : OwB w3 wr gf N first) => show Calls Try.prog 22 #[.slice (some ⟨gf, 0, none⟩) N N, .slice A2 N c2] wr (fun e w' => ∃ y, e = .returned (.int .i64 y) ∧ yV (pick first) = y ∧ Below wr.heap.size wr w') from by rw [HP.out]; exact (HYg.out gf first A2 c2 wr h1.row (HL3.out.fr h1.old (fun _ _ e => e))).mono fun e w' ⟨h1, h2⟩ => ⟨_, h1, rfl, h2⟩)
  have HK0 := Lib.hid (show TkR w3 wp wp gf N rd (.slice none 0 0) [] from ⟨HFf.out, Fr.refl _ _, World.ownsRow_nil wp wp.heap.size 3 1, HFf.out.old.size⟩)
  clear HF4 HR3 HYg HL3
  go_step
  go_upto_block 2 with (go_at_call 22; refine (HYq.out _ _ HK0.out.lf).mono ?_; rintro e w5 ⟨y5, rfl, hy5, b5⟩; have HY5 := Lib.hid hy5; have HK5 := Lib.hid (HK0.out.frF (Fr.of_below (S := fun _ => False) b5)); clear b5 hy5)
  go_cut [8] (fun s8 wc => ∃ v8, v8 = s8 ∧ Hid (TpR w wc g N L0 v8 S.reverse (.slice none 0 0) []))
  case first =>
    go_wp2_with fail
    go_loopg [8, 11] N (fun kx s8 s11 wr => ∃ (first : Nat → Bool) (tk : List Nat) (v : Value) (y : Int), v = s8 ∧ s11 = .int .i64 y ∧ cnt first N ≤ kx ∧ Hid (yV (pick first) = y) ∧ Hid (TkR w3 wp wr gf N first v tk.reverse) ∧ Hid (tk ++ takeY pick (cnt first N) first = S))
    case atStart => exact ⟨rd, [], _, y5, rfl, rfl, hsl2, HY5, HK5, HS1⟩
    case round =>
      obtain ⟨first, tk, v, y, rfl, rfl, hcx, HY, HK, HTk⟩ := hrel
      obtain ⟨wo, rfl⟩ : ∃ wo, wo = wr := ⟨wr, rfl⟩
      have htk : tk.length ≤ S.length := by rw [← HTk.out, List.length_append]; omega
      obtain ⟨o, ho⟩ : ∃ o, pick first = o := ⟨_, rfl⟩
      have hyo : yV o = y := by rw [← ho]; exact HY.out
      cases o with
      | none =>
        obtain rfl : y = -1 := hyo.symm
        have HE := Lib.hid (show tk = S from by rw [← HTk.out, HEnd.out first _ ho, List.append_nil])
        clear ho hyo
        go_wp2
        go_meet
        exact ⟨v, rfl, Lib.hid (by
          rw [← HE.out]
          have hs : w.heap.size ≤ wp.heap.size := Nat.le_trans HO3.out.old.size HFf.out.old.size
          exact ⟨HO3.out.fr HK.out.lf.old, own_low HK.out.own hs, World.ownsRow_nil wo w.heap.size 3 1, fun b _ hb => by simp [Value.ownBlock] at hb⟩)⟩
      | some n =>
        obtain ⟨hnN, hln⟩ := HMem.out first n ho
        have HSx := Lib.hid (HStep.out first n tk S ho HTk.out)
        have hcnt := cnt_out first n N hnN hln
        have hn0 : ¬ ((n : Int) < 0) := by omega
        have hn1 : (0 : Int) ≤ (n : Int) := by omega
        have hnz : (n : Int) < (N : Int) := by omega
        obtain rfl : y = (n : Int) := hyo.symm
        obtain ⟨p, hp⟩ : ∃ p, tk.reverse = p := ⟨_, rfl⟩
        have HPp := Lib.hid hp
        rw [hp] at HK
        have hpl : p.length ≤ 128 := by rw [← hp, List.length_reverse]; omega
        obtain ⟨Av, cv, hv, _, _⟩ := own_slice HK.out.own
        subst hv
        have HLv := Lib.hid (Lies.of_own HK.out.own)
        obtain ⟨wa, hwa⟩ : ∃ w1, wo.alloc (.cells #[.int .i64 (n : Nat)] 3) = w1 := ⟨_, rfl⟩
        have HWA := Lib.hid hwa
        have HFa := Lib.hid (show Fr (fun _ => False) wo wa from by subst hwa; exact (Fr.refl (fun _ => False) wo).alloc _)
        have HOa := Lib.hid (show wa.ownsRow wp.heap.size 3 1 (.slice (some ⟨wo.heap.size, 0, none⟩) 1 1) 1 (nC [n]) from by rw [← hwa]; exact made_one wo wp.heap.size n HK.out.fr.size)
        have HBase : Hid (wp.heap.size ≤ wa.heap.size) := Lib.hid (Nat.le_trans HK.out.fr.size HFa.out.size)
        have HSrc := Lib.hid ((HLv.out.fr HFa.out (fun _ _ e => e)).srcN (n := p.length) rfl cv)
        clear ho hln hyo HY hp
        go_wp2_with (first
          | (at_builtin; refine wpList_append_row _ rfl (.tmp 49) (.tmp 50) 23 23 rfl wp.heap.size 3 i0 (.int .i64 0) 1 8 Try.underlying23 hii hz0 hz1 hz2 rfl (.slice (some ⟨wo.heap.size, 0, none⟩) 1 1) 1 (nC [n]) rfl HOa.out (.slice Av p.length cv) p.length (nC p) rfl HSrc.out (by unfold maxLen; omega) (by omega) HBase.out ?_
             intro v' w6 o1 g1 at1
             have HK6 := Lib.hid (HK.out.pre HWA.out o1 g1)
             have HK7 := Lib.hid (HK6.out.out n hnN)
             have c4 := HK6.out.lf.row.rcell n hnN
             have f4 := HK6.out.lf.row.frozen n
             simp only [boolC] at c4
             clear o1 g1 at1)
          | (go_at_call 22; refine (HYq.out _ _ HK7.out.lf).mono ?_; rintro e w8 ⟨y8, rfl, hy8, b8⟩; have HY8 := Lib.hid hy8; have HK8 := Lib.hid (HK7.out.frF (Fr.of_below (S := fun _ => False) b8)); clear b8 hy8))
        go_roundg (cnt (outB first n) N)
        case measure => omega
        case rel => exact ⟨outB first n, tk ++ [n], v', y8, rfl, rfl, Nat.le_refl _, HY8, Lib.hid (by rw [List.reverse_append, HPp.out]; exact HK8.out), HSx⟩
  case rest =>
  obtain ⟨v8, rfl, HT8⟩ := hcut
  clear HYq HK0 HK5 HY5 HStep HMem HEnd HP HS1
  go_step
  go_wp2_with fail
  go_loopg [8, 12] N (fun kx s8 s12 wr => ∃ (left : Nat → Bool) (s out : List Nat) (vp vo : Value), vp = s8 ∧ vo = s12 ∧ cnt left N ≤ kx ∧ s.length + 6 * cnt left N ≤ 900 ∧ Hid (TpR w wr g N left vp s.reverse vo out) ∧ Hid (Stk (prG G) N left s) ∧ Hid (out ++ topoF (prG G) N (cnt left N) s left = T))
  case atStart => exact ⟨L0, S, [], v8, _, rfl, rfl, hcl, by omega, HT8, HS0, HTo⟩
  case round =>
    obtain ⟨left, s, out, vp, vo, rfl, rfl, hcx, hsz, HK, HSk, HTt⟩ := hrel
    obtain ⟨wo, rfl⟩ : ∃ wo, wo = wr := ⟨wr, rfl⟩
    have hol : out.length ≤ 128 := by have : out.length ≤ T.length := by (rw [← HTt.out, List.length_append]; omega)
                                      omega
    cases s with
    | nil =>
      have HE := Lib.hid (show out = T from by rw [← HTt.out, topo_end, List.append_nil])
      obtain ⟨Av, cv, hv, _, _⟩ := own_slice HK.out.pl
      rw [List.reverse_nil, List.length_nil] at hv
      subst hv
      go_wp2
      go_ret
      exact ⟨vo, rfl, by rw [← HE.out]; exact ⟨HK.out.ow, HK.out.lf.old⟩⟩
    | cons n s =>
      rw [List.length_cons] at hsz
      have hnN := (HSk.out.rd n (by simp)).1
      obtain ⟨_, hln, hst⟩ := HSt.out left n s hnN HSk.out
      have HSn := Lib.hid hst
      have hcnt := cnt_out left n N hnN hln
      have HTn := Lib.hid (show (out ++ [n]) ++ topoF (prG G) N (cnt (outB left n) N) (pushL (prG G) N left n ++ s) (outB left n) = T from by rw [← HTt.out, topo_step (prG G) N n s left hnN hln, List.append_assoc]; rfl)
      obtain ⟨p0, hp0⟩ : ∃ p, s.reverse = p := ⟨_, rfl⟩
      have HP0 := Lib.hid hp0
      rw [List.reverse_cons, hp0] at HK
      have hpl : p0.length = s.length := by rw [← hp0, List.length_reverse]
      obtain ⟨Av, cv, hv, hcv, _⟩ := own_slice HK.out.pl
      rw [show (p0 ++ [n]).length = p0.length + 1 by simp] at hv hcv
      subst hv
      have hpl2 := HK.out.pl
      rw [show (p0 ++ [n]).length = p0.length + 1 by simp] at hpl2
      obtain ⟨b1, o1, hB1, cn⟩ := lies_nat (Lies.of_own hpl2) (Fr.refl (fun _ => False) wo) p0.length (by simp)
      subst hB1
      rw [show (p0 ++ [n]).getD p0.length 0 = n by simp [List.getD_eq_getElem?_getD]] at cn
      have HKp := Lib.hid HK.out.pop
      obtain ⟨pn, hpn⟩ : ∃ k, p0.length = k := ⟨_, rfl⟩
      rw [hpn] at cn hcv HKp hpl ⊢
      have hpb : pn ≤ 900 := by omega
      have HPl := Lib.hid hpl
      clear hpl
      have hsl := fun w => slice_hdN (some ⟨b1, o1, none⟩) (.inr ⟨b1, o1, rfl⟩) (pn + 1) cv pn (by omega) w
      have wp1 : IntKind.i64.wrap ((pn : Int) + 1 - 1) = (pn : Int) := by rw [IntKind.wrap_i64]; omega
      have hpz : (0 : Int) < (pn : Int) + 1 := by omega
      have hpz2 : (pn : Int) < (pn : Int) + 1 := by omega
      have hp0 : (0 : Int) ≤ (pn : Int) := by omega
      have hn1 : (0 : Int) ≤ (n : Int) := by omega
      have hnz : (n : Int) < (N : Int) := by omega
      obtain ⟨Ap, cp, hkin⟩ := HKin.out n hnN
      have HKi := Lib.hid hkin
      have hfew := HFew.out n hnN
      have HLt1 := Lib.hid (HLt.out n hnN)
      obtain ⟨ps, hps⟩ : ∃ ps, prG G n = ps := ⟨_, rfl⟩
      have HPs := Lib.hid hps
      rw [hps] at hfew HLt1 HKi
      obtain ⟨P, hP⟩ : ∃ P, ps.length = P := ⟨_, rfl⟩
      have HPp := Lib.hid hP
      rw [hP] at hfew HLt1 HKi
      have wP : IntKind.i64.wrap ((P : Int) - 1) = (P : Int) - 1 := by rw [IntKind.wrap_i64]; omega
      obtain ⟨wa, hwa⟩ : ∃ w1, wo.alloc (.cells #[.int .i64 (n : Nat)] 3) = w1 := ⟨_, rfl⟩
      have HFa := Lib.hid (show Fr (fun _ => False) wo wa from by subst hwa; exact (Fr.refl (fun _ => False) wo).alloc _)
      have HSrc := Lib.hid (show Src Try.prog 1 23 (.slice (some ⟨wo.heap.size, 0, none⟩) 1 1) 1 (nC [n]) wa from by subst hwa; exact src_one Try.underlying23 wo _ rfl)
      have HKa := Lib.hid (HKp.out.frF HFa.out)
      have HBase : Hid (w.heap.size ≤ wa.heap.size) := Lib.hid HKa.out.lf.old.size
      clear hpl2 hln hst hpn hkin hps hP hp0 HSk
      go_upto_region 22 with (first
        | (at_builtin; refine wpList_append_row _ rfl (.tmp 69) (.tmp 71) 23 23 rfl w.heap.size 3 i0 (.int .i64 0) 1 8 Try.underlying23 hii hz0 hz1 hz2 rfl vo out.length (nC out) rfl HKa.out.ow (.slice (some ⟨wo.heap.size, 0, none⟩) 1 1) 1 (nC [n]) rfl HSrc.out (by unfold maxLen; omega) (by omega) HBase.out ?_
           intro vo' w6 o6 g6 at6
           have HK6 := Lib.hid (HKa.out.pushO o6 g6 at6)
           have HK7 := Lib.hid (HK6.out.out' n hnN)
           have c4 := HK6.out.lf.row.rcell n hnN
           have f4 := HK6.out.lf.row.frozen n
           simp only [boolC] at c4
           clear o6 g6 at6)
        | (go_at_call 25; refine (HRd.out g _ _ HK7.out.lf.old HK7.out.lf.row).mono ?_; rintro e w8 ⟨gn, rfl, h8⟩; have HK8 := Lib.hid (HK7.out.frF h8.old); have HN8 := Lib.hid h8.row; clear h8))
      obtain ⟨left2, hl2⟩ : ∃ f, outB left n = f := ⟨_, rfl⟩
      have HL2 := Lib.hid hl2
      rw [hl2] at HK8 HN8 HSn HTn hcnt
      obtain ⟨now, hnow⟩ : ∃ f, rdyB (prG G) N left2 = f := ⟨_, rfl⟩
      have HNow := Lib.hid hnow
      rw [hnow] at HN8
      have HPush : Hid (pushL (prG G) N left n = ps.filter now) := Lib.hid (by unfold pushL; rw [HPs.out, HL2.out, HNow.out])
      rw [HPush.out] at HSn HTn
      have HD : Hid (∀ m, m < P → ((ps.drop m).reverse.filter now) = ((ps.drop (m + 1)).reverse.filter now) ++ (if now (ps.getD m 0) = true then [ps.getD m 0] else [])) := Lib.hid (fun m hm => by
        have hm' : m < ps.length := by rw [HPp.out]; exact hm
        rw [List.drop_eq_getElem_cons hm', List.reverse_cons, List.filter_append, List.getD_eq_getElem?_getD, List.getElem?_eq_getElem hm', Option.getD_some]
        congr 1
        by_cases e : now ps[m] = true
        · rw [if_pos e]; simp [e]
        · rw [if_neg e]; simp [e])
      have HD0 : Hid ((ps.drop P).reverse.filter now = []) := Lib.hid (by rw [List.drop_of_length_le (by rw [HPp.out]; exact Nat.le_refl _)]; rfl)
      have HDl : Hid (∀ m, ((ps.drop m).reverse.filter now).length ≤ 6) := Lib.hid (fun m => by
        have h1 := List.length_filter_le now (ps.drop m).reverse
        rw [List.length_reverse, List.length_drop, HPp.out] at h1
        omega)
      have HDe : Hid (p0 ++ (ps.drop 0).reverse.filter now = (ps.filter now ++ s).reverse) := Lib.hid (by rw [List.drop_zero, List.reverse_append, HP0.out, List.filter_reverse])
      have HFl : Hid ((ps.filter now).length ≤ P) := Lib.hid (by rw [← HPp.out]; exact List.length_filter_le _ _)
      have HKs := Lib.hid (show TpR w w8 g N left2 (.slice (some ⟨b1, o1, none⟩) pn cv) (p0 ++ (ps.drop P).reverse.filter now) vo' (out ++ [n]) from by rw [HD0.out, List.append_nil]; exact HK8.out)
      obtain ⟨bb, ob, hBk, ca, -⟩ := HKi.out w8 HK8.out.lf.old
      subst hBk
      have hp0l : p0.length ≤ 900 := by rw [← HP0.out, List.length_reverse]; have := HPl.out; omega
      clear hl2 hnow HK6 HK7 HKa HKp HK HSrc HFa HBase cn hsl c4 f4 HK8
      go_wp2
      clear ca
      go_loopg [8, 15] P (fun kx s8 s15 wr => ∃ (m : Nat) (vp : Value), vp = s8 ∧ s15 = .int .i64 ((m : Int) - 1) ∧ m ≤ P ∧ m ≤ kx ∧ Hid (TpR w wr g N left2 vp (p0 ++ (ps.drop m).reverse.filter now) vo' (out ++ [n])) ∧ Hid (Whole wr gn 4 (rowC (boolC now) N)))
      case atStart => exact ⟨P, _, rfl, rfl, Nat.le_refl _, Nat.le_refl _, HKs, HN8⟩
      case round =>
        obtain ⟨m, vp, rfl, rfl, hm, hmx, HKm, HNm⟩ := hrel
        obtain ⟨wi, rfl⟩ : ∃ wi, wi = wr := ⟨wr, rfl⟩
        rcases Nat.eq_zero_or_pos m with h0 | h0
        · subst h0
          rw [HDe.out] at HKm
          go_wp2
          go_roundg (cnt left2 N)
          case measure => omega
          case rel => exact ⟨left2, ps.filter now ++ s, out ++ [n], vp, vo', rfl, rfl, Nat.le_refl _, by rw [List.length_append]; have := HFl.out; omega, HKm, HSn, HTn⟩
        · obtain ⟨j, rfl⟩ : ∃ j, m = j + 1 := ⟨m - 1, by omega⟩
          rw [show ((j + 1 : Nat) : Int) - 1 = (j : Int) by omega]
          have hj0 : (0 : Int) ≤ (j : Int) := by omega
          have hjP : j < P := by omega
          have hjz : (j : Int) < (P : Int) := by omega
          have wj : IntKind.i64.wrap ((j : Int) - 1) = (j : Int) - 1 := by rw [IntKind.wrap_i64]; omega
          obtain ⟨b2, o2, hB2, ca, hpl⟩ := HKi.out wi HKm.out.lf.old
          injection hB2 with hB2
          injection hB2 with e1 e2
          subst e1; subst e2
          obtain ⟨b3, o3, hB3, cp3⟩ := hpl j hjP
          subst hB3
          have hxn := HLt1.out j hjP
          have HDj := Lib.hid (HD.out j hjP)
          obtain ⟨x, hx⟩ : ∃ x, ps.getD j 0 = x := ⟨_, rfl⟩
          rw [hx] at cp3 hxn HDj
          have cw := HNm.out.rcell x (by omega)
          simp only [boolC] at cw
          obtain ⟨q, hq⟩ : ∃ q, p0 ++ (ps.drop (j + 1)).reverse.filter now = q := ⟨_, rfl⟩
          have hql : q.length ≤ 906 := by rw [← hq, List.length_append]; have := HDl.out (j + 1); omega
          have HQ := Lib.hid hq
          rw [hq] at HKm
          have hx0 : (0 : Int) ≤ (x : Int) := by omega
          have hxz : (x : Int) < (N : Int) := by omega
          obtain ⟨b, hb⟩ : ∃ b, now x = b := ⟨_, rfl⟩
          rw [hb] at cw HDj
          clear hx hq hb hpl
          cases b
          · have HE := Lib.hid (show p0 ++ (ps.drop j).reverse.filter now = q from by rw [HDj.out]; simpa using HQ.out)
            go_wp2
            go_roundg j
            case measure => omega
            case rel => exact ⟨j, vp, rfl, by go_num, by omega, Nat.le_refl _, Lib.hid (by rw [HE.out]; exact HKm.out), HNm⟩
          · have HE := Lib.hid (show p0 ++ (ps.drop j).reverse.filter now = q ++ [x] from by rw [HDj.out, ← HQ.out]; simp)
            obtain ⟨wa, hwa⟩ : ∃ w1, wi.alloc (.cells #[.int .i64 (x : Nat)] 3) = w1 := ⟨_, rfl⟩
            have HFa := Lib.hid (show Fr (fun _ => False) wi wa from by subst hwa; exact (Fr.refl (fun _ => False) wi).alloc _)
            have HSrc := Lib.hid (show Src Try.prog 1 23 (.slice (some ⟨wi.heap.size, 0, none⟩) 1 1) 1 (nC [x]) wa from by subst hwa; exact src_one Try.underlying23 wi _ rfl)
            have HKa := Lib.hid (HKm.out.frF HFa.out)
            have HNa := Lib.hid (HNm.out.fr HFa.out (fun e => e))
            have HBase : Hid (w.heap.size ≤ wa.heap.size) := Lib.hid HKa.out.lf.old.size
            go_wp2_with (at_builtin; refine wpList_append_row _ rfl (.tmp 101) (.tmp 110) 23 23 rfl w.heap.size 3 i0 (.int .i64 0) 1 8 Try.underlying23 hii hz0 hz1 hz2 rfl vp q.length (nC q) rfl HKa.out.pl (.slice (some ⟨wi.heap.size, 0, none⟩) 1 1) 1 (nC [x]) rfl HSrc.out (by unfold maxLen; omega) (by omega) HBase.out ?_
                         intro vp' w9 o9 g9 at9
                         have HK9 := Lib.hid (HKa.out.pushP o9 g9 at9)
                         have HN9 := Lib.hid (HNa.out.fr ((Fr.refl (fun k => vp.ownBlock = some k) wa).grown g9 (fun k e _ => e)) (fun e => own_apart HKa.out.pl HNa.out (by decide) e))
                         clear o9 g9 at9)
            go_roundg j
            case measure => omega
            case rel => exact ⟨j, vp', rfl, by go_num, by omega, Nat.le_refl _, Lib.hid (by rw [HE.out]; exact HK9.out), HN9⟩
end Go.Proofs.Ytpaigmmpihcdaaa

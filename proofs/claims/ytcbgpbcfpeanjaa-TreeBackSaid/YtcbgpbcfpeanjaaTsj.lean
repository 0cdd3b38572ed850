/- What is proved: the walks of the laws TreeGets and TreeBack. Conditions: the arguments' cells are there. -/
import Derived.Test.YtcbgpbcfpeanjaaTsh
import Derived.Test.YtcbgpbcfpeanjaaTsi
namespace Go.Proofs.Ytcbgpbcfpeanjaa
open Go.RowKit Go.Sort Go.Shelf
set_option linter.unusedVariables false

theorem own_none1 (w : World) : (w.alloc (.cells #[] 5)).ownsRow w.heap.size 5 1 (.slice (some ⟨w.heap.size, 0, none⟩) 0 0) 0 [] :=
  World.ownsRow_made w #[] 0 (Nat.le_refl _) (Nat.zero_le _) rfl
theorem OwnB.form {w0 w : World} {v : Value} {l : List UInt8} {n : Nat} (h : OwnB w0 w v l) (hn : l.length = n) : ∃ A c, v = .slice A n c ∧ n ≤ c ∧ Plain A ∧ Lies w A (bytesV l) ∧ Fr (fun _ => False) w0 w := by
  obtain ⟨A, c, hv, hc, hl⟩ := h.slice
  refine ⟨A, c, by rw [hv, hn], by omega, ?_, hl, h.2⟩
  rcases own_shape h.1 with ⟨hs, _, _⟩ | ⟨g, cap, hs, _⟩
  · rw [hv] at hs; injection hs with hs; exact .inl hs
  · rw [hv] at hs; injection hs with hs; exact .inr ⟨g, 0, hs⟩
theorem own_copyB {w1 wa : World} {vO : Value} {l : List UInt8} {L : Nat} (hL : l.length = L) (o1 : wa.ownsRow w1.heap.size 5 1 vO (0 + L) ([] ++ bytesV l)) (g1 : (w1.alloc (.cells #[] 5)).grownBy wa (Value.slice (some ⟨w1.heap.size, 0, none⟩) 0 0).ownBlock) : ∃ A c, vO = .slice A L c ∧ L ≤ c ∧ Plain A ∧ Lies wa A (bytesV l) ∧ Fr (fun _ => False) w1 wa := by
  have f : Fr (fun _ => False) w1 wa := fr_append (own_none1 w1) ((Fr.refl (fun _ => False) w1).alloc _) g1
  have h : OwnB w1 wa vO l := ⟨by rw [hL]; simpa using o1, f⟩
  exact h.form hL

/-! Get of no bytes. -/
theorem chk_none : chk [] = 0 := by kernel_rfl
set_option maxHeartbeats 1600000 in
theorem TGet_nil (A : Option Addr) (c : Nat) (w : World) :
    Calls Try.prog 17 #[.slice A 0 c] w fun e w' => ∃ v, e = .returned (.tuple #[v, .int .i64 0]) ∧ OwnE w w' v [] := by
  have cc := TCheck_any none 0 [] (by simp) w (.inl rfl)
  rw [chk_none] at cc
  have CC := Lib.hid cc
  clear cc
  go_enter Try.func17, Try.ntmps17
  go_wp2_with fail
  refine wp_loop_rounds 1 ?_
  rw [rounds_succ]
  go_wp2_with (go_at_call 10; refine CC.out.mono ?_; rintro e w1 ⟨rfl, bb⟩; have HF0 := Lib.hid ((Fr.refl (fun _ => False) w).then_below bb); clear bb)
  go_ret2
  exact ⟨_, rfl, OwnE.nil HF0.out⟩
theorem TGet_all (A : Option Addr) (c : Nat) (l0 : List UInt8) (hl : l0.length ≤ 100000) (hcap : l0.length ≤ c) (w : World) (h : Lies w A (bytesV l0)) :
    Calls Try.prog 17 #[.slice A l0.length c] w fun e w' => ∃ v, e = .returned (.tuple #[v, .int .i64 (getW l0 []).2]) ∧ OwnE w w' v (getW l0 []).1 := by
  by_cases h0 : l0 = []
  · subst h0
    have := TGet_nil A c w
    have e : getW [] [] = ([], 0) := by rw [getW_nil, chk_none]; rfl
    rw [e]
    exact this
  · obtain ⟨b, o, hA⟩ := h.someB (List.length_pos_iff.2 h0)
    exact TGet_any A (.inr ⟨b, o, hA⟩) c l0 hl hcap w h

set_option maxHeartbeats 6400000 in
theorem gets_walk (A : Option Addr) (cap : Nat) (bs : List UInt8) (w : World) (hl : Lies w A (bytesV bs)) (hcap : bs.length ≤ cap) :
    Calls Try.prog 5 #[.slice A bs.length cap] w fun e w' => e = .returned (.bool true) ∧ Below w.heap.size w w' := by
  have HL := Lib.hid (fun w' (f : Fr (fun _ => False) w w') => hl.fr f (fun _ _ e => e))
  by_cases hbig : 5000 < bs.length
  · have hgt : (5000 : Int) < (bs.length : Int) := by omega
    obtain ⟨L, hL⟩ : ∃ L, bs.length = L := ⟨_, rfl⟩
    rw [hL] at hgt ⊢
    clear hL hl hbig HL hcap
    go_enter Try.func5, Try.ntmps5
    go_wp2_with (go_at_call 8; refine (works6_any _).mono ?_; rintro e w2 ⟨rfl, b2⟩)
    go_ret
    exact ⟨rfl, b2⟩
  · obtain ⟨i0, hi, hz0, hz1, hz2⟩ := info_parts info_u8
    have hgl := getW_len bs.length bs [] (Nat.le_refl _)
    rw [List.length_nil] at hgl
    have C1 := Lib.hid (fun w' A c (hA : Plain A) (hc : bs.length ≤ c) (h : Lies w' A (bytesV bs)) => TGet_any A hA c bs (by omega) hc w' h)
    have C2 := Lib.hid (fun w' A c (hc : bs.length ≤ c) (h : Lies w' A (bytesV bs)) => QtGet_any A c bs (by omega) hc w' h)
    have C3 := Lib.hid (fun w' A B c d (h : Lies w' A (flatE (getW bs []).1)) (h2 : Lies w' B (flatE (getW bs []).1)) => QtSame_same A B c d (getW bs []).1 (by omega) w' h h2)
    have C4 := Lib.hid (fun w' A B c d (h : Lies w' A (bytesV bs)) (h2 : Lies w' B (bytesV bs)) => Same_any A B c d bs bs w' h h2)
    rw [beq_self_eq_true] at C4
    obtain ⟨G1, hG1⟩ : ∃ G, (getW bs []).1 = G := ⟨_, rfl⟩
    obtain ⟨G2, hG2⟩ : ∃ G, (getW bs []).2 = G := ⟨_, rfl⟩
    rw [hG1] at C1 C2 C3
    rw [hG2] at C1 C2
    obtain ⟨K, hK⟩ : ∃ K, G1.length = K := ⟨_, rfl⟩
    have HKn := Lib.hid hK
    rw [hK] at C3
    obtain ⟨L, hL⟩ : ∃ L, bs.length = L := ⟨_, rfl⟩
    have HLn := Lib.hid hL
    have HCap := Lib.hid hcap
    rw [hL] at C1 C2 C4 hbig HCap ⊢
    have hle : ¬ ((5000 : Int) < (L : Int)) := by omega
    clear hL hl hG1 hG2 hK hgl hbig hcap
    go_enter Try.func5, Try.ntmps5
    go_wp2_with (first
      | (go_at_call 8; refine (works6_any we).mono ?_; rintro e wh ⟨rfl, bh⟩)
      | (go_at_call 16; refine (C4.out we _ _ _ _ (hlO.fr Fe.out.2 (fun _ _ e => e)) (HL.out we Fe.out.1)).mono ?_; rintro e wf ⟨rfl, rfl⟩)
      | (go_at_call 12; refine (C3.out wd _ _ _ _ (h1.fr Fd.out.2.2 (fun _ _ e => e)) h2).mono ?_; rintro e we ⟨rfl, be⟩
         have Fe := Lib.hid (And.intro (Fd.out.1.then_below be) (Fd.out.2.1.then_below be))
         clear be)
      | (go_at_call 18; refine (C2.out wb _ _ HCap.out (HL.out wb Fb.out.1)).mono ?_; rintro e wd ⟨v2, rfl, o2⟩
         obtain ⟨A2, c2, rfl, h2, f2⟩ := o2.form HKn.out
         have Fd := Lib.hid (And.intro (Fb.out.1.trans f2 (fun _ _ e => e)) (And.intro (Fb.out.2.trans f2 (fun _ _ e => e)) f2))
         clear o2 f2)
      | (go_at_call 17; refine (C1.out wa _ _ hpO hcO hlO).mono ?_; rintro e wb ⟨v1, rfl, o1⟩
         obtain ⟨A1, c1, rfl, h1, f1⟩ := o1.form HKn.out
         have Fb := Lib.hid (And.intro (Fa.out.trans f1 (fun _ _ e => e)) f1)
         clear o1 f1)
      | (at_builtin; refine wpList_append_row _ rfl (.tmp 12) (.tmp 13) 30 30 rfl w.heap.size 5 i0 (.int .u8 0) 1 1 Try.underlying30 hi hz0 hz1 hz2 rfl (.slice (some ⟨w.heap.size, 0, none⟩) 0 0) 0 [] rfl (own_none1 w) (.slice A L cap) L (bytesV bs) rfl (Lies.srcB (HL.out _ ((Fr.refl (fun _ => False) w).alloc _)) HLn.out cap) (by unfold maxLen; omega) (by omega) (by simp) ?_
         intro vO wa o1 g1 at1
         obtain ⟨AO, cO, rfl, hcO, hpO, hlO, hfO⟩ := own_copyB HLn.out o1 g1
         have Fa := Lib.hid hfO
         clear o1 g1 at1 hfO))
    go_ret
    exact ⟨rfl, (Fe.out.1.then_below bh).below (fun _ _ e => e)⟩

theorem srt_big (es : List Ent) (h : es.length ≤ 100) : (srt (ltOf keyCmp) es).length ≤ 100 := by rw [srt_len]; exact h
set_option maxHeartbeats 6400000 in
theorem backs_walk (A B : Option Addr) (ca cb : Nat) (es : List Ent) (bs : List UInt8) (w : World) (hl : Lies w A (flatE es)) (hlen : es.length ≤ 9223372036854775807) (hb : Lies w B (bytesV bs)) (hcap : bs.length ≤ cb) :
    Calls Try.prog 6 #[.slice A es.length ca, .slice B bs.length cb] w fun e w' => e = .returned (.bool true) ∧ Below w.heap.size w w' := by
  have HL := Lib.hid (fun w' (f : Fr (fun _ => False) w w') => hl.fr f (fun _ _ e => e))
  have HB := Lib.hid (fun w' (f : Fr (fun _ => False) w w') => hb.fr f (fun _ _ e => e))
  by_cases hbig : 100 < es.length
  · have hgt : (100 : Int) < (es.length : Int) := by omega
    obtain ⟨L, hL⟩ : ∃ L, es.length = L := ⟨_, rfl⟩
    obtain ⟨M, hM⟩ : ∃ M, bs.length = M := ⟨_, rfl⟩
    rw [hL] at hgt ⊢
    rw [hM]
    clear hL hl hbig hlen HL hcap hM hb HB
    go_enter Try.func6, Try.ntmps6
    go_wp2_with (go_at_call 8; refine (works6_any _).mono ?_; rintro e w2 ⟨rfl, b2⟩)
    go_ret
    exact ⟨rfl, b2⟩
  · by_cases hbig2 : 5000 < bs.length
    · have hle : ¬ (100 : Int) < (es.length : Int) := by omega
      have hgt : (5000 : Int) < (bs.length : Int) := by omega
      obtain ⟨L, hL⟩ : ∃ L, es.length = L := ⟨_, rfl⟩
      obtain ⟨M, hM⟩ : ∃ M, bs.length = M := ⟨_, rfl⟩
      rw [hL] at hle ⊢
      rw [hM] at hgt ⊢
      clear hL hl hbig hlen HL hcap hM hb HB hbig2
      go_enter Try.func6, Try.ntmps6
      go_wp2_with (go_at_call 8; refine (works6_any _).mono ?_; rintro e w2 ⟨rfl, b2⟩)
      go_ret
      exact ⟨rfl, b2⟩
    · obtain ⟨ss, hss⟩ : ∃ ss, srt (ltOf keyCmp) es = ss := ⟨_, rfl⟩
      have hsl : ss.length = es.length := by rw [← hss, srt_len]
      have hgl := getW_len bs.length bs [] (Nat.le_refl _)
      rw [List.length_nil] at hgl
      have HErr := Lib.hid (getW_err bs.length bs [] (Nat.le_refl _))
      have HOk := Lib.hid (put_got bs)
      have C1 := Lib.hid (fun w' A c (h : Lies w' A (flatE es)) => TSorted_any A c es (by omega) w' h)
      have C2 := Lib.hid (fun w' A c (h : Lies w' A (flatE ss)) => TPut_any A c ss (by omega) w' h)
      have C4 := Lib.hid (fun w' A c (h : Lies w' A (flatE es)) => QtSorted_any A c es (by omega) w' h)
      have C5 := Lib.hid (fun w' A B c d (h : Lies w' A (flatE ss)) (h2 : Lies w' B (flatE ss)) => QtSame_same A B c d ss (by omega) w' h h2)
      have C6 := Lib.hid (fun w' A c (hc : bs.length ≤ c) (h : Lies w' A (bytesV bs)) => TGet_all A c bs (by omega) hc w' h)
      have C7 := Lib.hid (fun w' A c (h : Lies w' A (flatE (getW bs []).1)) => TPut_any A c (getW bs []).1 (by omega) w' h)
      have C8 := Lib.hid (fun w' A B c d (h : Lies w' A (bytesV bs)) (h2 : Lies w' B (bytesV bs)) => Same_any A B c d bs bs w' h h2)
      rw [beq_self_eq_true] at C8
      have hpl : chk ss = 0 → (putB ss).length ≤ 100000 := fun h => by
        have h1 := chk_zero h
        rw [putB, if_pos h]
        have := flatB_len ss (fun e he => (firstBad_ok ss h1.1 e he).2)
        omega
      have C3 := Lib.hid (fun (h0 : chk ss = 0) w' A c (hA : Plain A) (hc : (putB ss).length ≤ c) (h : Lies w' A (bytesV (putB ss))) => TGet_any A hA c (putB ss) (hpl h0) hc w' h)
      have HGP := Lib.hid (got_of_put ss)
      obtain ⟨p, hp⟩ : ∃ p, putB ss = p := ⟨_, rfl⟩
      rw [hp] at C2 C3 HGP
      obtain ⟨P, hPn⟩ : ∃ P, p.length = P := ⟨_, rfl⟩
      have HPn := Lib.hid hPn
      rw [hPn] at C3
      obtain ⟨r, hr⟩ : ∃ r, chk ss = r := ⟨_, rfl⟩
      rw [hr] at C2 C3 HGP
      obtain ⟨G1, hG1⟩ : ∃ G, (getW bs []).1 = G := ⟨_, rfl⟩
      obtain ⟨G2, hG2⟩ : ∃ G, (getW bs []).2 = G := ⟨_, rfl⟩
      rw [hG1] at C6 C7 HErr HOk hgl
      rw [hG2] at C6 HErr HOk
      obtain ⟨K, hK⟩ : ∃ K, G1.length = K := ⟨_, rfl⟩
      have HKn := Lib.hid hK
      rw [hK] at C7 hgl
      rw [hss] at C1 C4
      rw [hsl] at C2 C5
      obtain ⟨L, hL⟩ : ∃ L, es.length = L := ⟨_, rfl⟩
      obtain ⟨M, hM⟩ : ∃ M, bs.length = M := ⟨_, rfl⟩
      have HSn := Lib.hid (hsl.trans hL)
      have HMn := Lib.hid hM
      have HCap := Lib.hid hcap
      rw [hL] at C1 C2 C4 C5 hbig ⊢
      rw [hM] at C6 C8 hbig2 HCap ⊢
      have hle : ¬ ((100 : Int) < (L : Int)) := by omega
      have hle2 : ¬ ((5000 : Int) < (M : Int)) := by omega
      clear hL hl hlen hG1 hG2 hK hgl hbig hcap hM hb hbig2 hss hsl hp hPn hr hpl
      go_enter Try.func6, Try.ntmps6
      by_cases hr0 : r = 0
      · subst hr0
        have C3' := C3.out rfl
        have HGP' := HGP.out rfl
        rw [HGP'] at C3'
        have C9 := Lib.hid C3'
        clear C3 HGP C3' HGP'
        by_cases hG0 : G2 = 0
        · subst hG0
          have C7' := C7.out
          rw [(HOk.out rfl).1, (HOk.out rfl).2] at C7'
          have C10 := Lib.hid C7'
          clear C7 HOk HErr C7'
          go_wp2_with (first
            | (go_at_call 8; refine (works6_any wh).mono ?_; rintro e wj ⟨rfl, bj⟩)
            | (go_at_call 16; refine (C8.out wh _ _ _ _ lh (HB.out wh Fh.out)).mono ?_; rintro e wi ⟨rfl, rfl⟩)
            | (go_at_call 14; have _ := M2; refine (C10.out wg _ _ lg).mono ?_; rintro e wh ⟨vh, rfl, oh⟩
               obtain ⟨Ah, ch, rfl, _, _, lh, fh⟩ := oh.form HMn.out
               have Fh := Lib.hid (Fg.out.trans fh (fun _ _ e => e))
               clear oh fh)
            | (go_at_call 17; have _ := M1; refine (C6.out wf _ _ HCap.out (HB.out wf Ff.out)).mono ?_; rintro e wg ⟨vg, rfl, og⟩
               obtain ⟨Ag, cg, rfl, lg, fg⟩ := og.form HKn.out
               have Fg := Lib.hid (Ff.out.trans fg (fun _ _ e => e))
               have M2 := True.intro
               clear og fg)
            | (go_at_call 12; refine (C5.out we _ _ _ _ (ld.fr Fe.out.2 (fun _ _ e => e)) le).mono ?_; rintro e wf ⟨rfl, bf⟩
               have Ff := Lib.hid (Fe.out.1.then_below bf)
               have M1 := True.intro
               clear bf)
            | (go_at_call 13; refine (C4.out wd _ _ (HL.out wd Fd.out)).mono ?_; rintro e we ⟨ve, rfl, oe⟩
               obtain ⟨Ae, ce, rfl, le, fe⟩ := oe.form HSn.out
               have Fe := Lib.hid (And.intro (Fd.out.trans fe (fun _ _ e => e)) fe)
               clear oe fe)
            | (go_at_call 17; refine (C9.out wc _ _ pc kc lc).mono ?_; rintro e wd ⟨vd, rfl, od⟩
               obtain ⟨Ad, cd, rfl, ld, fd⟩ := od.form HSn.out
               have Fd := Lib.hid (Fc.out.trans fd (fun _ _ e => e))
               clear od fd)
            | (go_at_call 14; refine (C2.out wb _ _ lb).mono ?_; rintro e wc ⟨vc, rfl, oc⟩
               obtain ⟨Ac, cc, rfl, kc, pc, lc, fc⟩ := oc.form HPn.out
               have Fc := Lib.hid (Fb.out.trans fc (fun _ _ e => e))
               clear oc fc)
            | (go_at_call 9; refine (C1.out w _ _ (HL.out w (Fr.refl _ w))).mono ?_; rintro e wb ⟨vb, rfl, ob⟩
               obtain ⟨Ab, cb', rfl, lb, fb⟩ := ob.form HSn.out
               have Fb := Lib.hid fb
               clear ob fb))
          go_ret
          exact ⟨rfl, (Fh.out.then_below bj).below (fun _ _ e => e)⟩
        · have hK0 := HErr.out hG0
          have HK0 : Hid (K = 0) := Lib.hid (by rw [← HKn.out, hK0]; rfl)
          have hGz : (G2 == 0) = false := by simp [hG0]
          have hGn : (G2 != 0) = true := by simp [hG0]
          have hkz := HK0.out
          subst hkz
          clear HErr HOk C7 hK0 HK0
          go_wp2_with (first
            | (go_at_call 8; refine (works6_any wg).mono ?_; rintro e wj ⟨rfl, bj⟩)
            | (go_at_call 17; have _ := M1; refine (C6.out wf _ _ HCap.out (HB.out wf Ff.out)).mono ?_; rintro e wg ⟨vg, rfl, og⟩
               obtain ⟨Ag, cg, rfl, lg, fg⟩ := og.form HKn.out
               have Fg := Lib.hid (Ff.out.trans fg (fun _ _ e => e))
               clear og fg)
            | (go_at_call 12; refine (C5.out we _ _ _ _ (ld.fr Fe.out.2 (fun _ _ e => e)) le).mono ?_; rintro e wf ⟨rfl, bf⟩
               have Ff := Lib.hid (Fe.out.1.then_below bf)
               have M1 := True.intro
               clear bf)
            | (go_at_call 13; refine (C4.out wd _ _ (HL.out wd Fd.out)).mono ?_; rintro e we ⟨ve, rfl, oe⟩
               obtain ⟨Ae, ce, rfl, le, fe⟩ := oe.form HSn.out
               have Fe := Lib.hid (And.intro (Fd.out.trans fe (fun _ _ e => e)) fe)
               clear oe fe)
            | (go_at_call 17; refine (C9.out wc _ _ pc kc lc).mono ?_; rintro e wd ⟨vd, rfl, od⟩
               obtain ⟨Ad, cd, rfl, ld, fd⟩ := od.form HSn.out
               have Fd := Lib.hid (Fc.out.trans fd (fun _ _ e => e))
               clear od fd)
            | (go_at_call 14; refine (C2.out wb _ _ lb).mono ?_; rintro e wc ⟨vc, rfl, oc⟩
               obtain ⟨Ac, cc, rfl, kc, pc, lc, fc⟩ := oc.form HPn.out
               have Fc := Lib.hid (Fb.out.trans fc (fun _ _ e => e))
               clear oc fc)
            | (go_at_call 9; refine (C1.out w _ _ (HL.out w (Fr.refl _ w))).mono ?_; rintro e wb ⟨vb, rfl, ob⟩
               obtain ⟨Ab, cb', rfl, lb, fb⟩ := ob.form HSn.out
               have Fb := Lib.hid fb
               clear ob fb))
          go_ret
          exact ⟨rfl, (Fg.out.then_below bj).below (fun _ _ e => e)⟩
      · have hrz : (r == 0) = false := by simp [hr0]
        have hrn : (r != 0) = true := by simp [hr0]
        clear C3 HGP
        by_cases hG0 : G2 = 0
        · subst hG0
          have C7' := C7.out
          rw [(HOk.out rfl).1, (HOk.out rfl).2] at C7'
          have C10 := Lib.hid C7'
          clear C7 HOk HErr C7'
          go_wp2_with (first
            | (go_at_call 8; refine (works6_any wh).mono ?_; rintro e wj ⟨rfl, bj⟩)
            | (go_at_call 16; refine (C8.out wh _ _ _ _ lh (HB.out wh Fh.out)).mono ?_; rintro e wi ⟨rfl, rfl⟩)
            | (go_at_call 14; have _ := M2; refine (C10.out wg _ _ lg).mono ?_; rintro e wh ⟨vh, rfl, oh⟩
               obtain ⟨Ah, ch, rfl, _, _, lh, fh⟩ := oh.form HMn.out
               have Fh := Lib.hid (Fg.out.trans fh (fun _ _ e => e))
               clear oh fh)
            | (go_at_call 17; refine (C6.out wc _ _ HCap.out (HB.out wc Fc.out)).mono ?_; rintro e wg ⟨vg, rfl, og⟩
               obtain ⟨Ag, cg, rfl, lg, fg⟩ := og.form HKn.out
               have Fg := Lib.hid (Fc.out.trans fg (fun _ _ e => e))
               have M2 := True.intro
               clear og fg)
            | (go_at_call 14; refine (C2.out wb _ _ lb).mono ?_; rintro e wc ⟨vc, rfl, oc⟩
               obtain ⟨Ac, cc, rfl, kc, pc, lc, fc⟩ := oc.form HPn.out
               have Fc := Lib.hid (Fb.out.trans fc (fun _ _ e => e))
               clear oc fc)
            | (go_at_call 9; refine (C1.out w _ _ (HL.out w (Fr.refl _ w))).mono ?_; rintro e wb ⟨vb, rfl, ob⟩
               obtain ⟨Ab, cb', rfl, lb, fb⟩ := ob.form HSn.out
               have Fb := Lib.hid fb
               clear ob fb))
          go_ret
          exact ⟨rfl, (Fh.out.then_below bj).below (fun _ _ e => e)⟩
        · have hK0 := HErr.out hG0
          have HK0 : Hid (K = 0) := Lib.hid (by rw [← HKn.out, hK0]; rfl)
          have hGz : (G2 == 0) = false := by simp [hG0]
          have hGn : (G2 != 0) = true := by simp [hG0]
          have hkz := HK0.out
          subst hkz
          clear HErr HOk C7 hK0 HK0
          go_wp2_with (first
            | (go_at_call 8; refine (works6_any wg).mono ?_; rintro e wj ⟨rfl, bj⟩)
            | (go_at_call 17; refine (C6.out wc _ _ HCap.out (HB.out wc Fc.out)).mono ?_; rintro e wg ⟨vg, rfl, og⟩
               obtain ⟨Ag, cg, rfl, lg, fg⟩ := og.form HKn.out
               have Fg := Lib.hid (Fc.out.trans fg (fun _ _ e => e))
               clear og fg)
            | (go_at_call 14; refine (C2.out wb _ _ lb).mono ?_; rintro e wc ⟨vc, rfl, oc⟩
               obtain ⟨Ac, cc, rfl, kc, pc, lc, fc⟩ := oc.form HPn.out
               have Fc := Lib.hid (Fb.out.trans fc (fun _ _ e => e))
               clear oc fc)
            | (go_at_call 9; refine (C1.out w _ _ (HL.out w (Fr.refl _ w))).mono ?_; rintro e wb ⟨vb, rfl, ob⟩
               obtain ⟨Ab, cb', rfl, lb, fb⟩ := ob.form HSn.out
               have Fb := Lib.hid fb
               clear ob fb))
          go_ret
          exact ⟨rfl, (Fg.out.then_below bj).below (fun _ _ e => e)⟩
end Go.Proofs.Ytcbgpbcfpeanjaa

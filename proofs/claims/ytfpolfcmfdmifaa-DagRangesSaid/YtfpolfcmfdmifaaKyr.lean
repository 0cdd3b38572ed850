/- What is proved: the law DagRanges is true. Conditions: the cells are there. -/
import Derived.Test.YtfpolfcmfdmifaaKw
namespace Go.Proofs.Ytfpolfcmfdmifaa
open Go.RowKit Go.Shelf
set_option linter.unusedVariables false

theorem own_none1 (w : World) : (w.alloc (.cells #[] 3)).ownsRow w.heap.size 3 1 (.slice (some ⟨w.heap.size, 0, none⟩) 0 0) 0 [] :=
  World.ownsRow_made w #[] 0 (Nat.le_refl _) (Nat.zero_le _) rfl
theorem nodE_left {G : List Nd} {a b : List Int} (h : nodE G (a ++ b) = 0) : nodE G a = 0 := by
  obtain ⟨hok, hall⟩ := nodE_zero h
  unfold nodE
  rw [if_pos hok, if_neg]
  intro e
  rw [List.any_eq_true] at e
  obtain ⟨z, hz, hb⟩ := e
  rw [hall z (List.mem_append_left _ hz)] at hb
  cases hb

set_option maxHeartbeats 3200000 in
set_option maxRecDepth 100000 in
theorem dagRanges_walk (A : Option Addr) (c : Nat) (G : List Nd) (B1 : Option Addr) (c1 : Nat) (l1 : List Int) (B2 : Option Addr) (c2 : Nat) (l2 : List Int) (W : World) (hG : GAt W A G) (h1 : Lies W B1 (zC l1)) (h2 : Lies W B2 (zC l2)) :
    Calls Try.prog 6 #[.slice A G.length c, .slice B1 l1.length c1, .slice B2 l2.length c2] W fun e w' => e = .returned (.bool true) ∧ Below W.heap.size W w' := by
  obtain ⟨i0, hii, hz0, hz1, hz2⟩ := info_parts info_int
  have HBig := Lib.hid (big14_two W B1 B2 l1.length l2.length c1 c2)
  have HFw1 := Lib.hid (show Fr (fun _ => False) W (W.alloc (.cells #[.slice B1 l1.length c1, .slice B2 l2.length c2] 24)) from (Fr.refl _ W).alloc _)
  by_cases hbig : (decide (100 < l1.length) || decide (100 < l2.length)) = true
  · rw [hbig] at HBig
    obtain ⟨n1, hn1⟩ : ∃ n, l1.length = n := ⟨_, rfl⟩
    obtain ⟨n2, hn2⟩ : ∃ n, l2.length = n := ⟨_, rfl⟩
    rw [hn1, hn2] at HBig HFw1 ⊢
    clear hG h1 h2 hbig hn1 hn2
    go_enter Try.func6, Try.ntmps6
    go_wp2_with (first
      | (go_at_call 16; refine HBig.out.mono ?_; rintro e w1 ⟨rfl, rfl⟩)
      | (go_at_call 12; refine (works_fr _).mono ?_; rintro e w7 ⟨rfl, f7⟩; have HF7 := Lib.hid (HFw1.out.trans f7 (fun _ _ e => e)); clear f7))
    go_ret
    exact ⟨rfl, HF7.out.below (fun _ _ e => e)⟩
  have hbig2 : (decide (100 < l1.length) || decide (100 < l2.length)) = false := by simpa using hbig
  have hb1 : ¬ 100 < l1.length := by intro e; rw [decide_eq_true e] at hbig; simp at hbig
  have hb2 : ¬ 100 < l2.length := by intro e; rw [decide_eq_true (p := 100 < l2.length) e] at hbig; simp at hbig
  rw [hbig2] at HBig
  have HRg := Lib.hid (fun w (f : Fr (fun _ => False) W w) => DaRange_any A c G B1 c1 l1 B2 c2 l2 (by omega) (by omega) w (hG.fr f) (h1.fr f (fun _ _ e => e)) (h2.fr f (fun _ _ e => e)))
  have HHd := Lib.hid (fun w (f : Fr (fun _ => False) W w) => DaHeads_any A c G B1 c1 l1 (by omega) w (hG.fr f) (h1.fr f (fun _ _ e => e)))
  have HNe := Lib.hid (fun w (f : Fr (fun _ => False) W w) B cB (h : Lies w B (zC (l1 ++ l2))) => QaNodes_any A c G w (hG.fr f) B cB (l1 ++ l2) (by rw [List.length_append]; omega) h)
  have HNf := Lib.hid (fun w (f : Fr (fun _ => False) W w) => QaNodes_any A c G w (hG.fr f) B1 c1 l1 (by omega) (h1.fr f (fun _ _ e => e)))
  have HS1 := Lib.hid (fun w (f : Fr (fun _ => False) W w) => (h1.fr f (fun _ _ e => e)).srcZ (n := l1.length) rfl c1)
  have HS2 := Lib.hid (fun w (f : Fr (fun _ => False) W w) => (h2.fr f (fun _ _ e => e)).srcZ (n := l2.length) rfl c2)
  have HZa := Lib.hid (zC_append l1 l2)
  have HLa := Lib.hid (show (l1 ++ l2).length = l1.length + l2.length from List.length_append)
  have HFE := Lib.hid (fun h => nodE_left (G := G) (a := l1) (b := l2) h)
  have HQr := Lib.hid (fun (h : nodE G (l1 ++ l2) = 0) w (f : Fr (fun _ => False) W w) => show Calls Try.prog 26 #[.slice A G.length c, .slice B1 l1.length c1, .slice B2 l2.length c2] w (fun e w' => ∃ v, e = .returned v ∧ OwnN w w' v (rngL G (nz l1) (nz l2))) from by
    obtain ⟨hok, hall⟩ := nodE_zero h
    have k1 : ∀ z ∈ l1, badZ G.length z = false := fun z hz => hall z (List.mem_append_left _ hz)
    have k2 : ∀ z ∈ l2, badZ G.length z = false := fun z hz => hall z (List.mem_append_right _ hz)
    have := QaRange_any A c G B1 c1 (nz l1) B2 c2 (nz l2) (right_of hok) (by rw [nz_len]; omega) (nz_lt k1) (by rw [nz_len]; omega) (nz_lt k2) w (hG.fr f) (by rw [← nz_zC (fun z hz => (badZ_no (k1 z hz)).1)]; exact h1.fr f (fun _ _ e => e)) (by rw [← nz_zC (fun z hz => (badZ_no (k2 z hz)).1)]; exact h2.fr f (fun _ _ e => e))
    rwa [nz_len, nz_len] at this)
  have HQh := Lib.hid (fun (h : nodE G l1 = 0) w (f : Fr (fun _ => False) W w) => show Calls Try.prog 27 #[.slice A G.length c, .slice B1 l1.length c1] w (fun e w' => ∃ v, e = .returned v ∧ OwnN w w' v (headL G (nz l1))) from by
    obtain ⟨hok, hall⟩ := nodE_zero h
    have := QaHeads_any A c G B1 c1 (nz l1) (right_of hok) (by rw [nz_len]; omega) (nz_lt hall) w (hG.fr f) (by rw [← nz_zC (fun z hz => (badZ_no (hall z hz)).1)]; exact h1.fr f (fun _ _ e => e))
    rw [nz_len, head_doc (right_of hok) (nz l1) (nz_lt hall)] at this
    exact this)
  have HRl : Hid (nodE G l1 = 0 → (rngL G (nz l1) (nz l2)).length ≤ 100000 ∧ (headL G (nz l1)).length ≤ 100000) := Lib.hid (fun h => by
    have := nodE_len h
    refine ⟨?_, ?_⟩
    · have := selB_len (fun k => upB (prG G) G.length (nz l1) k && !upB (prG G) G.length (nz l2) k) G.length; unfold rngL; omega
    · have := selB_len (topB (prG G) G.length (upB (prG G) G.length (nz l1))) G.length; unfold headL; omega)
  obtain ⟨E, hE⟩ : ∃ E, nodE G (l1 ++ l2) = E := ⟨_, rfl⟩
  obtain ⟨F, hF⟩ : ∃ F, nodE G l1 = F := ⟨_, rfl⟩
  obtain ⟨R, hR⟩ : ∃ R, rngL G (nz l1) (nz l2) = R := ⟨_, rfl⟩
  obtain ⟨H, hH⟩ : ∃ H, headL G (nz l1) = H := ⟨_, rfl⟩
  obtain ⟨N, hN⟩ : ∃ N, G.length = N := ⟨_, rfl⟩
  rw [hE, hR] at HRg HQr
  rw [hE] at HNe HFE
  rw [hF, hH] at HHd HQh
  rw [hF] at HNf HFE
  rw [hF, hR, hH] at HRl
  rw [hN] at HRg HHd HNe HNf HQr HQh ⊢
  obtain ⟨n1, hn1⟩ : ∃ n, l1.length = n := ⟨_, rfl⟩
  obtain ⟨n2, hn2⟩ : ∃ n, l2.length = n := ⟨_, rfl⟩
  rw [hn1] at HBig HFw1 HRg HHd HNf HS1 HLa HQr HQh hb1 ⊢
  rw [hn2] at HBig HFw1 HRg HS2 HLa HQr hb2 ⊢
  obtain ⟨z1, hz1'⟩ : ∃ z, zC l1 = z := ⟨_, rfl⟩
  obtain ⟨z2, hz2'⟩ : ∃ z, zC l2 = z := ⟨_, rfl⟩
  obtain ⟨z3, hz3'⟩ : ∃ z, zC (l1 ++ l2) = z := ⟨_, rfl⟩
  obtain ⟨n3, hn3⟩ : ∃ n, (l1 ++ l2).length = n := ⟨_, rfl⟩
  rw [hz1'] at HS1 HZa
  rw [hz2'] at HS2 HZa
  rw [hz3'] at HNe HZa
  rw [hn3] at HNe HLa
  clear hG h1 h2 hbig hbig2 hE hF hR hH hN hn1 hn2 hz1' hz2' hz3' hn3
  go_enter Try.func6, Try.ntmps6
  by_cases hE : E = 0
  · have hF := HFE.out hE
    subst hE; subst hF
    obtain ⟨hr1, hh1⟩ := HRl.out rfl
    obtain ⟨rn, hrn⟩ : ∃ n, R.length = n := ⟨_, rfl⟩
    obtain ⟨hn, hhn⟩ : ∃ n, H.length = n := ⟨_, rfl⟩
    have HRn := Lib.hid hrn
    have HHn := Lib.hid hhn
    rw [hrn] at hr1
    rw [hhn] at hh1
    have HSr := Lib.hid (fun A ca B cb w h1 h2 => same_ok A ca R B cb rn hrn hr1 w h1 h2)
    have HSh := Lib.hid (fun A ca B cb w h1 h2 => same_ok A ca H B cb hn hhn hh1 w h1 h2)
    have HQr1 := Lib.hid (HQr.out rfl)
    have HQh1 := Lib.hid (HQh.out rfl)
    clear hrn hhn hr1 hh1
    go_upto_region 5 with (first
      | (go_at_call 16; refine HBig.out.mono ?_; rintro e w1 ⟨rfl, rfl⟩)
      | (go_at_call 24; refine (HRg.out _ HFw1.out).mono ?_; rintro e w2 h; obtain ⟨A1, d1, rfl, hl1, f2⟩ := h.ok; rw [HRn.out]; have HL1 := Lib.hid hl1; have HF2 := Lib.hid (HFw1.out.trans f2 (fun _ _ e => e)); clear h hl1 f2)
      | (go_at_call 25; refine (HHd.out _ HF2.out).mono ?_; rintro e w3 h; obtain ⟨A2, d2, rfl, hl2, f3⟩ := h.ok; rw [HHn.out]; have HL2 := Lib.hid hl2; have HF3 := Lib.hid (HF2.out.trans f3 (fun _ _ e => e)); have HL1' := Lib.hid (HL1.out.fr f3 (fun _ _ e => e)); clear h hl2 f3))
    (
      obtain ⟨we, hwe⟩ : ∃ we, w3.alloc (.cells #[] 3) = we := ⟨_, rfl⟩
      have HOe := Lib.hid (show we.ownsRow w3.heap.size 3 1 (.slice (some ⟨w3.heap.size, 0, none⟩) 0 0) 0 [] from by rw [← hwe]; exact own_none1 w3)
      have HFz := Lib.hid (show Fr (fun _ => False) w3 we from by rw [← hwe]; exact (Fr.refl _ w3).alloc _)
      have HFe := Lib.hid (HF3.out.trans HFz.out (fun _ _ e => e))
      have HBe := Lib.hid (show w3.heap.size ≤ we.heap.size from HFz.out.size)
      obtain ⟨ge, hge⟩ : ∃ ge, w3.heap.size = ge := ⟨_, rfl⟩
      have HGe := Lib.hid hge
      rw [hge] at HOe HBe)
    go_upto_region 9 with (
      first
        | (at_builtin; have _ := M5; refine wpList_append_row _ rfl (.tmp 34) (.tmp 35) 24 24 rfl ge 3 i0 (.int .i64 0) 1 8 Try.underlying24 hii hz0 hz1 hz2 rfl v5 (0 + n1) ([] ++ z1) rfl HO5.out (.slice B2 n2 c2) n2 z2 rfl (HS2.out _ HF5.out) (by unfold maxLen; omega) (by omega) (by have := HF5z.out.size; have := HGe.out; omega) ?_
           intro v6 w6 o6 g6 at6
           obtain ⟨A6, d6, hv6, _, _⟩ := own_slice o6
           subst hv6
           have hl6 := Lies.of_own o6
           rw [List.nil_append, ← HZa.out] at hl6
           have HL6 := Lib.hid hl6
           have HF6z := Lib.hid (show Fr (fun _ => False) w3 w6 from HF5z.out.grown g6 (fun k e hk => by have := (World.ownsRow.lt HO5.out k e).1; have := HGe.out; omega))
           have HF6 := Lib.hid (HF3.out.trans HF6z.out (fun _ _ e => e))
           rw [show 0 + n1 + n2 = n3 by rw [HLa.out]; omega]
           clear o6 g6 at6 hl6)
        | (at_builtin; refine wpList_append_row _ rfl (.tmp 32) (.tmp 33) 24 24 rfl ge 3 i0 (.int .i64 0) 1 8 Try.underlying24 hii hz0 hz1 hz2 rfl (.slice (some ⟨ge, 0, none⟩) 0 0) 0 [] rfl HOe.out (.slice B1 n1 c1) n1 z1 rfl (HS1.out _ HFe.out) (by unfold maxLen; omega) (by omega) HBe.out ?_
           intro v5 w5 o5 g5 at5
           have HO5 := Lib.hid o5
           have HF5z := Lib.hid (show Fr (fun _ => False) w3 w5 from HFz.out.grown g5 (fun k e hk => by have := (World.ownsRow.lt HOe.out k e).1; have := HGe.out; omega))
           have HF5 := Lib.hid (HF3.out.trans HF5z.out (fun _ _ e => e))
           have M5 := True.intro
           clear o5 g5 at5)
        | (go_at_call 18; have _ := M7; refine (HNf.out _ HF7.out).mono ?_; rintro e w8 ⟨rfl, b8⟩; have HF8z := Lib.hid (HF7z.out.then_below b8); have HF8 := Lib.hid (HF7.out.then_below b8); clear b8)
        | (go_at_call 18; refine (HNe.out _ HF6.out A6 d6 HL6.out).mono ?_; rintro e w7 ⟨rfl, b7⟩; have HF7z := Lib.hid (HF6z.out.then_below b7); have HF7 := Lib.hid (HF6.out.then_below b7); have M7 := True.intro; clear b7))
    have HLa8 := Lib.hid (HL1'.out.fr HF8z.out (fun _ _ e => e))
    have HLb8 := Lib.hid (HL2.out.fr HF8z.out (fun _ _ e => e))
    clear hwe
    go_wp2_with (first
      | (go_at_call 13; have _ := M9; refine (HSh.out A2 d2 A11 d11 _ HLb10.out HL11.out).mono ?_; rintro e w12 ⟨rfl, f12⟩; have HF12 := Lib.hid (HF11.out.trans f12 (fun _ _ e => e)); clear f12)
      | (go_at_call 26; refine (HQr1.out _ HF8.out).mono ?_; rintro e w9 ⟨v9, rfl, ho⟩; obtain ⟨A9, d9, hv9, _, _, _, hl9⟩ := ho.shape; rw [HRn.out] at hv9; subst hv9; have HL9 := Lib.hid hl9; have HLa9 := Lib.hid (HLa8.out.fr ho.2 (fun _ _ e => e)); have HLb9 := Lib.hid (HLb8.out.fr ho.2 (fun _ _ e => e)); have HF9 := Lib.hid (HF8.out.trans ho.2 (fun _ _ e => e)); clear ho hl9)
      | (go_at_call 13; refine (HSr.out A1 d1 A9 d9 _ HLa9.out HL9.out).mono ?_; rintro e w10 ⟨rfl, f10⟩; have HF10 := Lib.hid (HF9.out.trans f10 (fun _ _ e => e)); have HLb10' := Lib.hid (HLb9.out.fr f10 (fun _ _ e => e)); have M9 := True.intro; clear f10)
      | (go_at_call 27; refine (HQh1.out _ HF10.out).mono ?_; rintro e w11 ⟨v11, rfl, ho⟩; obtain ⟨A11, d11, hv11, _, _, _, hl11⟩ := ho.shape; rw [HHn.out] at hv11; subst hv11; have HL11 := Lib.hid hl11; have HLb10 := Lib.hid (HLb10'.out.fr ho.2 (fun _ _ e => e)); have HF11 := Lib.hid (HF10.out.trans ho.2 (fun _ _ e => e)); clear ho hl11)
      | (go_at_call 12; refine (works_fr _).mono ?_; rintro e w13 ⟨rfl, f13⟩; have HF13 := Lib.hid (HF12.out.trans f13 (fun _ _ e => e)); clear f13))
    go_ret
    exact ⟨rfl, HF13.out.below (fun _ _ e => e)⟩
  · have HE := Lib.hid hE
    have hen : (E == 0) = false := by simpa using hE
    by_cases hF : F = 0
    · subst hF
      obtain ⟨_, hh1⟩ := HRl.out rfl
      obtain ⟨hn, hhn⟩ : ∃ n, H.length = n := ⟨_, rfl⟩
      have HHn := Lib.hid hhn
      rw [hhn] at hh1
      have HSh := Lib.hid (fun A ca B cb w h1 h2 => same_ok A ca H B cb hn hhn hh1 w h1 h2)
      have HQh1 := Lib.hid (HQh.out rfl)
      clear hhn hh1
      go_upto_region 5 with (first
        | (go_at_call 16; refine HBig.out.mono ?_; rintro e w1 ⟨rfl, rfl⟩)
        | (go_at_call 24; refine (HRg.out _ HFw1.out).mono ?_; rintro e w2 h; obtain ⟨A1, d1, rfl, hl1, f2⟩ := h.bad HE.out; have HF2 := Lib.hid (HFw1.out.trans f2 (fun _ _ e => e)); clear h hl1 f2)
        | (go_at_call 25; refine (HHd.out _ HF2.out).mono ?_; rintro e w3 h; obtain ⟨A2, d2, rfl, hl2, f3⟩ := h.ok; rw [HHn.out]; have HL2 := Lib.hid hl2; have HF3 := Lib.hid (HF2.out.trans f3 (fun _ _ e => e)); clear h hl2 f3))
      (
        obtain ⟨we, hwe⟩ : ∃ we, w3.alloc (.cells #[] 3) = we := ⟨_, rfl⟩
        have HOe := Lib.hid (show we.ownsRow w3.heap.size 3 1 (.slice (some ⟨w3.heap.size, 0, none⟩) 0 0) 0 [] from by rw [← hwe]; exact own_none1 w3)
        have HFz := Lib.hid (show Fr (fun _ => False) w3 we from by rw [← hwe]; exact (Fr.refl _ w3).alloc _)
        have HFe := Lib.hid (HF3.out.trans HFz.out (fun _ _ e => e))
        have HBe := Lib.hid (show w3.heap.size ≤ we.heap.size from HFz.out.size)
        obtain ⟨ge, hge⟩ : ∃ ge, w3.heap.size = ge := ⟨_, rfl⟩
        have HGe := Lib.hid hge
        rw [hge] at HOe HBe)
      go_upto_region 9 with (
        first
          | (at_builtin; have _ := M5; refine wpList_append_row _ rfl (.tmp 34) (.tmp 35) 24 24 rfl ge 3 i0 (.int .i64 0) 1 8 Try.underlying24 hii hz0 hz1 hz2 rfl v5 (0 + n1) ([] ++ z1) rfl HO5.out (.slice B2 n2 c2) n2 z2 rfl (HS2.out _ HF5.out) (by unfold maxLen; omega) (by omega) (by have := HF5z.out.size; have := HGe.out; omega) ?_
             intro v6 w6 o6 g6 at6
             obtain ⟨A6, d6, hv6, _, _⟩ := own_slice o6
             subst hv6
             have hl6 := Lies.of_own o6
             rw [List.nil_append, ← HZa.out] at hl6
             have HL6 := Lib.hid hl6
             have HF6z := Lib.hid (show Fr (fun _ => False) w3 w6 from HF5z.out.grown g6 (fun k e hk => by have := (World.ownsRow.lt HO5.out k e).1; have := HGe.out; omega))
             have HF6 := Lib.hid (HF3.out.trans HF6z.out (fun _ _ e => e))
             rw [show 0 + n1 + n2 = n3 by rw [HLa.out]; omega]
             clear o6 g6 at6 hl6)
          | (at_builtin; refine wpList_append_row _ rfl (.tmp 32) (.tmp 33) 24 24 rfl ge 3 i0 (.int .i64 0) 1 8 Try.underlying24 hii hz0 hz1 hz2 rfl (.slice (some ⟨ge, 0, none⟩) 0 0) 0 [] rfl HOe.out (.slice B1 n1 c1) n1 z1 rfl (HS1.out _ HFe.out) (by unfold maxLen; omega) (by omega) HBe.out ?_
             intro v5 w5 o5 g5 at5
             have HO5 := Lib.hid o5
             have HF5z := Lib.hid (show Fr (fun _ => False) w3 w5 from HFz.out.grown g5 (fun k e hk => by have := (World.ownsRow.lt HOe.out k e).1; have := HGe.out; omega))
             have HF5 := Lib.hid (HF3.out.trans HF5z.out (fun _ _ e => e))
             have M5 := True.intro
             clear o5 g5 at5)
          | (go_at_call 18; have _ := M7; refine (HNf.out _ HF7.out).mono ?_; rintro e w8 ⟨rfl, b8⟩; have HF8z := Lib.hid (HF7z.out.then_below b8); have HF8 := Lib.hid (HF7.out.then_below b8); clear b8)
          | (go_at_call 18; refine (HNe.out _ HF6.out A6 d6 HL6.out).mono ?_; rintro e w7 ⟨rfl, b7⟩; have HF7z := Lib.hid (HF6z.out.then_below b7); have HF7 := Lib.hid (HF6.out.then_below b7); have M7 := True.intro; clear b7))
      have HLb8 := Lib.hid (HL2.out.fr HF8z.out (fun _ _ e => e))
      clear hwe
      go_wp2_with (first
        | (go_at_call 13; refine (HSh.out A2 d2 A11 d11 _ HLb10.out HL11.out).mono ?_; rintro e w12 ⟨rfl, f12⟩; have HF12 := Lib.hid (HF11.out.trans f12 (fun _ _ e => e)); clear f12)
        | (go_at_call 27; refine (HQh1.out _ HF8.out).mono ?_; rintro e w11 ⟨v11, rfl, ho⟩; obtain ⟨A11, d11, hv11, _, _, _, hl11⟩ := ho.shape; rw [HHn.out] at hv11; subst hv11; have HL11 := Lib.hid hl11; have HLb10 := Lib.hid (HLb8.out.fr ho.2 (fun _ _ e => e)); have HF11 := Lib.hid (HF8.out.trans ho.2 (fun _ _ e => e)); clear ho hl11)
        | (go_at_call 12; refine (works_fr _).mono ?_; rintro e w13 ⟨rfl, f13⟩; have HF13 := Lib.hid (HF12.out.trans f13 (fun _ _ e => e)); clear f13))
      go_ret
      exact ⟨rfl, HF13.out.below (fun _ _ e => e)⟩
    · have HFn := Lib.hid hF
      have hfn : (F == 0) = false := by simpa using hF
      go_upto_region 5 with (first
        | (go_at_call 16; refine HBig.out.mono ?_; rintro e w1 ⟨rfl, rfl⟩)
        | (go_at_call 24; refine (HRg.out _ HFw1.out).mono ?_; rintro e w2 h; obtain ⟨A1, d1, rfl, hl1, f2⟩ := h.bad HE.out; have HF2 := Lib.hid (HFw1.out.trans f2 (fun _ _ e => e)); clear h hl1 f2)
        | (go_at_call 25; refine (HHd.out _ HF2.out).mono ?_; rintro e w3 h; obtain ⟨A2, d2, rfl, hl2, f3⟩ := h.bad HFn.out; have HF3 := Lib.hid (HF2.out.trans f3 (fun _ _ e => e)); clear h hl2 f3))
      (
        obtain ⟨we, hwe⟩ : ∃ we, w3.alloc (.cells #[] 3) = we := ⟨_, rfl⟩
        have HOe := Lib.hid (show we.ownsRow w3.heap.size 3 1 (.slice (some ⟨w3.heap.size, 0, none⟩) 0 0) 0 [] from by rw [← hwe]; exact own_none1 w3)
        have HFz := Lib.hid (show Fr (fun _ => False) w3 we from by rw [← hwe]; exact (Fr.refl _ w3).alloc _)
        have HFe := Lib.hid (HF3.out.trans HFz.out (fun _ _ e => e))
        have HBe := Lib.hid (show w3.heap.size ≤ we.heap.size from HFz.out.size)
        obtain ⟨ge, hge⟩ : ∃ ge, w3.heap.size = ge := ⟨_, rfl⟩
        have HGe := Lib.hid hge
        rw [hge] at HOe HBe)
      go_upto_region 9 with (
        first
          | (at_builtin; have _ := M5; refine wpList_append_row _ rfl (.tmp 34) (.tmp 35) 24 24 rfl ge 3 i0 (.int .i64 0) 1 8 Try.underlying24 hii hz0 hz1 hz2 rfl v5 (0 + n1) ([] ++ z1) rfl HO5.out (.slice B2 n2 c2) n2 z2 rfl (HS2.out _ HF5.out) (by unfold maxLen; omega) (by omega) (by have := HF5z.out.size; have := HGe.out; omega) ?_
             intro v6 w6 o6 g6 at6
             obtain ⟨A6, d6, hv6, _, _⟩ := own_slice o6
             subst hv6
             have hl6 := Lies.of_own o6
             rw [List.nil_append, ← HZa.out] at hl6
             have HL6 := Lib.hid hl6
             have HF6z := Lib.hid (show Fr (fun _ => False) w3 w6 from HF5z.out.grown g6 (fun k e hk => by have := (World.ownsRow.lt HO5.out k e).1; have := HGe.out; omega))
             have HF6 := Lib.hid (HF3.out.trans HF6z.out (fun _ _ e => e))
             rw [show 0 + n1 + n2 = n3 by rw [HLa.out]; omega]
             clear o6 g6 at6 hl6)
          | (at_builtin; refine wpList_append_row _ rfl (.tmp 32) (.tmp 33) 24 24 rfl ge 3 i0 (.int .i64 0) 1 8 Try.underlying24 hii hz0 hz1 hz2 rfl (.slice (some ⟨ge, 0, none⟩) 0 0) 0 [] rfl HOe.out (.slice B1 n1 c1) n1 z1 rfl (HS1.out _ HFe.out) (by unfold maxLen; omega) (by omega) HBe.out ?_
             intro v5 w5 o5 g5 at5
             have HO5 := Lib.hid o5
             have HF5z := Lib.hid (show Fr (fun _ => False) w3 w5 from HFz.out.grown g5 (fun k e hk => by have := (World.ownsRow.lt HOe.out k e).1; have := HGe.out; omega))
             have HF5 := Lib.hid (HF3.out.trans HF5z.out (fun _ _ e => e))
             have M5 := True.intro
             clear o5 g5 at5)
          | (go_at_call 18; have _ := M7; refine (HNf.out _ HF7.out).mono ?_; rintro e w8 ⟨rfl, b8⟩; have HF8z := Lib.hid (HF7z.out.then_below b8); have HF8 := Lib.hid (HF7.out.then_below b8); clear b8)
          | (go_at_call 18; refine (HNe.out _ HF6.out A6 d6 HL6.out).mono ?_; rintro e w7 ⟨rfl, b7⟩; have HF7z := Lib.hid (HF6z.out.then_below b7); have HF7 := Lib.hid (HF6.out.then_below b7); have M7 := True.intro; clear b7))
      clear hwe
      go_wp2_with (go_at_call 12; refine (works_fr _).mono ?_; rintro e w13 ⟨rfl, f13⟩; have HF13 := Lib.hid (HF8.out.trans f13 (fun _ _ e => e)); clear f13)
      go_ret
      exact ⟨rfl, HF13.out.below (fun _ _ e => e)⟩
end Go.Proofs.Ytfpolfcmfdmifaa

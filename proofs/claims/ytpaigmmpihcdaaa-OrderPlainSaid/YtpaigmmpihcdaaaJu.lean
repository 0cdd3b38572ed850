/- What is proved: the laws OrderPlain are true. Conditions: the cells are there. -/
import Derived.Test.YtpaigmmpihcdaaaJr
namespace Go.Proofs.Ytpaigmmpihcdaaa
open Go.RowKit Go.Shelf
set_option linter.unusedVariables false

theorem own_none15 (w : World) : (w.alloc (.cells #[] 3)).ownsRow w.heap.size 3 1 (.slice (some ⟨w.heap.size, 0, none⟩) 0 0) 0 [] :=
  World.ownsRow_made w #[] 0 (Nat.le_refl _) (Nat.zero_le _) rfl
set_option maxHeartbeats 1600000 in
set_option maxRecDepth 100000 in
theorem QaSameZ_eq (A : Option Addr) (ca : Nat) (B : Option Addr) (cb : Nat) (a : List Int) (ha : a.length ≤ 100000) (w : World) (h1 : Lies w A (zC a)) (h2 : Lies w B (zC a)) :
    Calls Try.prog 10 #[.slice A a.length ca, .slice B a.length cb] w fun e w' => e = .returned (.bool true) ∧ Fr (fun _ => False) w w' := by
  have HA := Lib.hid (fun w' (f : Fr (fun _ => False) w w') k hk => lies_int h1 f k hk)
  have HB := Lib.hid (fun w' (f : Fr (fun _ => False) w w') k hk => lies_int h2 f k hk)
  obtain ⟨n, hn⟩ : ∃ n, a.length = n := ⟨_, rfl⟩
  rw [hn] at ha HA HB ⊢
  clear h1 h2 hn
  go_enter Try.func10, Try.ntmps10
  go_wp2
  go_loopg [5] n (fun kx s5 wr => ∃ k : Nat, s5 = .int .i64 k ∧ k ≤ n ∧ n - k ≤ kx ∧ Hid (Fr (fun _ => False) w wr))
  case atStart => exact ⟨0, rfl, by omega, by omega, Lib.hid (Fr.refl _ _)⟩
  case round =>
    obtain ⟨k, rfl, hk, hkx, HFr⟩ := hrel
    obtain ⟨wo, rfl⟩ : ∃ wo, wo = wr := ⟨wr, rfl⟩
    by_cases hlt : k < n
    · have hltz : (k : Int) < n := by omega
      obtain ⟨b1, o1, hB1, c1⟩ := HA.out wo HFr.out k hlt
      subst hB1
      obtain ⟨b2, o2, hB2, c2⟩ := HB.out wo HFr.out k hlt
      subst hB2
      have wk := wrap_nat1 k (by omega)
      obtain ⟨x, hx⟩ : ∃ x, a.getD k 0 = x := ⟨_, rfl⟩
      rw [hx] at c1 c2
      clear hx
      go_upto_region 6 with fail
      go_quiet (fail)
      go_wp2
      go_roundg (n - (k + 1))
      case measure => omega
      case rel => exact ⟨k + 1, by go_num, by omega, Nat.le_refl _, Lib.hid (HFr.out.drewN _)⟩
    · obtain rfl : k = n := by omega
      go_wp2
      go_ret
      exact ⟨rfl, HFr.out⟩

set_option maxHeartbeats 3200000 in
set_option maxRecDepth 100000 in
theorem orderPlain_walk (A : Option Addr) (c : Nat) (G : List Nd) (B : Option Addr) (cB : Nat) (l : List Int) (W : World) (hG : GAt W A G) (hl : Lies W B (zC l)) :
    Calls Try.prog 3 #[.slice A G.length c, .slice B l.length cB] W fun e w' => e = .returned (.bool true) ∧ Below W.heap.size W w' := by
  by_cases hbig : 200 < l.length
  · obtain ⟨N, hN⟩ : ∃ N, G.length = N := ⟨_, rfl⟩
    obtain ⟨L, hL⟩ : ∃ L, l.length = L := ⟨_, rfl⟩
    rw [hL] at hbig
    rw [hN, hL]
    have hz : (200 : Int) < (L : Int) := by omega
    clear hG hl hN hL hbig
    go_enter Try.func3, Try.ntmps3
    go_wp2_with (go_at_call 7; refine (works15_any _).mono ?_; rintro e w7 ⟨rfl, f7⟩; have HF7 := Lib.hid f7; clear f7)
    go_ret
    exact ⟨rfl, HF7.out.below (fun _ _ e => e)⟩
  have HAs := Lib.hid (fun w (f : Fr (fun _ => False) W w) => QoAsked_any A c G B cB l (by omega) w (hG.fr f) (hl.fr f (fun _ _ e => e)))
  have hbz : ¬ (200 : Int) < (l.length : Int) := by omega
  obtain ⟨i0, hii, hz0, hz1, hz2⟩ := info_parts info_int
  obtain ⟨we, hwe⟩ : ∃ we, W.alloc (.cells #[] 3) = we := ⟨_, rfl⟩
  have HOe := Lib.hid (show we.ownsRow W.heap.size 3 1 (.slice (some ⟨W.heap.size, 0, none⟩) 0 0) 0 [] from by rw [← hwe]; exact own_none15 W)
  have HFe := Lib.hid (show Fr (fun _ => False) W we from by rw [← hwe]; exact (Fr.refl _ W).alloc _)
  have HWe := Lib.hid hwe
  obtain ⟨ge, hge⟩ : ∃ ge, W.heap.size = ge := ⟨_, rfl⟩
  have HGe := Lib.hid hge
  rw [hge] at HOe
  have HBe := Lib.hid (show ge ≤ we.heap.size from by have := HFe.out.size; omega)
  have HS1 := Lib.hid (fun w (f : Fr (fun _ => False) W w) => (hl.fr f (fun _ _ e => e)).srcZ (n := l.length) rfl cB)
  have HLb := Lib.hid (fun w (f : Fr (fun _ => False) W w) => hl.fr f (fun _ _ e => e))
  have HSz := Lib.hid (fun A1 c1 w (h1 : Lies w A1 (zC l)) (h2 : Lies w B (zC l)) => QaSameZ_eq A1 c1 B cB l (by omega) w h1 h2)
  by_cases h0 : nodE G l = 0
  · obtain ⟨hok, hall⟩ := nodE_zero h0
    have hlen := (right_of hok).len
    have HPg := Lib.hid (fun A5 d5 w (f : Fr (fun _ => False) W w) (h5 : Lies w A5 (zC l)) => OrPlain_ok A c G A5 d5 l (by omega) w (hG.fr f) h5 h0)
    have HZ := Lib.hid (nz_zC (fun z hz => (badZ_no (hall z hz)).1))
    have HQd := Lib.hid (fun w (f : Fr (fun _ => False) W w) => show Calls Try.prog 11 #[.slice A G.length c, .slice B l.length cB] w (fun e w' => ∃ v, e = .returned v ∧ OwnN w w' v (plainL (fun n => (timeL G).getD n 0) G.length (nz l))) from by
      have := QoPlain_any A c G B cB (nz l) (right_of hok) (by rw [nz_len]; omega) (nz_lt hall) w (hG.fr f) (by rw [← HZ.out]; exact hl.fr f (fun _ _ e => e))
      rwa [nz_len] at this)
    have hTl : (plainL (fun n => (timeL G).getD n 0) G.length (nz l)).length ≤ 100000 := by have := take_mem (pickP (fun n => (timeL G).getD n 0) G.length) G.length (fun left n h => pickP_mem h) (cnt (fun k => decide (k ∈ nz l)) G.length) (fun k => decide (k ∈ nz l)); have h9 := cnt_le (fun k => decide (k ∈ nz l)) G.length; unfold plainL; omega
    rw [h0] at HAs
    obtain ⟨T, hT⟩ : ∃ T, plainL (fun n => (timeL G).getD n 0) G.length (nz l) = T := ⟨_, rfl⟩
    rw [hT] at HPg HQd hTl
    obtain ⟨n, hn⟩ : ∃ n, T.length = n := ⟨_, rfl⟩
    have HTn := Lib.hid hn
    rw [hn] at hTl
    have HSm := Lib.hid (fun A ca B cb w h1 h2 => same_ok A ca T B cb n hn hTl w h1 h2)
    obtain ⟨N, hN⟩ : ∃ N, G.length = N := ⟨_, rfl⟩
    obtain ⟨L, hL⟩ : ∃ L, l.length = L := ⟨_, rfl⟩
    rw [hN] at HAs HPg HQd 
    rw [hL] at HAs HPg HQd hbz HS1 HSz
    rw [hN, hL]
    have hL1 : L ≤ 200 := by omega
    obtain ⟨z1, hz1'⟩ : ∃ z, zC l = z := ⟨_, rfl⟩
    rw [hz1'] at HS1 HSz HPg HLb
    clear hG hl hz1' hN hL h0 hok hall hlen hT hn hTl HZ hbig 
    go_enter Try.func3, Try.ntmps3
    go_upto_region 3 with fail
    go_wp2_with (first
      | (at_builtin; refine wpList_append_row _ rfl (.tmp 13) (.tmp 14) 23 23 rfl ge 3 i0 (.int .i64 0) 1 8 Try.underlying23 hii hz0 hz1 hz2 rfl (.slice (some ⟨ge, 0, none⟩) 0 0) 0 [] rfl HOe.out (.slice B L cB) L z1 rfl (HS1.out _ HFe.out) (by unfold maxLen; omega) (by omega) HBe.out ?_
         intro v5 w5 o5 g5 at5
         obtain ⟨A5, d5, hv5, _, _⟩ := own_slice o5
         subst hv5
         have hl5 := Lies.of_own o5
         rw [List.nil_append] at hl5
         have HL5 := Lib.hid hl5
         have HF5w := Lib.hid (show Fr (fun _ => False) W w5 from HFe.out.grown g5 (fun k e hk => by have := (World.ownsRow.lt HOe.out k e).1; have := HGe.out; omega))
         rw [Nat.zero_add]
         clear o5 g5 at5 hl5)
      | (go_at_call 8; refine (HPg.out A5 d5 w5 HF5w.out HL5.out).mono ?_; rintro e w1 ⟨v1, rfl, ho⟩; obtain ⟨A1, d1, hv1, _, _, _, hl1⟩ := ho.shape; rw [HTn.out] at hv1; subst hv1; have HL1 := Lib.hid hl1; have HF15 := Lib.hid ho.2; have HF1 := Lib.hid (HF5w.out.trans ho.2 (fun _ _ e => e)); clear ho hl1)
      | (go_at_call 9; refine (HAs.out _ HF1.out).mono ?_; rintro e w2 ⟨rfl, f2⟩; have HF2 := Lib.hid (HF1.out.trans f2 (fun _ _ e => e)); have HL2 := Lib.hid (HL1.out.fr f2 (fun _ _ e => e)); have HF25 := Lib.hid (HF15.out.trans f2 (fun _ _ e => e)); have M0 := True.intro; clear f2)
      | (go_at_call 10; have _ := M0; refine (HSz.out A5 d5 _ (HL5.out.fr HF25.out (fun _ _ e => e)) (HLb.out _ HF2.out)).mono ?_; rintro e w4 ⟨rfl, f4⟩; have HFs := Lib.hid (HF2.out.trans f4 (fun _ _ e => e)); have HFs2 := Lib.hid f4; clear f4 M0)
      
      | (go_at_call 11; refine (HQd.out _ HFs.out).mono ?_; rintro e w3 ⟨v3, rfl, ho⟩; obtain ⟨A3, d3, hv3, _, _, _, hl3⟩ := ho.shape; rw [HTn.out] at hv3; subst hv3; have HD3 := Lib.hid hl3; have HL3 := Lib.hid (HL2.out.fr (HFs2.out.trans ho.2 (fun _ _ e => e)) (fun _ _ e => e)); have HF3 := Lib.hid (HFs.out.trans ho.2 (fun _ _ e => e)); clear ho hl3)
      | (go_at_call 10; refine (HSm.out A1 d1 A3 d3 _ HL3.out HD3.out).mono ?_; rintro e w4 ⟨rfl, f4⟩; have HF4 := Lib.hid (HF3.out.trans f4 (fun _ _ e => e)); clear f4)
      | (go_at_call 7; refine (works15_any _).mono ?_; rintro e w5 ⟨rfl, f5⟩; have HF5 := Lib.hid (HF4.out.trans f5 (fun _ _ e => e)); clear f5))
    go_ret
    exact ⟨rfl, by first | exact HF5.out.below (fun _ _ e => e) | (rw [← HGe.out]; exact HF5.out.below (fun _ _ e => e))⟩
  · have HPg := Lib.hid (fun A5 d5 w (f : Fr (fun _ => False) W w) (h5 : Lies w A5 (zC l)) => OrPlain_no A c G A5 d5 l (by omega) w (hG.fr f) h5 h0)
    obtain ⟨r, hr⟩ : ∃ r, nodE G l = r := ⟨_, rfl⟩
    rw [hr] at HAs HPg h0
    have hrz : (r == 0) = false := by simpa using h0
    obtain ⟨N, hN⟩ : ∃ N, G.length = N := ⟨_, rfl⟩
    obtain ⟨L, hL⟩ : ∃ L, l.length = L := ⟨_, rfl⟩
    rw [hN] at HAs HPg
    rw [hL] at HAs HPg hbz HS1 HSz
    rw [hN, hL]
    have hL1 : L ≤ 200 := by omega
    obtain ⟨z1, hz1'⟩ : ∃ z, zC l = z := ⟨_, rfl⟩
    rw [hz1'] at HS1 HSz HPg HLb
    clear hG hl hz1' hN hL hr hbig
    go_enter Try.func3, Try.ntmps3
    go_upto_region 3 with fail
    go_wp2_with (first
      | (at_builtin; refine wpList_append_row _ rfl (.tmp 13) (.tmp 14) 23 23 rfl ge 3 i0 (.int .i64 0) 1 8 Try.underlying23 hii hz0 hz1 hz2 rfl (.slice (some ⟨ge, 0, none⟩) 0 0) 0 [] rfl HOe.out (.slice B L cB) L z1 rfl (HS1.out _ HFe.out) (by unfold maxLen; omega) (by omega) HBe.out ?_
         intro v5 w5 o5 g5 at5
         obtain ⟨A5, d5, hv5, _, _⟩ := own_slice o5
         subst hv5
         have hl5 := Lies.of_own o5
         rw [List.nil_append] at hl5
         have HL5 := Lib.hid hl5
         have HF5w := Lib.hid (show Fr (fun _ => False) W w5 from HFe.out.grown g5 (fun k e hk => by have := (World.ownsRow.lt HOe.out k e).1; have := HGe.out; omega))
         rw [Nat.zero_add]
         clear o5 g5 at5 hl5)
      | (go_at_call 8; refine (HPg.out A5 d5 w5 HF5w.out HL5.out).mono ?_; rintro e w1 ⟨rfl, f1⟩; have HF15 := Lib.hid f1; have HF1 := Lib.hid (HF5w.out.trans f1 (fun _ _ e => e)); clear f1)
      | (go_at_call 9; refine (HAs.out _ HF1.out).mono ?_; rintro e w2 ⟨rfl, f2⟩; have HF2 := Lib.hid (HF1.out.trans f2 (fun _ _ e => e)); have HF25 := Lib.hid (HF15.out.trans f2 (fun _ _ e => e)); have M0 := True.intro; clear f2)
      | (go_at_call 10; have _ := M0; refine (HSz.out A5 d5 _ (HL5.out.fr HF25.out (fun _ _ e => e)) (HLb.out _ HF2.out)).mono ?_; rintro e w4 ⟨rfl, f4⟩; have HFs := Lib.hid (HF2.out.trans f4 (fun _ _ e => e)); have HFs2 := Lib.hid f4; clear f4 M0)
      | (go_at_call 7; refine (works15_any _).mono ?_; rintro e w5 ⟨rfl, f5⟩; have HF5 := Lib.hid (HFs.out.trans f5 (fun _ _ e => e)); clear f5))
    go_ret
    exact ⟨rfl, by first | exact HF5.out.below (fun _ _ e => e) | (rw [← HGe.out]; exact HF5.out.below (fun _ _ e => e))⟩
end Go.Proofs.Ytpaigmmpihcdaaa

/- What is proved: the laws OrderDates are true. Conditions: the cells are there. -/
import Derived.Test.YtpaigmmpihcdaaaJr
namespace Go.Proofs.Ytpaigmmpihcdaaa
open Go.RowKit Go.Shelf
set_option linter.unusedVariables false

set_option maxHeartbeats 3200000 in
set_option maxRecDepth 100000 in
theorem orderDates_walk (A : Option Addr) (c : Nat) (G : List Nd) (B : Option Addr) (cB : Nat) (l : List Int) (W : World) (hg : G.length ≤ 2000000) (hG : GAt W A G) (hl : Lies W B (zC l)) :
    Calls Try.prog 4 #[.slice A G.length c, .slice B l.length cB] W fun e w' => e = .returned (.bool true) ∧ Below W.heap.size W w' := by
  by_cases hbig : 200 < l.length
  · obtain ⟨N, hN⟩ : ∃ N, G.length = N := ⟨_, rfl⟩
    obtain ⟨L, hL⟩ : ∃ L, l.length = L := ⟨_, rfl⟩
    rw [hL] at hbig
    rw [hN, hL]
    have hz : (200 : Int) < (L : Int) := by omega
    clear hG hl hg hN hL hbig
    go_enter Try.func4, Try.ntmps4
    go_wp2_with (go_at_call 7; refine (works15_any _).mono ?_; rintro e w7 ⟨rfl, f7⟩; have HF7 := Lib.hid f7; clear f7)
    go_ret
    exact ⟨rfl, HF7.out.below (fun _ _ e => e)⟩
  have HAs := Lib.hid (fun w (f : Fr (fun _ => False) W w) => QoAsked_any A c G B cB l (by omega) w (hG.fr f) (hl.fr f (fun _ _ e => e)))
  have hbz : ¬ (200 : Int) < (l.length : Int) := by omega
  by_cases h0 : nodE G l = 0
  · obtain ⟨hok, hall⟩ := nodE_zero h0
    have hlen := (right_of hok).len
    have HPg := Lib.hid (OrDate_ok A c G B cB l (by omega) W hG hl h0)
    have HZ := Lib.hid (nz_zC (fun z hz => (badZ_no (hall z hz)).1))
    have HQt := Lib.hid (fun w (f : Fr (fun _ => False) W w) => QoTimes_any A c G (by omega) w (hG.fr f))
    have HTt := Lib.hid (time_len G)
    have HQd := Lib.hid (fun w (f : Fr (fun _ => False) W w) A2 c2 (h2 : Lies w A2 (zC (timeL G))) => show Calls Try.prog 13 #[.slice A G.length c, .slice B l.length cB, .slice A2 G.length c2] w (fun e w' => ∃ v, e = .returned v ∧ OwnN w w' v (dateL (prG G) (fun n => (timeL G).getD n 0) G.length (nz l))) from by
      have := QoDate_any A c G B cB (nz l) A2 c2 G.length (timeL G) (right_of hok) (by rw [nz_len]; omega) (nz_lt hall) (time_len G) (Nat.le_refl _) w (hG.fr f) (by rw [← HZ.out]; exact hl.fr f (fun _ _ e => e)) h2
      rwa [nz_len] at this)
    have hTl : (dateL (prG G) (fun n => (timeL G).getD n 0) G.length (nz l)).length ≤ 100000 := by have := take_mem (pickD (prG G) (fun n => (timeL G).getD n 0) G.length) G.length (fun left n h => pickD_mem h) (cnt (fun k => decide (k ∈ nz l)) G.length) (fun k => decide (k ∈ nz l)); have h9 := cnt_le (fun k => decide (k ∈ nz l)) G.length; unfold dateL; omega
    rw [h0] at HAs
    obtain ⟨T, hT⟩ : ∃ T, dateL (prG G) (fun n => (timeL G).getD n 0) G.length (nz l) = T := ⟨_, rfl⟩
    rw [hT] at HPg HQd hTl
    obtain ⟨n, hn⟩ : ∃ n, T.length = n := ⟨_, rfl⟩
    have HTn := Lib.hid hn
    rw [hn] at hTl
    have HSm := Lib.hid (fun A ca B cb w h1 h2 => same_ok A ca T B cb n hn hTl w h1 h2)
    obtain ⟨N, hN⟩ : ∃ N, G.length = N := ⟨_, rfl⟩
    obtain ⟨L, hL⟩ : ∃ L, l.length = L := ⟨_, rfl⟩
    rw [hN] at HAs HPg HQd HQt HTt
    rw [hL] at HAs HPg HQd hbz
    rw [hN, hL]
    clear hG hl hg hN hL h0 hok hall hlen hT hn hTl HZ hbig 
    go_enter Try.func4, Try.ntmps4
    go_wp2_with (first
      | (go_at_call 12; refine HPg.out.mono ?_; rintro e w1 ⟨v1, rfl, ho⟩; obtain ⟨A1, d1, hv1, _, _, _, hl1⟩ := ho.shape; rw [HTn.out] at hv1; subst hv1; have HL1 := Lib.hid hl1; have HF1 := Lib.hid ho.2; clear ho hl1)
      | (go_at_call 9; refine (HAs.out _ HF1.out).mono ?_; rintro e w2 ⟨rfl, f2⟩; have HF2 := Lib.hid (HF1.out.trans f2 (fun _ _ e => e)); have HL2 := Lib.hid (HL1.out.fr f2 (fun _ _ e => e)); clear f2)
      | (go_at_call 14; refine (HQt.out _ HF2.out).mono ?_; rintro e wt ⟨vt, rfl, ho⟩; obtain ⟨At, dt, hvt, hlt, _⟩ := ho.shape; rw [HTt.out] at hvt; subst hvt; have HLt := Lib.hid hlt; have HFt := Lib.hid (HF2.out.trans ho.2 (fun _ _ e => e)); have HL2t := Lib.hid (HL2.out.fr ho.2 (fun _ _ e => e)); clear ho hlt)
      | (go_at_call 13; refine (HQd.out _ HFt.out At dt HLt.out).mono ?_; rintro e w3 ⟨v3, rfl, ho⟩; obtain ⟨A3, d3, hv3, _, _, _, hl3⟩ := ho.shape; rw [HTn.out] at hv3; subst hv3; have HD3 := Lib.hid hl3; have HL3 := Lib.hid (HL2t.out.fr ho.2 (fun _ _ e => e)); have HF3 := Lib.hid (HFt.out.trans ho.2 (fun _ _ e => e)); clear ho hl3)
      | (go_at_call 10; refine (HSm.out A1 d1 A3 d3 _ HL3.out HD3.out).mono ?_; rintro e w4 ⟨rfl, f4⟩; have HF4 := Lib.hid (HF3.out.trans f4 (fun _ _ e => e)); clear f4)
      | (go_at_call 7; refine (works15_any _).mono ?_; rintro e w5 ⟨rfl, f5⟩; have HF5 := Lib.hid (HF4.out.trans f5 (fun _ _ e => e)); clear f5))
    go_ret
    exact ⟨rfl, HF5.out.below (fun _ _ e => e)⟩
  · have HPg := Lib.hid (OrDate_no A c G B cB l (by omega) hg W hG hl h0)
    obtain ⟨r, hr⟩ : ∃ r, nodE G l = r := ⟨_, rfl⟩
    rw [hr] at HAs HPg h0
    have hrz : (r == 0) = false := by simpa using h0
    obtain ⟨N, hN⟩ : ∃ N, G.length = N := ⟨_, rfl⟩
    obtain ⟨L, hL⟩ : ∃ L, l.length = L := ⟨_, rfl⟩
    rw [hN] at HAs HPg
    rw [hL] at HAs HPg hbz
    rw [hN, hL]
    clear hG hl hg hN hL hr hbig
    go_enter Try.func4, Try.ntmps4
    go_wp2_with (first
      | (go_at_call 12; refine HPg.out.mono ?_; rintro e w1 ⟨rfl, f1⟩; have HF1 := Lib.hid f1; clear f1)
      | (go_at_call 9; refine (HAs.out _ HF1.out).mono ?_; rintro e w2 ⟨rfl, f2⟩; have HF2 := Lib.hid (HF1.out.trans f2 (fun _ _ e => e)); clear f2)
      | (go_at_call 7; refine (works15_any _).mono ?_; rintro e w5 ⟨rfl, f5⟩; have HF5 := Lib.hid (HF2.out.trans f5 (fun _ _ e => e)); clear f5))
    go_ret
    exact ⟨rfl, HF5.out.below (fun _ _ e => e)⟩
end Go.Proofs.Ytpaigmmpihcdaaa

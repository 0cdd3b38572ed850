/- What is proved: the walk of the law DeltaReads, for any bytes. Conditions: the bytes are there. -/
import Derived.Test.YthjfkeploofblaaDfd
import Derived.Test.YthjfkeploofblaaDfe
import Derived.Test.YthjfkeploofblaaDeo
namespace Go.Proofs.Ythjfkeploofblaa
open Go.RowKit
set_option linter.unusedVariables false

set_option maxHeartbeats 12800000 in
set_option maxRecDepth 100000 in
theorem deltaReads_walk (A : Option Addr) (c : Nat) (xs : List UInt8) (hc : xs.length ≤ c) (hcc : c ≤ 9223372036854775807) (w : World) (h : Lies w A (bytesV xs)) :
    Calls Try.prog 4 #[.slice A xs.length c] w (Ans w (.bool true)) := by
  unfold Ans
  have HA := Lib.hid h
  obtain ⟨X, hX⟩ : ∃ X, xs.length = X := ⟨_, rfl⟩
  by_cases h5 : (5000 : Int) < X
  · rw [hX] at hc ⊢
    have hXc : X ≤ 9223372036854775807 := by omega
    clear h hX
    go_enter Try.func4, Try.ntmps4
    go_wp2_with (go_at_call 9; refine (works9_any _).mono ?_; rintro e w2 ⟨rfl, b2⟩; have HB2 := Lib.hid b2; clear b2)
    go_ret
    exact ⟨rfl, HB2.out⟩
  · have HRd := Lib.hid (fun w' (l : Lies w' A (bytesV xs)) => DRead_any A c xs (by omega) hc w' l)
    have HQd := Lib.hid (fun w' (l : Lies w' A (bytesV xs)) => QDRead_any A c xs (by omega) hc w' l)
    unfold ReadPost at HRd HQd
    obtain ⟨⟨⟨b, t, os⟩, E⟩, hR⟩ : ∃ R, readR xs = R := ⟨_, rfl⟩
    have hbk : ((b, t, os), E) = ((b, t, os), (0 : Int)) → chkS b t os = 0 ∧ putS b t os = xs := fun h0 => readR_back (hR.trans h0)
    rw [hR] at HRd HQd
    simp only at HRd HQd
    have HBk := Lib.hid hbk
    have HX := Lib.hid hX
    have hXc : X ≤ 9223372036854775807 := by omega
    rw [hX] at hc HRd HQd ⊢
    clear h hR hbk hX
    go_enter Try.func4, Try.ntmps4
    go_upto_region 4 with (go_at_call 16; refine (HRd.out w HA.out).mono ?_; rintro e w1 ⟨A1, c1, ps, rfl, s1, o1, b1⟩; have HS1 := Lib.hid s1; have HO1 := Lib.hid o1; have HF1 := Lib.hid (Fr.of_below (S := fun _ => False) b1); clear s1 o1 b1)
    obtain ⟨L, hL⟩ : ∃ L, ps.length = L := ⟨_, rfl⟩
    have HL := Lib.hid hL
    rw [hL]
    obtain ⟨w2, hw2⟩ : ∃ w2, w1.alloc (.cells #[.int .i64 b, .int .i64 t, .slice A1 L c1] 24) = w2 := ⟨_, rfl⟩
    rw [hw2]
    have HF12 := Lib.hid (show Fr (fun _ => False) w1 w2 by subst hw2; exact (Fr.refl _ _).alloc _)
    have HT2 := Lib.hid (show SAt w2 w1.heap.size 24 b t (.slice A1 L c1) by subst hw2; exact SAt.new w1 24 b t _)
    have HF2 := Lib.hid (HF1.out.trans HF12.out (fun _ _ e => e))
    have HS2 := Lib.hid (HS1.out.fr HF12.out)
    clear hw2 hL
    go_upto_region 5 with (go_at_call 17; refine (HQd.out w2 (HA.out.fr HF2.out (fun _ _ e => e))).mono ?_; rintro e w3 ⟨A3, c3, qs, rfl, s3, o3, b3⟩; have HS3 := Lib.hid s3; have HO3 := Lib.hid o3; have HF23 := Lib.hid (Fr.of_below (S := fun _ => False) b3); clear s3 o3 b3)
    have hLq : qs.length = L := by
      have h1 := congrArg List.length (HO1.out.trans HO3.out.symm)
      simp [opsO] at h1
      have := HL.out
      omega
    have HLq := Lib.hid hLq
    rw [hLq]
    obtain ⟨w4, hw4⟩ : ∃ w4, w3.alloc (.cells #[.int .i64 b, .int .i64 t, .slice A3 L c3] 34) = w4 := ⟨_, rfl⟩
    rw [hw4]
    have HF34 := Lib.hid (show Fr (fun _ => False) w3 w4 by subst hw4; exact (Fr.refl _ _).alloc _)
    have HT4 := Lib.hid (show SAt w4 w3.heap.size 34 b t (.slice A3 L c3) by subst hw4; exact SAt.new w3 34 b t _)
    have HF24 := Lib.hid (HF23.out.trans HF34.out (fun _ _ e => e))
    have HF4 := Lib.hid (HF2.out.trans HF24.out (fun _ _ e => e))
    have HS4 := Lib.hid (HS2.out.fr HF24.out)
    have HQ4 := Lib.hid (HS3.out.fr HF34.out)
    obtain ⟨t0, t1, t2⟩ := HT4.out.cells
    obtain ⟨s0, s1, s2⟩ := (HT2.out.fr HF24.out).cells
    have HSa := Lib.hid (same9_any b t A1 A3 c1 c3 ps qs (HO1.out.trans HO3.out.symm) w4 HS4.out HQ4.out)
    unfold Ans at HSa
    rw [HL.out, hLq] at HSa
    have HPu := Lib.hid (fun w' (sc : Scr w' A1 c1 ps) => DPut_any b t A1 c1 ps w' sc)
    obtain ⟨P1, P2, hP⟩ : ∃ P1 P2, putR b t (opsO ps) = (P1, P2) := ⟨_, _, rfl⟩
    have HPx := Lib.hid (show E = 0 → P1 = xs ∧ P2 = 0 from fun h0 => by
      obtain ⟨g1, g2⟩ := HBk.out (by rw [h0])
      rw [HO1.out] at hP
      unfold putR at hP
      rw [if_pos g1, g2] at hP
      injection hP with e1 e2
      exact ⟨e1.symm, e2.symm⟩)
    obtain ⟨N, hN⟩ : ∃ N, P1.length = N := ⟨_, rfl⟩
    have HN := Lib.hid hN
    unfold PutPost at HPu
    simp only [hP, hN, HL.out] at HPu
    clear hw4 hLq hP hN
    by_cases hE : E = 0
    · obtain ⟨hp1, hp2⟩ := HPx.out hE
      subst hE
      subst hp2
      have HPe := Lib.hid hp1
      have HNx := Lib.hid (show N = X from by rw [← HN.out, hp1, HX.out])
      clear hp1
      go_wp2_with (first
        | (go_at_call 18; refine HSa.out.mono ?_; rintro e w5 ⟨rfl, b5⟩; have HF45 := Lib.hid (Fr.of_below (S := fun _ => False) b5); obtain ⟨u0, u1, u2⟩ := ((HT2.out.fr HF24.out).fr HF45.out).cells; have HS5 := Lib.hid (HS4.out.fr HF45.out); have HF5 := Lib.hid (HF4.out.trans HF45.out (fun _ _ e => e)); clear b5)
        | (go_at_call 10; refine (HPu.out w5 HS5.out).mono ?_; rintro e w6 ⟨Ap, cp, rfl, -, -, lp, bp⟩; have HF6 := Lib.hid (HF5.out.then_below bp); have HLp := Lib.hid lp; clear lp bp)
        | (go_at_call 13; refine (Same_n Ap A cp c N X P1 xs w6 HN.out HX.out HLp.out (HA.out.fr HF6.out (fun _ _ e => e))).mono ?_; rintro e wx ⟨rfl, rfl⟩; simp only [HPe.out])
        | (go_at_call 9; refine (works9_any w6).mono ?_; rintro e w7 ⟨rfl, b7⟩; have HF7 := Lib.hid (HF6.out.then_below b7); clear b7))
      go_ret
      exact ⟨rfl, HF7.out.below (fun _ _ e => e)⟩
    · have hE0 : (E != 0) = true := by simp; exact hE
      clear hE
      go_wp2_with (first
        | (go_at_call 18; refine HSa.out.mono ?_; rintro e w5 ⟨rfl, b5⟩; have HF45 := Lib.hid (Fr.of_below (S := fun _ => False) b5); obtain ⟨u0, u1, u2⟩ := ((HT2.out.fr HF24.out).fr HF45.out).cells; have HS5 := Lib.hid (HS4.out.fr HF45.out); have HF5 := Lib.hid (HF4.out.trans HF45.out (fun _ _ e => e)); clear b5)
        | (go_at_call 10; refine (HPu.out w5 HS5.out).mono ?_; rintro e w6 ⟨Ap, cp, rfl, -, -, lp, bp⟩; have HF6 := Lib.hid (HF5.out.then_below bp); have HLp := Lib.hid lp; clear lp bp)
        | (go_at_call 9; refine (works9_any w6).mono ?_; rintro e w7 ⟨rfl, b7⟩; have HF7 := Lib.hid (HF6.out.then_below b7); clear b7))
      go_ret
      exact ⟨rfl, HF7.out.below (fun _ _ e => e)⟩
end Go.Proofs.Ythjfkeploofblaa

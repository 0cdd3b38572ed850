/- What is proved: the walk of the law DeltaMakes, for any two texts. Conditions: the bytes are there. -/
import Derived.Test.YthjfkeploofblaaDgb
import Derived.Test.YthjfkeploofblaaDgc
import Derived.Test.YthjfkeploofblaaDfc
import Derived.Test.YthjfkeploofblaaDfe
import Derived.Test.YthjfkeploofblaaDeo
namespace Go.Proofs.Ythjfkeploofblaa
open Go.RowKit
set_option linter.unusedVariables false

set_option maxHeartbeats 12800000 in
set_option maxRecDepth 100000 in
theorem deltaMakes_walk (A B : Option Addr) (c d : Nat) (xs ys : List UInt8) (hc : xs.length ≤ c) (hd : ys.length ≤ d) (hcc : c ≤ 9223372036854775807) (hdd : d ≤ 9223372036854775807) (w : World) (ha : Lies w A (bytesV xs)) (hb : Lies w B (bytesV ys)) :
    Calls Try.prog 5 #[.slice A xs.length c, .slice B ys.length d] w (Ans w (.bool true)) := by
  unfold Ans
  have HA := Lib.hid ha
  have HB := Lib.hid hb
  obtain ⟨X, hX⟩ : ∃ X, xs.length = X := ⟨_, rfl⟩
  obtain ⟨Y, hY⟩ : ∃ Y, ys.length = Y := ⟨_, rfl⟩
  by_cases h5 : (400 : Int) < X
  · rw [hX] at hc ⊢
    rw [hY] at hd ⊢
    clear ha hb hX hY
    (
      go_enter Try.func5, Try.ntmps5
      go_wp2_with (go_at_call 9; refine (works9_any _).mono ?_; rintro e w2 ⟨rfl, b2⟩; have HB2 := Lib.hid b2; clear b2)
      go_ret
      exact ⟨rfl, HB2.out⟩)
  · by_cases h6 : (400 : Int) < Y
    · rw [hX] at hc ⊢
      rw [hY] at hd ⊢
      clear ha hb hX hY
      (
        go_enter Try.func5, Try.ntmps5
        go_wp2_with (go_at_call 9; refine (works9_any _).mono ?_; rintro e w2 ⟨rfl, b2⟩; have HB2 := Lib.hid b2; clear b2)
        go_ret
        exact ⟨rfl, HB2.out⟩)
    · have HMk := Lib.hid (fun w' (la : Lies w' A (bytesV xs)) (lb : Lies w' B (bytesV ys)) => DMake_any A B c d xs ys (by omega) (by omega) hc hd w' la lb)
      have HQk := Lib.hid (fun w' (la : Lies w' A (bytesV xs)) (lb : Lies w' B (bytesV ys)) => QDMake_any A B c d xs ys (by omega) (by omega) hc hd w' la lb)
      have HAp := Lib.hid (fun S (m : Nat) ps (e : opsO ps = makeO xs ys) w' (la : Lies w' A (bytesV xs)) (sc : Scr w' S m ps) => by
        have := DApply_any A c xs hc hcc xs.length ys.length S m ps w' la sc
        rw [e, make_app xs ys (by omega) (by omega)] at this
        exact this)
      have hr := make_right xs ys (by omega) (by omega)
      have HPu := Lib.hid (fun S (m : Nat) ps (e : opsO ps = makeO xs ys) w' (sc : Scr w' S m ps) => by
        have := DPut_any xs.length ys.length S m ps w' sc
        rw [e, show putR xs.length ys.length (makeO xs ys) = (putS xs.length ys.length (makeO xs ys), 0) by unfold putR; rw [if_pos hr]] at this
        exact this)
      have hsh := putS_short hr
      have HRd := Lib.hid (fun C (k : Nat) (hk : (putS xs.length ys.length (makeO xs ys)).length ≤ k) w' (l : Lies w' C (bytesV (putS xs.length ys.length (makeO xs ys)))) => by
        have := DRead_any C k (putS xs.length ys.length (makeO xs ys)) (by omega) hk w' l
        rw [readR_put hr] at this
        exact this)
      unfold PutPost at HPu
      unfold ReadPost at HRd
      obtain ⟨bs, hbs⟩ : ∃ bs, putS xs.length ys.length (makeO xs ys) = bs := ⟨_, rfl⟩
      obtain ⟨os, hos⟩ : ∃ os, makeO xs ys = os := ⟨_, rfl⟩
      simp only [hbs] at HPu HRd
      simp only [hos, hX, hY] at HMk HQk HAp HPu HRd
      have HX := Lib.hid hX
      have HY := Lib.hid hY
      rw [hX] at hc ⊢
      rw [hY] at hd ⊢
      obtain ⟨BL, hBL⟩ : ∃ BL, bs.length = BL := ⟨_, rfl⟩
      simp only [hBL] at HPu HRd
      have HBL := Lib.hid hBL
      clear ha hb hX hY hr hsh hbs hos hBL
      go_enter Try.func5, Try.ntmps5
      go_upto_region 4 with (go_at_call 19; refine (HMk.out w HA.out HB.out).mono ?_; rintro e w1 ⟨A1, c1, ps, rfl, s1, o1, b1⟩; have HS1 := Lib.hid s1; have HO1 := Lib.hid o1; have HF1 := Lib.hid (Fr.of_below (S := fun _ => False) b1); clear s1 o1 b1)
      obtain ⟨L, hL⟩ : ∃ L, ps.length = L := ⟨_, rfl⟩
      have HL := Lib.hid hL
      rw [hL]
      obtain ⟨w2, hw2⟩ : ∃ w2, w1.alloc (.cells #[.int .i64 X, .int .i64 Y, .slice A1 L c1] 24) = w2 := ⟨_, rfl⟩
      rw [hw2]
      have HF12 := Lib.hid (show Fr (fun _ => False) w1 w2 by subst hw2; exact (Fr.refl _ _).alloc _)
      have HT2 := Lib.hid (show SAt w2 w1.heap.size 24 X Y (.slice A1 L c1) by subst hw2; exact SAt.new w1 24 X Y _)
      have HF2 := Lib.hid (HF1.out.trans HF12.out (fun _ _ e => e))
      have HS2 := Lib.hid (HS1.out.fr HF12.out)
      obtain ⟨g2, hg2⟩ : ∃ g2, w1.heap.size = g2 := ⟨_, rfl⟩
      rw [hg2] at HT2 ⊢
      clear hw2 hL hg2
      go_upto_region 5 with (go_at_call 20; refine (HQk.out w2 (HA.out.fr HF2.out (fun _ _ e => e)) (HB.out.fr HF2.out (fun _ _ e => e))).mono ?_; rintro e w3 ⟨A3, c3, qs, rfl, s3, o3, b3⟩; have HS3 := Lib.hid s3; have HO3 := Lib.hid o3; have HF23 := Lib.hid (Fr.of_below (S := fun _ => False) b3); clear s3 o3 b3)
      have hLq : qs.length = L := by
        have h1 := congrArg List.length (HO1.out.trans HO3.out.symm)
        simp [opsO] at h1
        have := HL.out
        omega
      have HLq := Lib.hid hLq
      rw [hLq]
      obtain ⟨w4, hw4⟩ : ∃ w4, w3.alloc (.cells #[.int .i64 X, .int .i64 Y, .slice A3 L c3] 34) = w4 := ⟨_, rfl⟩
      rw [hw4]
      have HF34 := Lib.hid (show Fr (fun _ => False) w3 w4 by subst hw4; exact (Fr.refl _ _).alloc _)
      have HT4 := Lib.hid (show SAt w4 w3.heap.size 34 X Y (.slice A3 L c3) by subst hw4; exact SAt.new w3 34 X Y _)
      have HF24 := Lib.hid (HF23.out.trans HF34.out (fun _ _ e => e))
      have HF4 := Lib.hid (HF2.out.trans HF24.out (fun _ _ e => e))
      have HS4 := Lib.hid (HS2.out.fr HF24.out)
      have HQ4 := Lib.hid (HS3.out.fr HF34.out)
      obtain ⟨g4, hg4⟩ : ∃ g4, w3.heap.size = g4 := ⟨_, rfl⟩
      rw [hg4] at HT4 ⊢
      obtain ⟨t0, t1, t2⟩ := HT4.out.cells
      obtain ⟨s0, s1, s2⟩ := (HT2.out.fr HF24.out).cells
      have HSa := Lib.hid (same9_any X Y A1 A3 c1 c3 ps qs (HO1.out.trans HO3.out.symm) w4 HS4.out HQ4.out)
      unfold Ans at HSa
      rw [HL.out, hLq] at HSa
      have HApL := Lib.hid (fun w' la (sc : Scr w' A1 c1 ps) => by have := HAp.out A1 c1 ps HO1.out w' la sc; rw [HL.out] at this; exact this)
      have HPuL := Lib.hid (fun w' (sc : Scr w' A1 c1 ps) => by have := HPu.out A1 c1 ps HO1.out w' sc; rw [HL.out] at this; exact this)
      clear hw4 hLq hg4
      go_upto_region 10 with (first
        | (go_at_call 18; refine HSa.out.mono ?_; rintro e w5 ⟨rfl, b5⟩; have HF45 := Lib.hid (Fr.of_below (S := fun _ => False) b5); obtain ⟨u0, u1, u2⟩ := ((HT2.out.fr HF24.out).fr HF45.out).cells; have HS5 := Lib.hid (HS4.out.fr HF45.out); have HF5 := Lib.hid (HF4.out.trans HF45.out (fun _ _ e => e)); clear b5)
        | (go_at_call 21; refine (HApL.out w5 (HA.out.fr HF5.out (fun _ _ e => e)) HS5.out).mono ?_; rintro e w6 ⟨v6, rfl, o6, b6⟩; have HF56 := Lib.hid (Fr.of_below (S := fun _ => False) b6); have HF6 := Lib.hid (HF5.out.trans HF56.out (fun _ _ e => e)); obtain ⟨y0, y1, y2⟩ := (((HT2.out.fr HF24.out).fr HF45.out).fr HF56.out).cells; have HS6 := Lib.hid (HS5.out.fr HF56.out); obtain ⟨A6, c6, hv6, -, l6, -⟩ := own_lies (xs := ys) (by rw [HY.out]; exact o6); rw [HY.out] at hv6; subst hv6; have HL6 := Lib.hid l6; clear o6 b6 l6)
        | (go_at_call 10; refine (HPuL.out w6 HS6.out).mono ?_; rintro e w7 ⟨Ap, cp, rfl, hp7, -, l7, b7⟩; have HF67 := Lib.hid (Fr.of_below (S := fun _ => False) b7); have HF7 := Lib.hid (HF6.out.trans HF67.out (fun _ _ e => e)); have HL7 := Lib.hid l7; have HP7 := Lib.hid hp7; clear l7 b7 hp7)
        | (go_at_call 16; refine (HRd.out Ap cp HP7.out w7 HL7.out).mono ?_; rintro e w8 ⟨A8, c8, rs, rfl, s8, o8, b8⟩; have HF78 := Lib.hid (Fr.of_below (S := fun _ => False) b8); have HF8 := Lib.hid (HF7.out.trans HF78.out (fun _ _ e => e)); have HS8 := Lib.hid s8; have HO8 := Lib.hid o8; clear s8 o8 b8))
      have hLr : rs.length = L := by
        have h1 := congrArg List.length (HO1.out.trans HO8.out.symm)
        simp [opsO] at h1
        have := HL.out
        omega
      rw [hLr]
      obtain ⟨w9, hw9⟩ : ∃ w9, w8.alloc (.cells #[.int .i64 X, .int .i64 Y, .slice A8 L c8] 24) = w9 := ⟨_, rfl⟩
      rw [hw9]
      have HF89 := Lib.hid (show Fr (fun _ => False) w8 w9 by subst hw9; exact (Fr.refl _ _).alloc _)
      have HT9 := Lib.hid (show SAt w9 w8.heap.size 24 X Y (.slice A8 L c8) by subst hw9; exact SAt.new w8 24 X Y _)
      have HF9 := Lib.hid (HF8.out.trans HF89.out (fun _ _ e => e))
      have HF69 := Lib.hid ((HF67.out.trans HF78.out (fun _ _ e => e)).trans HF89.out (fun _ _ e => e))
      have HF49 := Lib.hid ((HF45.out.trans HF56.out (fun _ _ e => e)).trans HF69.out (fun _ _ e => e))
      have HSb := Lib.hid (same9_any X Y A8 A3 c8 c3 rs qs (HO8.out.trans HO3.out.symm) w9 (HS8.out.fr HF89.out) (HQ4.out.fr HF49.out))
      unfold Ans at HSb
      rw [hLr, HLq.out] at HSb
      obtain ⟨r0, r1, r2⟩ := HT9.out.cells
      obtain ⟨q0, q1, q2⟩ := (HT4.out.fr HF49.out).cells
      have HSm := Lib.hid (Same_n A6 B c6 d Y Y ys ys w9 HY.out HY.out (HL6.out.fr HF69.out (fun _ _ e => e)) (HB.out.fr HF9.out (fun _ _ e => e)))
      have hss : (ys == ys) = true := by simp
      rw [hss] at HSm
      obtain ⟨g9, hg9⟩ : ∃ g9, w8.heap.size = g9 := ⟨_, rfl⟩
      rw [hg9] at r0 r1 r2 ⊢
      clear hw9 hLr hg9 hss s0 s1 s2 t0 t1 t2 u0 u1 u2 y0 y1 y2
      go_wp2_with (first
        | (go_at_call 13; refine HSm.out.mono ?_; rintro e wx ⟨rfl, rfl⟩)
        | (go_at_call 18; refine HSb.out.mono ?_; rintro e w10 ⟨rfl, b10⟩; have HF10 := Lib.hid (HF9.out.then_below b10); clear b10)
        | (go_at_call 9; refine (works9_any w10).mono ?_; rintro e w11 ⟨rfl, b11⟩; have HF11 := Lib.hid (HF10.out.then_below b11); clear b11))
      go_ret
      exact ⟨rfl, HF11.out.below (fun _ _ e => e)⟩
end Go.Proofs.Ythjfkeploofblaa

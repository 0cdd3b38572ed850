/- What is proved: the walk of the law DeltaChain, for any three texts. Conditions: the bytes are there. -/
import Derived.Test.YthjfkeploofblaaDtg
import Derived.Test.YthjfkeploofblaaDgc
import Derived.Test.YthjfkeploofblaaDeo
namespace Go.Proofs.Ythjfkeploofblaa
open Go.RowKit
set_option linter.unusedVariables false

theorem make_len (base target : List UInt8) (h2 : target.length ≤ 300) : (makeO base target).length ≤ 300 := by
  have := (restO_all (make_begun base target).rest).2
  omega
theorem chain_then (xs ys zs : List UInt8) (h1 : xs.length ≤ 4000) (h2 : ys.length ≤ 4000) (h3 : zs.length ≤ 4000) :
    thenR xs.length ys.length (makeO xs ys) ys.length zs.length (makeO ys zs) = (((xs.length : Int), (zs.length : Int), thenO (makeO xs ys) (makeO ys zs)), 0) := by
  unfold thenR
  rw [if_pos ⟨make_right xs ys h1 h2, make_right ys zs h2 h3⟩, if_pos rfl]
theorem chain_app (xs ys zs : List UInt8) (h1 : xs.length ≤ 4000) (h2 : ys.length ≤ 4000) (h3 : zs.length ≤ 4000) : appR xs xs.length zs.length (thenO (makeO xs ys) (makeO ys zs)) = (zs, 0) := by
  unfold appR
  rw [if_pos (then_right (make_right xs ys h1 h2) (make_right ys zs h2 h3)), if_pos rfl]
  have ha := (make_begun xs ys)
  have hc := (make_begun ys zs)
  have hra := ha.rest
  rw [show (ys.length : Int) - ys.length = 0 by omega] at hra
  rw [then_app hra hc.rest, ha.app, List.take_length, hc.app, List.take_length]

set_option maxHeartbeats 12800000 in
set_option maxRecDepth 100000 in
theorem deltaChain_walk (A B C : Option Addr) (c d f : Nat) (xs ys zs : List UInt8) (hc : xs.length ≤ c) (hd : ys.length ≤ d) (hf : zs.length ≤ f) (hcc : c ≤ 9223372036854775807) (hdd : d ≤ 9223372036854775807) (hff : f ≤ 9223372036854775807) (w : World) (ha : Lies w A (bytesV xs)) (hb : Lies w B (bytesV ys)) (hz : Lies w C (bytesV zs)) :
    Calls Try.prog 8 #[.slice A xs.length c, .slice B ys.length d, .slice C zs.length f] w (Ans w (.bool true)) := by
  unfold Ans
  have HA := Lib.hid ha
  have HB := Lib.hid hb
  have HC := Lib.hid hz
  obtain ⟨X, hX⟩ : ∃ X, xs.length = X := ⟨_, rfl⟩
  obtain ⟨Y, hY⟩ : ∃ Y, ys.length = Y := ⟨_, rfl⟩
  obtain ⟨Z, hZ⟩ : ∃ Z, zs.length = Z := ⟨_, rfl⟩
  by_cases h5 : (300 : Int) < X
  · rw [hX] at hc ⊢
    rw [hY] at hd ⊢
    rw [hZ] at hf ⊢
    clear ha hb hz hX hY hZ
    (
      go_enter Try.func8, Try.ntmps8
      go_wp2_with (go_at_call 9; refine (works9_any _).mono ?_; rintro e w2 ⟨rfl, b2⟩; have HB2 := Lib.hid b2; clear b2)
      go_ret
      exact ⟨rfl, HB2.out⟩)
  · by_cases h6 : (300 : Int) < Y
    · rw [hX] at hc ⊢
      rw [hY] at hd ⊢
      rw [hZ] at hf ⊢
      clear ha hb hz hX hY hZ
      (
        go_enter Try.func8, Try.ntmps8
        go_wp2_with (go_at_call 9; refine (works9_any _).mono ?_; rintro e w2 ⟨rfl, b2⟩; have HB2 := Lib.hid b2; clear b2)
        go_ret
        exact ⟨rfl, HB2.out⟩)
    · by_cases h7 : (300 : Int) < Z
      · rw [hX] at hc ⊢
        rw [hY] at hd ⊢
        rw [hZ] at hf ⊢
        clear ha hb hz hX hY hZ
        (
          go_enter Try.func8, Try.ntmps8
          go_wp2_with (go_at_call 9; refine (works9_any _).mono ?_; rintro e w2 ⟨rfl, b2⟩; have HB2 := Lib.hid b2; clear b2)
          go_ret
          exact ⟨rfl, HB2.out⟩)
      · have HM1 := Lib.hid (fun w' (la : Lies w' A (bytesV xs)) (lb : Lies w' B (bytesV ys)) => DMake_any A B c d xs ys (by omega) (by omega) hc hd w' la lb)
        have HM2 := Lib.hid (fun w' (la : Lies w' B (bytesV ys)) (lb : Lies w' C (bytesV zs)) => DMake_any B C d f ys zs (by omega) (by omega) hd hf w' la lb)
        have HTh := Lib.hid (fun A1 (m1 : Nat) ps A2 (m2 : Nat) qs (e1 : opsO ps = makeO xs ys) (e2 : opsO qs = makeO ys zs) w' (s1 : Scr w' A1 m1 ps) (s2 : Scr w' A2 m2 qs) => by
          have hl : ps.length ≤ 1000 := by
            have h1 := make_len xs ys (by omega)
            rw [← e1] at h1
            have h2 : (opsO ps).length = ps.length := by simp [opsO]
            omega
          have := DThen_any xs.length ys.length A1 m1 ps ys.length zs.length A2 m2 qs hl w' s1 s2
          rw [e1, e2, chain_then xs ys zs (by omega) (by omega) (by omega)] at this
          exact this)
        unfold ReadPost at HTh
        have HAp := Lib.hid (fun S (m : Nat) ps (e : opsO ps = thenO (makeO xs ys) (makeO ys zs)) w' (la : Lies w' A (bytesV xs)) (sc : Scr w' S m ps) => by
          have := DApply_any A c xs hc hcc xs.length zs.length S m ps w' la sc
          rw [e, chain_app xs ys zs (by omega) (by omega) (by omega)] at this
          exact this)
        obtain ⟨o1, ho1⟩ : ∃ o1, makeO xs ys = o1 := ⟨_, rfl⟩
        obtain ⟨o2, ho2⟩ : ∃ o2, makeO ys zs = o2 := ⟨_, rfl⟩
        obtain ⟨o3, ho3⟩ : ∃ o3, thenO o1 o2 = o3 := ⟨_, rfl⟩
        simp only [ho1, ho2, hX, hY, hZ] at HM1 HM2 HTh HAp
        simp only [ho3] at HTh HAp
        have HX := Lib.hid hX
        have HY := Lib.hid hY
        have HZ := Lib.hid hZ
        rw [hX] at hc ⊢
        rw [hY] at hd ⊢
        rw [hZ] at hf ⊢
        clear ha hb hz hX hY hZ ho1 ho2 ho3
        go_enter Try.func8, Try.ntmps8
        go_upto_region 4 with (go_at_call 19; refine (HM1.out w HA.out HB.out).mono ?_; rintro e w1 ⟨A1, c1, ps, rfl, s1, e1, b1⟩; have HS1 := Lib.hid s1; have HO1 := Lib.hid e1; have HF1 := Lib.hid (Fr.of_below (S := fun _ => False) b1); clear s1 e1 b1)
        obtain ⟨L1, hL1⟩ : ∃ L, ps.length = L := ⟨_, rfl⟩
        have HL1 := Lib.hid hL1
        rw [hL1]
        obtain ⟨w2, hw2⟩ : ∃ w2, w1.alloc (.cells #[.int .i64 X, .int .i64 Y, .slice A1 L1 c1] 24) = w2 := ⟨_, rfl⟩
        rw [hw2]
        have HF12 := Lib.hid (show Fr (fun _ => False) w1 w2 by subst hw2; exact (Fr.refl _ _).alloc _)
        have HT2 := Lib.hid (show SAt w2 w1.heap.size 24 X Y (.slice A1 L1 c1) by subst hw2; exact SAt.new w1 24 X Y _)
        have HF2 := Lib.hid (HF1.out.trans HF12.out (fun _ _ e => e))
        have HS2 := Lib.hid (HS1.out.fr HF12.out)
        obtain ⟨g2, hg2⟩ : ∃ g2, w1.heap.size = g2 := ⟨_, rfl⟩
        rw [hg2] at HT2 ⊢
        clear hw2 hL1 hg2
        go_upto_region 5 with (go_at_call 19; refine (HM2.out w2 (HB.out.fr HF2.out (fun _ _ e => e)) (HC.out.fr HF2.out (fun _ _ e => e))).mono ?_; rintro e w3 ⟨A3, c3, qs, rfl, s3, e3, b3⟩; have HS3 := Lib.hid s3; have HO3 := Lib.hid e3; have HF23 := Lib.hid (Fr.of_below (S := fun _ => False) b3); clear s3 e3 b3)
        obtain ⟨L3, hL3⟩ : ∃ L, qs.length = L := ⟨_, rfl⟩
        have HL3 := Lib.hid hL3
        rw [hL3]
        obtain ⟨w4, hw4⟩ : ∃ w4, w3.alloc (.cells #[.int .i64 Y, .int .i64 Z, .slice A3 L3 c3] 24) = w4 := ⟨_, rfl⟩
        rw [hw4]
        have HF34 := Lib.hid (show Fr (fun _ => False) w3 w4 by subst hw4; exact (Fr.refl _ _).alloc _)
        have HT4 := Lib.hid (show SAt w4 w3.heap.size 24 Y Z (.slice A3 L3 c3) by subst hw4; exact SAt.new w3 24 Y Z _)
        have HF24 := Lib.hid (HF23.out.trans HF34.out (fun _ _ e => e))
        have HF4 := Lib.hid (HF2.out.trans HF24.out (fun _ _ e => e))
        have HS24 := Lib.hid (HS2.out.fr HF24.out)
        have HS4 := Lib.hid (HS3.out.fr HF34.out)
        obtain ⟨g4, hg4⟩ : ∃ g4, w3.heap.size = g4 := ⟨_, rfl⟩
        rw [hg4] at HT4 ⊢
        clear hw4 hL3 hg4
        obtain ⟨t0, t1, t2⟩ := HT4.out.cells
        obtain ⟨s0, s1, s2⟩ := (HT2.out.fr HF24.out).cells
        have HThL := Lib.hid (by have := HTh.out A1 c1 ps A3 c3 qs HO1.out HO3.out w4 HS24.out HS4.out; rw [HL1.out, HL3.out] at this; exact this)
        go_upto_region 6 with (go_at_call 24; refine HThL.out.mono ?_; rintro e w5 ⟨A5, c5, rs, rfl, s5, e5, b5⟩; have HS5 := Lib.hid s5; have HO5 := Lib.hid e5; have HF45 := Lib.hid (Fr.of_below (S := fun _ => False) b5); clear s5 e5 b5)
        obtain ⟨L5, hL5⟩ : ∃ L, rs.length = L := ⟨_, rfl⟩
        have HL5 := Lib.hid hL5
        rw [hL5]
        obtain ⟨w6, hw6⟩ : ∃ w6, w5.alloc (.cells #[.int .i64 X, .int .i64 Z, .slice A5 L5 c5] 24) = w6 := ⟨_, rfl⟩
        rw [hw6]
        have HF56 := Lib.hid (show Fr (fun _ => False) w5 w6 by subst hw6; exact (Fr.refl _ _).alloc _)
        have HT6 := Lib.hid (show SAt w6 w5.heap.size 24 X Z (.slice A5 L5 c5) by subst hw6; exact SAt.new w5 24 X Z _)
        have HF6 := Lib.hid ((HF4.out.trans HF45.out (fun _ _ e => e)).trans HF56.out (fun _ _ e => e))
        have HS6 := Lib.hid (HS5.out.fr HF56.out)
        obtain ⟨g6, hg6⟩ : ∃ g6, w5.heap.size = g6 := ⟨_, rfl⟩
        rw [hg6] at HT6 ⊢
        clear hw6 hL5 hg6 t0 t1 t2 s0 s1 s2
        obtain ⟨t0, t1, t2⟩ := HT6.out.cells
        have HApL := Lib.hid (by have := HAp.out A5 c5 rs HO5.out w6 (HA.out.fr HF6.out (fun _ _ e => e)) HS6.out; rw [HL5.out] at this; exact this)
        have hss : (zs == zs) = true := by simp
        go_wp2_with (first
          | (go_at_call 21; refine HApL.out.mono ?_; rintro e w7 ⟨v7, rfl, o7, b7⟩; have HF7 := Lib.hid (HF6.out.then_below b7); obtain ⟨A7, c7, hv7, -, l7, -⟩ := own_lies (xs := zs) (by rw [HZ.out]; exact o7); rw [HZ.out] at hv7; subst hv7; have HL7 := Lib.hid l7; clear o7 b7 l7)
          | (go_at_call 13; refine (Same_n A7 C c7 f Z Z zs zs w7 HZ.out HZ.out HL7.out (HC.out.fr HF7.out (fun _ _ e => e))).mono ?_; rintro e wx ⟨rfl, rfl⟩; simp only [hss])
          | (go_at_call 9; refine (works9_any w7).mono ?_; rintro e w8 ⟨rfl, b8⟩; have HF8 := Lib.hid (HF7.out.then_below b8); clear b8))
        go_ret
        exact ⟨rfl, HF8.out.below (fun _ _ e => e)⟩
end Go.Proofs.Ythjfkeploofblaa

/- What is proved: the walks of the laws RouteRight, RouteParts, RouteBack, for every text. Conditions: the texts fit an int. -/
import Derived.Test.YtnekddpnajgmdaaDoorRts
namespace Go.Proofs.YtnekddpnajgmdaaDoor
open Go.RowKit
set_option linter.unusedVariables false

theorem join_len (a b : List UInt8) : (joinB a b).length ≤ a.length + b.length + 1 := by
  unfold joinB
  split
  · omega
  · simp; omega
set_option maxHeartbeats 6400000 in
theorem right_walk (s t : List UInt8) (hs : s.length ≤ 9223372036854775807) (ht : t.length ≤ 9223372036854775807) (w : World) : Calls Tryd.prog 3 #[.string (strB s), .string (strB t)] w fun e w' => e = .returned (.bool true) ∧ Below w.heap.size w w' := by
  have l1 := Lib.hid (fun w => long_any s w)
  have l2 := Lib.hid (fun w => long_any t w)
  have HS : Hid (s.length ≤ 300 → s.length ≤ 300) := Lib.hid id
  by_cases h1 : s.length ≤ 300
  · rw [decide_eq_false (show ¬ 300 < s.length by omega)] at l1
    by_cases h2 : t.length ≤ 300
    · rw [decide_eq_false (show ¬ 300 < t.length by omega)] at l2
      have c1 := Lib.hid (fun w => RtName_any s (by omega) w)
      have c2 := Lib.hid (fun w => QrName_any s (by omega) w)
      have c3 := Lib.hid (fun w => RtRight_any s (by omega) w)
      have c4 := Lib.hid (fun w => QrRight_any s (by omega) w)
      have c5 := Lib.hid (fun w => RtPattern_any s (by omega) w)
      have c6 := Lib.hid (fun w => QrPattern_any s (by omega) w)
      have c7 := Lib.hid (fun w => RtParts_any s (by omega) w)
      have c8 := Lib.hid (fun w => QrParts_any s (by omega) w)
      have c9 := Lib.hid (fun A B c d w ha hb => QrSame_any (prt s) (by have := prt_len s; omega) A B c d w ha hb)
      have c10 := Lib.hid (fun w => RtJoin_any s t (by omega) w)
      have c11 := Lib.hid (fun w => QrJoin_any s t (by omega) w)
      obtain ⟨b1, hb1⟩ : ∃ b, nameB s = b := ⟨_, rfl⟩
      obtain ⟨b2, hb2⟩ : ∃ b, rightB s = b := ⟨_, rfl⟩
      obtain ⟨b3, hb3⟩ : ∃ b, patB s = b := ⟨_, rfl⟩
      obtain ⟨J, hJ⟩ : ∃ J, strB (joinB s t) = J := ⟨_, rfl⟩
      obtain ⟨S, hS⟩ : ∃ J, strB s = J := ⟨_, rfl⟩
      obtain ⟨T, hT⟩ : ∃ J, strB t = J := ⟨_, rfl⟩
      rw [hb1, hS] at c1 c2
      rw [hb2, hS] at c3 c4
      rw [hb3, hS] at c5 c6
      rw [hS] at c7 c8 l1
      rw [hJ, hS, hT] at c10 c11
      rw [hT] at l2
      rw [hS, hT]
      obtain ⟨n, hn⟩ : ∃ n, (prt s).length = n := ⟨_, rfl⟩
      rw [hn] at c7 c8 c9
      clear hb1 hb2 hb3 hJ hS hT hn h1 h2 hs ht HS
      go_enter Tryd.func3, Tryd.ntmps3
      go_wp2_with (first
        | (have M := k1; go_at_call 9; refine (l2.out _).mono ?_; rintro e wb ⟨rfl, rfl⟩)
        | (go_at_call 9; refine (l1.out _).mono ?_; rintro e wb ⟨rfl, k1⟩; subst k1; have k1 := True.intro)
        | (go_at_call 11; refine (c1.out _).mono ?_; rintro e w1 ⟨rfl, rfl⟩)
        | (go_at_call 12; refine (c2.out _).mono ?_; rintro e w2 ⟨rfl, g2⟩)
        | (go_at_call 13; refine (c3.out _).mono ?_; rintro e w3 ⟨rfl, g3⟩)
        | (go_at_call 14; refine (c4.out _).mono ?_; rintro e w4 ⟨rfl, g4⟩)
        | (go_at_call 15; refine (c5.out _).mono ?_; rintro e w5 ⟨rfl, g5⟩)
        | (go_at_call 16; refine (c6.out _).mono ?_; rintro e w6 ⟨rfl, g6⟩)
        | (go_at_call 18; refine (c7.out _).mono ?_; rintro e w7 ⟨A7, k7, rfl, _, hl7, g7⟩)
        | (go_at_call 19; refine (c8.out _).mono ?_; rintro e w8 ⟨A8, k8, rfl, _, hl8, g8⟩
           have hl7' := Lib.hid (hl7.fr (Fr.of_below (S := fun _ => False) g8) (fun _ _ e => e)))
        | (go_at_call 17; refine (c9.out _ _ _ _ _ hl7'.out hl8).mono ?_; rintro e w9 ⟨rfl, g9⟩)
        | (go_at_call 20; refine (c10.out _).mono ?_; rintro e w10 ⟨rfl, rfl⟩)
        | (go_at_call 21; refine (c11.out _).mono ?_; rintro e w11 ⟨rfl, rfl⟩)
        | (go_at_call 10; refine (works_any _).mono ?_; rintro e w12 ⟨rfl, g12⟩))
      go_ret
      exact ⟨rfl, ((((((((Fr.of_below (S := fun _ => False) g2).then_below g3).then_below g4).then_below g5).then_below g6).then_below g7).then_below g8).then_below g9 |>.then_below g12).below (fun _ _ e => e)⟩
    · rw [decide_eq_true (show 300 < t.length by omega)] at l2
      obtain ⟨S, hS⟩ : ∃ J, strB s = J := ⟨_, rfl⟩
      obtain ⟨T, hT⟩ : ∃ J, strB t = J := ⟨_, rfl⟩
      rw [hS] at l1
      rw [hT] at l2
      rw [hS, hT]
      clear hS hT h1 h2 hs ht HS
      go_enter Tryd.func3, Tryd.ntmps3
      go_wp2_with (first
        | (have M := k1; go_at_call 9; refine (l2.out _).mono ?_; rintro e wb ⟨rfl, rfl⟩)
        | (go_at_call 9; refine (l1.out _).mono ?_; rintro e wb ⟨rfl, k1⟩; subst k1; have k1 := True.intro)
        | (go_at_call 10; refine (works_any _).mono ?_; rintro e w12 ⟨rfl, g12⟩))
      go_ret
      exact ⟨rfl, g12⟩
  · rw [decide_eq_true (show 300 < s.length by omega)] at l1
    obtain ⟨S, hS⟩ : ∃ J, strB s = J := ⟨_, rfl⟩
    obtain ⟨T, hT⟩ : ∃ J, strB t = J := ⟨_, rfl⟩
    rw [hS] at l1
    rw [hS, hT]
    clear hS hT h1 hs ht HS l2
    go_enter Tryd.func3, Tryd.ntmps3
    go_wp2_with (first
      | (go_at_call 9; refine (l1.out _).mono ?_; rintro e wb ⟨rfl, rfl⟩)
      | (go_at_call 10; refine (works_any _).mono ?_; rintro e w12 ⟨rfl, g12⟩))
    go_ret
    exact ⟨rfl, g12⟩

set_option maxHeartbeats 6400000 in
theorem parts_walk (s t : List UInt8) (hs : s.length ≤ 9223372036854775807) (ht : t.length ≤ 9223372036854775807) (w : World) : Calls Tryd.prog 4 #[.string (strB s), .string (strB t)] w fun e w' => e = .returned (.bool true) ∧ Below w.heap.size w w' := by
  have l1 := Lib.hid (fun w => long_any s w)
  have l2 := Lib.hid (fun w => long_any t w)
  by_cases h1 : s.length ≤ 300
  · rw [decide_eq_false (show ¬ 300 < s.length by omega)] at l1
    by_cases h2 : t.length ≤ 300
    · rw [decide_eq_false (show ¬ 300 < t.length by omega)] at l2
      have c1 := Lib.hid (fun w => RtDir_any s (by omega) w)
      have c2 := Lib.hid (fun w => QrDir_any s (by omega) w)
      have c3 := Lib.hid (fun w => RtBase_any s (by omega) w)
      have c4 := Lib.hid (fun w => QrBase_any s (by omega) w)
      have c5 := Lib.hid (fun w => RtUnder_any s t (by omega) (by omega) w)
      have c6 := Lib.hid (fun w => QrUnder_any s t (by omega) (by omega) w)
      obtain ⟨D, hD⟩ : ∃ J, strB (dirB s) = J := ⟨_, rfl⟩
      obtain ⟨B, hB⟩ : ∃ J, strB (baseB s) = J := ⟨_, rfl⟩
      obtain ⟨b, hb⟩ : ∃ b, underB s t = b := ⟨_, rfl⟩
      obtain ⟨S, hS⟩ : ∃ J, strB s = J := ⟨_, rfl⟩
      obtain ⟨T, hT⟩ : ∃ J, strB t = J := ⟨_, rfl⟩
      rw [hD, hS] at c1 c2
      rw [hB, hS] at c3 c4
      rw [hb, hS, hT] at c5 c6
      rw [hS] at l1
      rw [hT] at l2
      rw [hS, hT]
      clear hb hD hB hS hT h1 h2 hs ht
      go_enter Tryd.func4, Tryd.ntmps4
      go_wp2_with (first
        | (have M := k1; go_at_call 9; refine (l2.out _).mono ?_; rintro e wb ⟨rfl, rfl⟩)
        | (go_at_call 9; refine (l1.out _).mono ?_; rintro e wb ⟨rfl, k1⟩; subst k1; have k1 := True.intro)
        | (go_at_call 22; refine (c1.out _).mono ?_; rintro e w1 ⟨rfl, rfl⟩)
        | (go_at_call 23; refine (c2.out _).mono ?_; rintro e w2 ⟨rfl, rfl⟩)
        | (go_at_call 24; refine (c3.out _).mono ?_; rintro e w3 ⟨rfl, rfl⟩)
        | (go_at_call 25; refine (c4.out _).mono ?_; rintro e w4 ⟨rfl, rfl⟩)
        | (go_at_call 26; refine (c5.out _).mono ?_; rintro e w5 ⟨rfl, rfl⟩)
        | (go_at_call 27; refine (c6.out _).mono ?_; rintro e w6 ⟨rfl, rfl⟩)
        | (go_at_call 10; refine (works_any _).mono ?_; rintro e w12 ⟨rfl, g12⟩))
      go_ret
      exact ⟨rfl, g12⟩
    · rw [decide_eq_true (show 300 < t.length by omega)] at l2
      obtain ⟨S, hS⟩ : ∃ J, strB s = J := ⟨_, rfl⟩
      obtain ⟨T, hT⟩ : ∃ J, strB t = J := ⟨_, rfl⟩
      rw [hS] at l1
      rw [hT] at l2
      rw [hS, hT]
      clear hS hT h1 h2 hs ht
      go_enter Tryd.func4, Tryd.ntmps4
      go_wp2_with (first
        | (have M := k1; go_at_call 9; refine (l2.out _).mono ?_; rintro e wb ⟨rfl, rfl⟩)
        | (go_at_call 9; refine (l1.out _).mono ?_; rintro e wb ⟨rfl, k1⟩; subst k1; have k1 := True.intro)
        | (go_at_call 10; refine (works_any _).mono ?_; rintro e w12 ⟨rfl, g12⟩))
      go_ret
      exact ⟨rfl, g12⟩
  · rw [decide_eq_true (show 300 < s.length by omega)] at l1
    obtain ⟨S, hS⟩ : ∃ J, strB s = J := ⟨_, rfl⟩
    obtain ⟨T, hT⟩ : ∃ J, strB t = J := ⟨_, rfl⟩
    rw [hS] at l1
    rw [hS, hT]
    clear hS hT h1 hs ht l2
    go_enter Tryd.func4, Tryd.ntmps4
    go_wp2_with (first
      | (go_at_call 9; refine (l1.out _).mono ?_; rintro e wb ⟨rfl, rfl⟩)
      | (go_at_call 10; refine (works_any _).mono ?_; rintro e w12 ⟨rfl, g12⟩))
    go_ret
    exact ⟨rfl, g12⟩

/-! RouteBack. -/
/-- A directory that is gone up to: none, or one that the text lies under. -/
def Above (s d : List UInt8) : Prop := d = [] ∨ ∃ c, s = d ++ 47 :: c
theorem above_dir {s d : List UInt8} (h : d = s ∨ Above s d) (hd : d ≠ []) : Above s (dirB d) := by
  by_cases h0 : dirB d = []
  · exact .inl h0
  · have e := dir_above h0
    right
    rcases h with rfl | h | ⟨c, hc⟩
    · exact ⟨_, e⟩
    · exact absurd h hd
    · refine ⟨baseB d ++ 47 :: c, ?_⟩
      conv => lhs; rw [hc, e]
      simp
theorem dir_less {d : List UInt8} (hd : d ≠ []) : (dirB d).length < d.length := by
  have h := lastI_at d
  have h2 := h.hi
  have : 0 < d.length := List.length_pos_iff.2 hd
  rw [dirB, List.length_take]
  omega
theorem dir_le (d : List UInt8) : (dirB d).length ≤ d.length := by rw [dirB, List.length_take]; omega
theorem base_le (d : List UInt8) : (baseB d).length ≤ d.length := by rw [baseB, List.length_drop]; omega
set_option maxHeartbeats 6400000 in
theorem back_walk (s : List UInt8) (hs : s.length ≤ 9223372036854775807) (w : World) : Calls Tryd.prog 5 #[.string (strB s)] w fun e w' => e = .returned (.bool true) ∧ Below w.heap.size w w' := by
  by_cases hr : rightB s = true
  · have hp := (right_iff s).1 hr
    have hlen := hp.len
    have hbb := back_base hr
    have c1 := Lib.hid (fun w => QrRight_any s (by omega) w)
    have c2 := Lib.hid (fun w => RtRight_any s (by omega) w)
    rw [hr] at c1 c2
    have c3 := Lib.hid (fun w => RtDir_any s (by omega) w)
    have c4 := Lib.hid (fun w => RtBase_any s (by omega) w)
    have c5 := Lib.hid (fun w => RtJoin_any (dirB s) (baseB s) (by have := dir_le s; have := base_le s; omega) w)
    rw [hbb.2] at c5
    have c6 := Lib.hid (fun w => RtName_any (baseB s) (by have := base_le s; omega) w)
    rw [hbb.1] at c6
    have c7 := Lib.hid (fun d (hd : d.length ≤ s.length) w => RtUnder_any s d (by omega) (by omega) w)
    have c8 := Lib.hid (fun d (hd : d.length ≤ s.length) w => RtRight_any d (by omega) w)
    have c9 := Lib.hid (fun d (hd : d.length ≤ s.length) w => RtDir_any d (by omega) w)
    have c10 : Hid (∀ w, Calls Tryd.prog 26 #[.string (strB s), .string (ByteArray.mk #[])] w fun e w' => e = .returned (.bool true) ∧ w = w') := Lib.hid (fun w => by
      have := RtUnder_any s [] (by omega) (by simp) w
      rw [under_none] at this
      exact this)
    have c11 := Lib.hid (fun w => RtUnder_any s s (by omega) (by omega) w)
    rw [under_self] at c11
    have HAb := Lib.hid (fun d => above_dir (s := s) (d := d))
    have HFacts : Hid (∀ d, d ≠ [] → Above s d → underB s d = true ∧ rightB d = true ∧ d.length < s.length) := Lib.hid (fun d hd ha => by
      rcases ha with h | ⟨c, hc⟩
      · exact absurd h hd
      · rw [hc] at hr ⊢
        exact ⟨under_above d c, right_dir hr hd, by simp⟩)
    have hA0 := Lib.hid (above_dir (s := s) (.inl rfl) hp.ne)
    have hD0 := Lib.hid (dir_le s)
    have HSs := Lib.hid strB_list
    have hsz := strB_size s
    have HSz := Lib.hid strB_size
    obtain ⟨S, hS⟩ : ∃ J, strB s = J := ⟨_, rfl⟩
    obtain ⟨n, hn⟩ : ∃ n, s.length = n := ⟨_, rfl⟩
    rw [hS, hn] at hsz
    rw [hn] at hlen hs c7 c8 c9 hD0 HFacts
    rw [hS] at c1 c2 c3 c4 c5 c7 c10 c11 ⊢
    obtain ⟨D, hD⟩ : ∃ J, dirB s = J := ⟨_, rfl⟩
    rw [hD] at c3 c5 hA0 hD0
    obtain ⟨B, hB⟩ : ∃ J, strB (baseB s) = J := ⟨_, rfl⟩
    rw [hB] at c4 c5 c6
    obtain ⟨DS, hDS⟩ : ∃ J, strB D = J := ⟨_, rfl⟩
    have HDS := Lib.hid hDS
    rw [hDS] at c3 c5
    clear hr hp hbb hS hn hD hB hDS
    go_enter Tryd.func5, Tryd.ntmps5
    go_wp2_with (first
      | (go_at_call 14; refine (c1.out _).mono ?_; rintro e w1 ⟨rfl, g1⟩)
      | (go_at_call 22; refine (c3.out _).mono ?_; rintro e w3 ⟨rfl, rfl⟩)
      | (go_at_call 24; refine (c4.out _).mono ?_; rintro e w4 ⟨rfl, rfl⟩)
      | (go_at_call 20; refine (c5.out _).mono ?_; rintro e w5 ⟨rfl, rfl⟩)
      | (go_at_call 11; refine (c6.out _).mono ?_; rintro e w6 ⟨rfl, rfl⟩))
    have HG1 := Lib.hid (Fr.of_below (S := fun _ => False) g1)
    clear g1
    go_loopw [3] (fun v wr => ∃ d : List UInt8, v = .string (strB d) ∧ d.length ≤ n ∧ Hid (Above s d) ∧ Fr (fun _ => False) w wr) (fun v _ => match v with | .string b => b.size | _ => 0)
    case atStart => exact ⟨D, by rw [HDS.out], hD0.out, hA0, HG1.out⟩
    case round =>
      obtain ⟨d, rfl, hdn, hA, hfr⟩ := hrel
      have HFr := Lib.hid hfr
      have hdl := HSs.out d
      have hdz := HSz.out d
      by_cases hd : d = []
      · obtain ⟨X, hX⟩ : ∃ X, strB d = X := ⟨_, rfl⟩
        rw [hX] at hdl hdz ⊢
        clear hfr hX
        go_wp2_with (first
          | (have M := g9; go_at_call 26; refine (c11.out _).mono ?_; rintro e wd ⟨rfl, rfl⟩)
          | (go_at_call 26; refine (c10.out _).mono ?_; rintro e wc ⟨rfl, g9⟩; subst g9; have g9 := True.intro)
          | (go_at_call 13; refine (c2.out _).mono ?_; rintro e w7 ⟨rfl, g7⟩)
          | (go_at_call 10; refine (works_any _).mono ?_; rintro e w12 ⟨rfl, g12⟩))
        go_ret
        exact ⟨rfl, ((HFr.out.then_below g7).then_below g12).below (fun _ _ e => e)⟩
      · have hd' : d.isEmpty = false := by simpa using hd
        obtain ⟨f1, f2, f3⟩ := HFacts.out d hd hA.out
        have e7 := c7.out d hdn
        have e8 := c8.out d hdn
        have e9 := c9.out d hdn
        rw [f1] at e7
        rw [f2] at e8
        have HN := Lib.hid (HAb.out d (.inr hA.out) hd)
        have HLess := Lib.hid (dir_less hd)
        obtain ⟨X, hX⟩ : ∃ X, strB d = X := ⟨_, rfl⟩
        have HX := Lib.hid hX
        rw [hX] at hdl hdz e7 e8 e9 ⊢
        obtain ⟨Y, hY⟩ : ∃ X, strB (dirB d) = X := ⟨_, rfl⟩
        have HY := Lib.hid hY
        have hyz := HSz.out (dirB d)
        rw [hY] at e9 hyz
        have E7 := Lib.hid e7
        have E8 := Lib.hid e8
        have E9 := Lib.hid e9
        have HYZ := Lib.hid hyz
        have hlti : ((d.length : Nat) : Int) < n := by omega
        clear hfr hX hY e7 e8 e9 f1 f2 hyz
        go_wp2_with (first
          | (go_at_call 26; refine (E7.out _).mono ?_; rintro e wc ⟨rfl, rfl⟩)
          | (go_at_call 13; refine (E8.out _).mono ?_; rintro e w8 ⟨rfl, g8⟩)
          | (go_at_call 22; refine (E9.out _).mono ?_; rintro e wd ⟨rfl, rfl⟩))
        go_roundw
        case rel => exact ⟨dirB d, by rw [HY.out], by have := HLess.out; omega, HN, HFr.out.then_below g8⟩
        case measure =>
          show Y.size < X.size
          rw [HYZ.out, hdz]
          exact HLess.out
  · have hrf : rightB s = false := by simpa using hr
    have c1 : Hid (∀ w, Calls Tryd.prog 14 #[.string (strB s)] w fun e w' => e = .returned (.bool false) ∧ Below w.heap.size w w') := Lib.hid (fun w => by
      by_cases h : s.length ≤ 120
      · have := QrRight_any s (by omega) w
        rwa [hrf] at this
      · exact (QrRight_long s (by omega) w).mono fun e w' ⟨h1, h2⟩ => ⟨h1, h2 ▸ (Fr.refl (fun _ => False) w).below (fun _ _ e => e)⟩)
    have c2 : Hid (∀ w, Calls Tryd.prog 13 #[.string (strB s)] w fun e w' => e = .returned (.bool false) ∧ Below w.heap.size w w') := Lib.hid (fun w => by
      by_cases h : s.length ≤ 120
      · have := RtRight_any s (by omega) w
        rwa [hrf] at this
      · exact (RtRight_long s (by omega) w).mono fun e w' ⟨h1, h2⟩ => ⟨h1, h2 ▸ (Fr.refl (fun _ => False) w).below (fun _ _ e => e)⟩)
    obtain ⟨S, hS⟩ : ∃ J, strB s = J := ⟨_, rfl⟩
    rw [hS] at c1 c2 ⊢
    clear hr hrf hS hs
    go_enter Tryd.func5, Tryd.ntmps5
    go_wp2_with (first
      | (go_at_call 14; refine (c1.out _).mono ?_; rintro e w1 ⟨rfl, g1⟩)
      | (go_at_call 13; refine (c2.out _).mono ?_; rintro e w2 ⟨rfl, g2⟩)
      | (go_at_call 10; refine (works_any _).mono ?_; rintro e w12 ⟨rfl, g12⟩))
    go_ret
    exact ⟨rfl, (((Fr.of_below (S := fun _ => False) g1).then_below g2).then_below g12).below (fun _ _ e => e)⟩
end Go.Proofs.YtnekddpnajgmdaaDoor

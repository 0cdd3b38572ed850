/- What is proved: the walks of the laws RouteFits, RouteTouch, RouteHolds, for every list of patterns. Conditions: the list is there, the texts fit an int. -/
import Derived.Test.YtnekddpnajgmdaaDoorRtt
namespace Go.Proofs.YtnekddpnajgmdaaDoor
open Go.RowKit
set_option linter.unusedVariables false

set_option maxHeartbeats 6400000 in
theorem fits_walk (ps : List (List UInt8)) (s : List UInt8) (hn : ps.length ≤ 9223372036854775807) (hs : s.length ≤ 9223372036854775807) (A : Option Addr) (c : Nat) (w : World) (hl : Lies w A (strV ps)) :
    Calls Tryd.prog 6 #[.slice A ps.length c, .string (strB s)] w fun e w' => e = .returned (.bool true) ∧ Below w.heap.size w w' := by
  have l1 := Lib.hid (fun w => long_any s w)
  by_cases h1 : s.length ≤ 300
  · rw [decide_eq_false (show ¬ 300 < s.length by omega)] at l1
    by_cases h2 : ps.length ≤ 8
    · have l2 := Lib.hid (fun k (hk : k < ps.length) w => long_any (ps.getD k []) w)
      have c1 := Lib.hid (fun k (hk : k < ps.length) (h : (ps.getD k []).length ≤ 300) w => RtFits_any (ps.getD k []) s (by omega) (by omega) w)
      have c2 := Lib.hid (fun k (hk : k < ps.length) (h : (ps.getD k []).length ≤ 300) w => QrFits_any (ps.getD k []) s (by omega) (by omega) w)
      have c3 := Lib.hid (fun (h : ∀ i, i < ps.length → (ps.getD i []).length ≤ 300) w' (f : Fr (fun _ => False) w w') => RtIn_any ps s (by omega) (fun i hi => by have := h i hi; omega) (by omega) A c w' (hl.fr f (fun _ _ e => e)))
      have c4 := Lib.hid (fun (h : ∀ i, i < ps.length → (ps.getD i []).length ≤ 300) w' (f : Fr (fun _ => False) w w') => QrIn_any ps s (by omega) (fun i hi => by have := h i hi; omega) (by omega) A c w' (hl.fr f (fun _ _ e => e)))
      have HL := Lib.hid (fun w' (f : Fr (fun _ => False) w w') => lies_str hl f)
      obtain ⟨b, hb⟩ : ∃ b, inB ps s = b := ⟨_, rfl⟩
      rw [hb] at c3 c4
      obtain ⟨S, hS⟩ : ∃ J, strB s = J := ⟨_, rfl⟩
      rw [hS] at l1 c1 c2 c3 c4 ⊢
      obtain ⟨n, hn'⟩ : ∃ n, ps.length = n := ⟨_, rfl⟩
      rw [hn'] at hn h2 l2 c1 c2 c3 c4 HL ⊢
      have hi8 : ¬ (8 : Int) < n := by omega
      clear hb hS hn' hl hs h1
      go_enter Tryd.func6, Tryd.ntmps6
      go_wp2_with (go_at_call 9; refine (l1.out _).mono ?_; rintro e wb ⟨rfl, rfl⟩)
      go_loopw [5] (fun i wr => ∃ k : Nat, k ≤ n ∧ i = .int .i64 k ∧ Hid (∀ q, q < k → (ps.getD q []).length ≤ 300) ∧ Fr (fun _ => False) w wr) (fun i _ => n - (intOf i).toNat)
      case atStart => exact ⟨0, by omega, rfl, Lib.hid (fun q h => by omega), Fr.refl _ _⟩
      case round =>
        obtain ⟨k, hk, rfl, hI, hfr⟩ := hrel
        have HFr := Lib.hid hfr
        by_cases hlt : k < n
        · have hki : (k : Int) < n := by omega
          obtain ⟨bb, o, rfl, hc⟩ := HL.out wr hfr k hlt
          have e2 := l2.out k hlt
          by_cases hlg : (ps.getD k []).length ≤ 300
          · rw [decide_eq_false (show ¬ 300 < (ps.getD k []).length by omega)] at e2
            have e3 := c1.out k hlt hlg
            have e4 := c2.out k hlt hlg
            have HLG := Lib.hid hlg
            obtain ⟨x, hx⟩ : ∃ x, ps.getD k [] = x := ⟨_, rfl⟩
            have HX := Lib.hid hx
            have hcq : ∀ q : Later wr, q.w'.cell? ⟨bb, o + k, none⟩ = some (.string (strB (ps.getD k []))) := fun q => q.fr.cell hc (fun e => e)
            rw [hx] at hc e2 e3 e4 hcq
            obtain ⟨X, hX⟩ : ∃ S, strB x = S := ⟨_, rfl⟩
            rw [hX] at hc e2 e3 e4 hcq
            obtain ⟨v, hv⟩ : ∃ v, fitB x s = v := ⟨_, rfl⟩
            rw [hv] at e3 e4
            have E2 := Lib.hid e2
            have E3 := Lib.hid e3
            have E4 := Lib.hid e4
            clear hx hX hv e2 e3 e4 hfr hlg
            go_wp2_with (go_at_call 9; refine (E2.out _).mono ?_; rintro e wb ⟨rfl, rfl⟩)
            refine wp_region_later (w0 := wr) (Fr.refl _ _) (by kernel_rfl) (by kernel_rfl) ?_
            repeat (quiet_step (first
              | (go_at_call 28; refine Calls.later_of (E3.out _))
              | (go_at_call 29; refine Calls.later_of (E4.out _))))
            refine wpQuiet_nil ?_
            intro _ hw'
            obtain ⟨q, hw''⟩ := hw'
            subst hw''
            go_wp2_with fail
            go_roundw
            case rel => exact ⟨k + 1, by omega, by go_num, Lib.hid (fun q h => (by omega : q < k ∨ q = k).elim (hI.out q) (fun e => by rw [e]; exact HLG.out)), HFr.out.trans q.fr (fun _ _ e => e)⟩
            case measure => simp [intOf]; omega
          · rw [decide_eq_true (show 300 < (ps.getD k []).length by omega)] at e2
            obtain ⟨X, hX⟩ : ∃ S, strB (ps.getD k []) = S := ⟨_, rfl⟩
            rw [hX] at hc e2
            have E2 := Lib.hid e2
            clear hX e2 hfr hlg
            go_wp2_with (first
              | (go_at_call 9; refine (E2.out _).mono ?_; rintro e wb ⟨rfl, rfl⟩)
              | (go_at_call 10; refine (works_any _).mono ?_; rintro e w12 ⟨rfl, g12⟩))
            go_ret
            exact ⟨rfl, (HFr.out.then_below g12).below (fun _ _ e => e)⟩
        · obtain rfl : k = n := by omega
          have e3 := c3.out hI.out
          have e4 := c4.out hI.out
          have E3 := Lib.hid e3
          have E4 := Lib.hid e4
          clear e3 e4 hfr
          go_wp2_with (first
            | (go_at_call 30; refine (E3.out _ HFr.out).mono ?_; rintro e w1 ⟨rfl, g1⟩
               have F1 := Lib.hid (HFr.out.then_below g1))
            | (go_at_call 31; refine (E4.out _ F1.out).mono ?_; rintro e w2 ⟨rfl, g2⟩
               have F2 := Lib.hid (F1.out.then_below g2))
            | (go_at_call 10; refine (works_any _).mono ?_; rintro e w12 ⟨rfl, g12⟩))
          go_ret
          exact ⟨by simp, (F2.out.then_below g12).below (fun _ _ e => e)⟩
    · have hi8 : (8 : Int) < ps.length := by omega
      obtain ⟨S, hS⟩ : ∃ J, strB s = J := ⟨_, rfl⟩
      rw [hS] at l1 ⊢
      clear hS h1 h2 hs hl
      go_enter Tryd.func6, Tryd.ntmps6
      go_wp2_with (first
        | (go_at_call 9; refine (l1.out _).mono ?_; rintro e wb ⟨rfl, rfl⟩)
        | (go_at_call 10; refine (works_any _).mono ?_; rintro e w12 ⟨rfl, g12⟩))
      go_ret
      exact ⟨rfl, g12⟩
  · rw [decide_eq_true (show 300 < s.length by omega)] at l1
    obtain ⟨S, hS⟩ : ∃ J, strB s = J := ⟨_, rfl⟩
    rw [hS] at l1 ⊢
    clear hS h1 hs hl
    go_enter Tryd.func6, Tryd.ntmps6
    go_wp2_with (first
      | (go_at_call 9; refine (l1.out _).mono ?_; rintro e wb ⟨rfl, rfl⟩)
      | (go_at_call 10; refine (works_any _).mono ?_; rintro e w12 ⟨rfl, g12⟩))
    go_ret
    exact ⟨rfl, g12⟩

set_option maxHeartbeats 6400000 in
theorem touch_walk (ps : List (List UInt8)) (s : List UInt8) (hn : ps.length ≤ 9223372036854775807) (hs : s.length ≤ 9223372036854775807) (A : Option Addr) (c : Nat) (w : World) (hl : Lies w A (strV ps)) :
    Calls Tryd.prog 7 #[.slice A ps.length c, .string (strB s)] w fun e w' => e = .returned (.bool true) ∧ Below w.heap.size w w' := by
  have l1 := Lib.hid (fun w => long_any s w)
  by_cases h1 : s.length ≤ 300
  · rw [decide_eq_false (show ¬ 300 < s.length by omega)] at l1
    by_cases h2 : ps.length ≤ 8
    · have c0 := Lib.hid (fun w => QrParts_any s (by omega) w)
      have l2 := Lib.hid (fun k (hk : k < ps.length) w => long_any (ps.getD k []) w)
      have c3 := Lib.hid (fun (h : ∀ i, i < ps.length → (ps.getD i []).length ≤ 300) w' (f : Fr (fun _ => False) w w') => RtTouch_any ps s (by omega) (fun i hi => by have := h i hi; omega) (by omega) A c w' (hl.fr f (fun _ _ e => e)))
      have c4 := Lib.hid (fun (h : ∀ i, i < ps.length → (ps.getD i []).length ≤ 300) w' (f : Fr (fun _ => False) w w') => QrTouch_any ps s (by omega) (fun i hi => by have := h i hi; omega) (by omega) A c w' (hl.fr f (fun _ _ e => e)))
      have HL := Lib.hid (fun w' (f : Fr (fun _ => False) w w') => lies_str hl f)
      have hpl := prt_len s
      obtain ⟨b, hb⟩ : ∃ b, touchB ps s = b := ⟨_, rfl⟩
      rw [hb] at c3 c4
      obtain ⟨S, hS⟩ : ∃ J, strB s = J := ⟨_, rfl⟩
      rw [hS] at l1 c0 c3 c4 ⊢
      obtain ⟨n, hn'⟩ : ∃ n, ps.length = n := ⟨_, rfl⟩
      rw [hn'] at hn h2 l2 c3 c4 HL ⊢
      obtain ⟨m, hm⟩ : ∃ n, (prt s).length = n := ⟨_, rfl⟩
      rw [hm] at c0 hpl
      have hi8 : ¬ (8 : Int) < n := by omega
      have hm1 : m ≤ 301 := by omega
      clear hb hS hn' hl hs hm hpl h1
      go_enter Tryd.func7, Tryd.ntmps7
      by_cases hm8 : m ≤ 8
      · have hj8 : ¬ (8 : Int) < m := by omega
        go_wp2_with (first
          | (go_at_call 9; refine (l1.out _).mono ?_; rintro e wb ⟨rfl, rfl⟩)
          | (go_at_call 19; refine (c0.out _).mono ?_; rintro e w0 ⟨A0, k0, rfl, _, _, g0⟩))
        have HG := Lib.hid (Fr.of_below (S := fun _ => False) g0)
        clear g0
        go_loopw [5] (fun i wr => ∃ k : Nat, k ≤ n ∧ i = .int .i64 k ∧ Hid (∀ q, q < k → (ps.getD q []).length ≤ 300) ∧ Fr (fun _ => False) w wr) (fun i _ => n - (intOf i).toNat)
        case atStart => exact ⟨0, by omega, rfl, Lib.hid (fun q h => by omega), HG.out⟩
        case round =>
          obtain ⟨k, hk, rfl, hI, hfr⟩ := hrel
          have HFr := Lib.hid hfr
          by_cases hlt : k < n
          · have hki : (k : Int) < n := by omega
            obtain ⟨bb, o, rfl, hc⟩ := HL.out wr hfr k hlt
            have e2 := l2.out k hlt
            by_cases hlg : (ps.getD k []).length ≤ 300
            · rw [decide_eq_false (show ¬ 300 < (ps.getD k []).length by omega)] at e2
              have HLG := Lib.hid hlg
              obtain ⟨X, hX⟩ : ∃ S, strB (ps.getD k []) = S := ⟨_, rfl⟩
              rw [hX] at hc e2
              have E2 := Lib.hid e2
              clear hX e2 hfr hlg
              go_wp2_with (go_at_call 9; refine (E2.out _).mono ?_; rintro e wb ⟨rfl, rfl⟩)
              go_roundw
              case rel => exact ⟨k + 1, by omega, by go_num, Lib.hid (fun q h => (by omega : q < k ∨ q = k).elim (hI.out q) (fun e => by rw [e]; exact HLG.out)), HFr.out⟩
              case measure => simp [intOf]; omega
            · rw [decide_eq_true (show 300 < (ps.getD k []).length by omega)] at e2
              obtain ⟨X, hX⟩ : ∃ S, strB (ps.getD k []) = S := ⟨_, rfl⟩
              rw [hX] at hc e2
              have E2 := Lib.hid e2
              clear hX e2 hfr hlg
              go_wp2_with (first
                | (go_at_call 9; refine (E2.out _).mono ?_; rintro e wb ⟨rfl, rfl⟩)
                | (go_at_call 10; refine (works_any _).mono ?_; rintro e w12 ⟨rfl, g12⟩))
              go_ret
              exact ⟨rfl, (HFr.out.then_below g12).below (fun _ _ e => e)⟩
          · obtain rfl : k = n := by omega
            have e3 := c3.out hI.out
            have e4 := c4.out hI.out
            have E3 := Lib.hid e3
            have E4 := Lib.hid e4
            clear e3 e4 hfr
            go_wp2_with (first
              | (go_at_call 32; refine (E3.out _ HFr.out).mono ?_; rintro e w1 ⟨rfl, g1⟩
                 have F1 := Lib.hid (HFr.out.then_below g1))
              | (go_at_call 33; refine (E4.out _ F1.out).mono ?_; rintro e w2 ⟨rfl, g2⟩
                 have F2 := Lib.hid (F1.out.then_below g2))
              | (go_at_call 10; refine (works_any _).mono ?_; rintro e w12 ⟨rfl, g12⟩))
            go_ret
            exact ⟨by simp, (F2.out.then_below g12).below (fun _ _ e => e)⟩
      · have hj8 : (8 : Int) < m := by omega
        go_wp2_with (first
          | (go_at_call 9; refine (l1.out _).mono ?_; rintro e wb ⟨rfl, rfl⟩)
          | (go_at_call 19; refine (c0.out _).mono ?_; rintro e w0 ⟨A0, k0, rfl, _, _, g0⟩)
          | (go_at_call 10; refine (works_any _).mono ?_; rintro e w12 ⟨rfl, g12⟩))
        go_ret
        exact ⟨rfl, ((Fr.of_below (S := fun _ => False) g0).then_below g12).below (fun _ _ e => e)⟩
    · have hi8 : (8 : Int) < ps.length := by omega
      obtain ⟨S, hS⟩ : ∃ J, strB s = J := ⟨_, rfl⟩
      rw [hS] at l1 ⊢
      clear hS h1 h2 hs hl
      go_enter Tryd.func7, Tryd.ntmps7
      go_wp2_with (first
        | (go_at_call 9; refine (l1.out _).mono ?_; rintro e wb ⟨rfl, rfl⟩)
        | (go_at_call 10; refine (works_any _).mono ?_; rintro e w12 ⟨rfl, g12⟩))
      go_ret
      exact ⟨rfl, g12⟩
  · rw [decide_eq_true (show 300 < s.length by omega)] at l1
    obtain ⟨S, hS⟩ : ∃ J, strB s = J := ⟨_, rfl⟩
    rw [hS] at l1 ⊢
    clear hS h1 hs hl
    go_enter Tryd.func7, Tryd.ntmps7
    go_wp2_with (first
      | (go_at_call 9; refine (l1.out _).mono ?_; rintro e wb ⟨rfl, rfl⟩)
      | (go_at_call 10; refine (works_any _).mono ?_; rintro e w12 ⟨rfl, g12⟩))
    go_ret
    exact ⟨rfl, g12⟩

set_option maxHeartbeats 6400000 in
theorem holds_walk (ps : List (List UInt8)) (s t : List UInt8) (hn : ps.length ≤ 9223372036854775807) (hs : s.length ≤ 9223372036854775807) (ht : t.length ≤ 9223372036854775807) (A : Option Addr) (c : Nat) (w : World) (hl : Lies w A (strV ps)) :
    Calls Tryd.prog 8 #[.slice A ps.length c, .string (strB s), .string (strB t)] w fun e w' => e = .returned (.bool true) ∧ Below w.heap.size w w' := by
  have l1 := Lib.hid (fun w => long_any s w)
  have l3 := Lib.hid (fun w => long_any t w)
  by_cases h1 : s.length ≤ 300
  · rw [decide_eq_false (show ¬ 300 < s.length by omega)] at l1
    by_cases h3 : t.length ≤ 300
    · rw [decide_eq_false (show ¬ 300 < t.length by omega)] at l3
      by_cases h2 : ps.length ≤ 8
      · have l2 := Lib.hid (fun k (hk : k < ps.length) w => long_any (ps.getD k []) w)
        have hjl := join_len s t
        have c3 := Lib.hid (fun (h : ∀ i, i < ps.length → (ps.getD i []).length ≤ 300) w' (f : Fr (fun _ => False) w w') => RtIn_any ps s (by omega) (fun i hi => by have := h i hi; omega) (by omega) A c w' (hl.fr f (fun _ _ e => e)))
        have c4 := Lib.hid (fun (h : ∀ i, i < ps.length → (ps.getD i []).length ≤ 300) w' (f : Fr (fun _ => False) w w') => RtIn_any ps (joinB s t) (by omega) (fun i hi => by have := h i hi; omega) (by omega) A c w' (hl.fr f (fun _ _ e => e)))
        have c5 := Lib.hid (fun (h : ∀ i, i < ps.length → (ps.getD i []).length ≤ 300) d (hd : d.length ≤ s.length) w' (f : Fr (fun _ => False) w w') => RtTouch_any ps d (by omega) (fun i hi => by have := h i hi; omega) (by omega) A c w' (hl.fr f (fun _ _ e => e)))
        have c6 := Lib.hid (fun w => QrJoin_any s t (by omega) w)
        have c7 := Lib.hid (fun w => QrRight_any (joinB s t) (by omega) w)
        have c8 := Lib.hid (fun d (hd : d.length ≤ s.length) w => QrDir_any d (by omega) w)
        have HL := Lib.hid (fun w' (f : Fr (fun _ => False) w w') => lies_str hl f)
        have HMore := Lib.hid (fun h hr => in_more (ps := ps) (s := s) (m := t) h hr)
        have HTa := Lib.hid (fun d c (e : s = d ++ 47 :: c) (h : inB ps s = true) (hd : d ≠ []) => touch_above (ps := ps) (d := d) (c := c) (e ▸ h) hd)
        have HTr := Lib.hid (fun h => touch_root (ps := ps) (s := s) h)
        have HNe : Hid (inB ps s = true → s ≠ []) := Lib.hid (fun h => by
          simp only [inB, Bool.and_eq_true] at h
          exact ((right_iff s).1 h.1).ne)
        have HAb := Lib.hid (fun d => above_dir (s := s) (d := d))
        have HSs := Lib.hid strB_list
        have HSz := Lib.hid strB_size
        obtain ⟨S, hS⟩ : ∃ J, strB s = J := ⟨_, rfl⟩
        have HSS := Lib.hid hS
        obtain ⟨T, hT⟩ : ∃ J, strB t = J := ⟨_, rfl⟩
        obtain ⟨J, hJ⟩ : ∃ J, strB (joinB s t) = J := ⟨_, rfl⟩
        rw [hS] at l1 c3 c6 ⊢
        rw [hT] at l3 c6 ⊢
        rw [hJ] at c4 c6 c7
        obtain ⟨m, hm⟩ : ∃ n, s.length = n := ⟨_, rfl⟩
        have HMm := Lib.hid hm
        rw [hm] at c5 c8 hs h1
        obtain ⟨n, hn'⟩ : ∃ n, ps.length = n := ⟨_, rfl⟩
        rw [hn'] at hn h2 l2 c3 c4 c5 HL ⊢
        have hi8 : ¬ (8 : Int) < n := by omega
        clear hS hT hJ hm hn' hl hjl ht h3
        go_enter Tryd.func8, Tryd.ntmps8
        go_wp2_with (first
          | (have M := k1; go_at_call 9; refine (l3.out _).mono ?_; rintro e wb ⟨rfl, rfl⟩)
          | (go_at_call 9; refine (l1.out _).mono ?_; rintro e wb ⟨rfl, k1⟩; subst k1; have k1 := True.intro))
        clear k1
        go_loopw [7] (fun i wr => ∃ k : Nat, k ≤ n ∧ i = .int .i64 k ∧ Hid (∀ q, q < k → (ps.getD q []).length ≤ 300) ∧ Fr (fun _ => False) w wr) (fun i _ => n - (intOf i).toNat)
        case atStart => exact ⟨0, by omega, rfl, Lib.hid (fun q h => by omega), Fr.refl _ _⟩
        case round =>
          obtain ⟨k, hk, rfl, hI, hfr⟩ := hrel
          have HFr := Lib.hid hfr
          by_cases hlt : k < n
          · have hki : (k : Int) < n := by omega
            obtain ⟨bb, o, rfl, hc⟩ := HL.out wr hfr k hlt
            have e2 := l2.out k hlt
            by_cases hlg : (ps.getD k []).length ≤ 300
            · rw [decide_eq_false (show ¬ 300 < (ps.getD k []).length by omega)] at e2
              have HLG := Lib.hid hlg
              obtain ⟨X, hX⟩ : ∃ S, strB (ps.getD k []) = S := ⟨_, rfl⟩
              rw [hX] at hc e2
              have E2 := Lib.hid e2
              clear hX e2 hfr hlg
              go_wp2_with (go_at_call 9; refine (E2.out _).mono ?_; rintro e wb ⟨rfl, rfl⟩)
              go_roundw
              case rel => exact ⟨k + 1, by omega, by go_num, Lib.hid (fun q h => (by omega : q < k ∨ q = k).elim (hI.out q) (fun e => by rw [e]; exact HLG.out)), HFr.out⟩
              case measure => simp [intOf]; omega
            · rw [decide_eq_true (show 300 < (ps.getD k []).length by omega)] at e2
              obtain ⟨X, hX⟩ : ∃ S, strB (ps.getD k []) = S := ⟨_, rfl⟩
              rw [hX] at hc e2
              have E2 := Lib.hid e2
              clear hX e2 hfr hlg
              go_wp2_with (first
                | (go_at_call 9; refine (E2.out _).mono ?_; rintro e wb ⟨rfl, rfl⟩)
                | (go_at_call 10; refine (works_any _).mono ?_; rintro e w12 ⟨rfl, g12⟩))
              go_ret
              exact ⟨rfl, (HFr.out.then_below g12).below (fun _ _ e => e)⟩
          · obtain rfl : k = n := by omega
            have E3 := Lib.hid (c3.out hI.out)
            have E4 := Lib.hid (c4.out hI.out)
            have E5 := Lib.hid (c5.out hI.out)
            clear hfr
            by_cases hin : inB ps s = true
            · have e3 := E3.out
              rw [hin] at e3
              have E3' := Lib.hid e3
              have HNe' := Lib.hid (HNe.out hin)
              have HR := Lib.hid (fun hr => HMore.out hin hr)
              have HA0 := Lib.hid (HAb.out s (.inl rfl) HNe'.out)
              have HT0 := Lib.hid (HTr.out hin)
              have HTd := Lib.hid (fun d c e hd => HTa.out d c e hin hd)
              have e8 := c8.out s (by have := HMm.out; omega)
              obtain ⟨D, hD⟩ : ∃ D, dirB s = D := ⟨_, rfl⟩
              have HDl : Hid (D.length ≤ m) := Lib.hid (by rw [← hD, ← HMm.out]; exact dir_le s)
              rw [hD] at e8 HA0
              rw [HSS.out] at e8
              obtain ⟨DS, hDS⟩ : ∃ D', strB D = D' := ⟨_, rfl⟩
              have HDS := Lib.hid hDS
              rw [hDS] at e8
              have E8 := Lib.hid e8
              obtain ⟨b, hb⟩ : ∃ b, rightB (joinB s t) = b := ⟨_, rfl⟩
              rw [hb] at c7 HR
              obtain ⟨v, hv⟩ : ∃ v, inB ps (joinB s t) = v := ⟨_, rfl⟩
              have e4 := E4.out
              rw [hv] at e4 HR
              have E4' := Lib.hid e4
              have hbv : b = true → v = true := HR.out
              clear e3 hD hDS e8 hb hv e4 hin
              (
                cases b
                · clear hbv
                  go_wp2_with (first
                    | (go_at_call 30; refine (E3'.out _ HFr.out).mono ?_; rintro e w1 ⟨rfl, g1⟩)
                    | (go_at_call 21; refine (c6.out _).mono ?_; rintro e w2 ⟨rfl, rfl⟩)
                    | (go_at_call 14; refine (c7.out _).mono ?_; rintro e w3 ⟨rfl, g3⟩)
                    | (go_at_call 23; refine (E8.out _).mono ?_; rintro e w4 ⟨rfl, rfl⟩))
                  have HF0 := Lib.hid ((HFr.out.then_below g1).then_below g3)
                  clear g1 g3
                  (
                    go_loopw [9] (fun x wr => ∃ d : List UInt8, x = .string (strB d) ∧ d.length ≤ m ∧ Hid (Above s d) ∧ Fr (fun _ => False) w wr) (fun x _ => match x with | .string b => b.size | _ => 0)
                    case atStart => exact ⟨D, by rw [HDS.out], HDl.out, HA0, HF0.out⟩
                    case round =>
                      obtain ⟨d, rfl, hdn, hA, hfr⟩ := hrel
                      have HFd := Lib.hid hfr
                      have hdl := HSs.out d
                      have hdz := HSz.out d
                      by_cases hd : d = []
                      · have e9 := E5.out [] (by simp)
                        rw [HT0.out] at e9
                        have E9 : Hid (∀ w', Fr (fun _ => False) w w' → Calls Tryd.prog 32 #[.slice A k c, .string (ByteArray.mk #[])] w' fun e w'' => e = .returned (.bool true) ∧ Below w'.heap.size w' w'') := Lib.hid e9
                        obtain ⟨X, hX⟩ : ∃ X, strB d = X := ⟨_, rfl⟩
                        rw [hX] at hdl hdz ⊢
                        clear hfr hX e9
                        go_wp2_with (first
                          | (go_at_call 32; refine (E9.out _ HFd.out).mono ?_; rintro e w7 ⟨rfl, g7⟩)
                          | (go_at_call 10; refine (works_any _).mono ?_; rintro e w12 ⟨rfl, g12⟩))
                        go_ret
                        exact ⟨rfl, ((HFd.out.then_below g7).then_below g12).below (fun _ _ e => e)⟩
                      · have hd' : d.isEmpty = false := by simpa using hd
                        have ht : touchB ps d = true := hA.out.elim (fun h => absurd h hd) (fun ⟨c', hc'⟩ => HTd.out d c' hc' hd)
                        have e9 := E5.out d hdn
                        rw [ht] at e9
                        have e10 := c8.out d hdn
                        have HN := Lib.hid (HAb.out d (.inr hA.out) hd)
                        have HLess := Lib.hid (dir_less hd)
                        obtain ⟨X, hX⟩ : ∃ X, strB d = X := ⟨_, rfl⟩
                        rw [hX] at hdl hdz e9 e10 ⊢
                        obtain ⟨Y, hY⟩ : ∃ X, strB (dirB d) = X := ⟨_, rfl⟩
                        have HY := Lib.hid hY
                        have hyz := HSz.out (dirB d)
                        rw [hY] at e10 hyz
                        have E9 := Lib.hid e9
                        have E10 := Lib.hid e10
                        have HYZ := Lib.hid hyz
                        clear hfr hX hY e9 e10 hyz ht
                        go_wp2_with (first
                          | (go_at_call 32; refine (E9.out _ HFd.out).mono ?_; rintro e w7 ⟨rfl, g7⟩)
                          | (go_at_call 23; refine (E10.out _).mono ?_; rintro e w8 ⟨rfl, rfl⟩))
                        go_roundw
                        case rel => exact ⟨dirB d, by rw [HY.out], by have := HLess.out; omega, HN, HFd.out.then_below g7⟩
                        case measure =>
                          show Y.size < X.size
                          rw [HYZ.out, hdz]
                          exact HLess.out)
                · have hv := hbv rfl
                  subst hv
                  clear hbv
                  go_wp2_with (first
                    | (have M := g3
                       have HF3 := Lib.hid ((HFr.out.then_below g1).then_below g3)
                       go_at_call 30; refine (E4'.out _ HF3.out).mono ?_; rintro e w5 ⟨rfl, g5⟩)
                    | (go_at_call 30; refine (E3'.out _ HFr.out).mono ?_; rintro e w1 ⟨rfl, g1⟩)
                    | (go_at_call 21; refine (c6.out _).mono ?_; rintro e w2 ⟨rfl, rfl⟩)
                    | (go_at_call 14; refine (c7.out _).mono ?_; rintro e w3 ⟨rfl, g3⟩)
                    | (go_at_call 23; refine (E8.out _).mono ?_; rintro e w4 ⟨rfl, rfl⟩))
                  have HF0 := Lib.hid (((HFr.out.then_below g1).then_below g3).then_below g5)
                  clear g1 g3 g5
                  (
                    go_loopw [9] (fun x wr => ∃ d : List UInt8, x = .string (strB d) ∧ d.length ≤ m ∧ Hid (Above s d) ∧ Fr (fun _ => False) w wr) (fun x _ => match x with | .string b => b.size | _ => 0)
                    case atStart => exact ⟨D, by rw [HDS.out], HDl.out, HA0, HF0.out⟩
                    case round =>
                      obtain ⟨d, rfl, hdn, hA, hfr⟩ := hrel
                      have HFd := Lib.hid hfr
                      have hdl := HSs.out d
                      have hdz := HSz.out d
                      by_cases hd : d = []
                      · have e9 := E5.out [] (by simp)
                        rw [HT0.out] at e9
                        have E9 : Hid (∀ w', Fr (fun _ => False) w w' → Calls Tryd.prog 32 #[.slice A k c, .string (ByteArray.mk #[])] w' fun e w'' => e = .returned (.bool true) ∧ Below w'.heap.size w' w'') := Lib.hid e9
                        obtain ⟨X, hX⟩ : ∃ X, strB d = X := ⟨_, rfl⟩
                        rw [hX] at hdl hdz ⊢
                        clear hfr hX e9
                        go_wp2_with (first
                          | (go_at_call 32; refine (E9.out _ HFd.out).mono ?_; rintro e w7 ⟨rfl, g7⟩)
                          | (go_at_call 10; refine (works_any _).mono ?_; rintro e w12 ⟨rfl, g12⟩))
                        go_ret
                        exact ⟨rfl, ((HFd.out.then_below g7).then_below g12).below (fun _ _ e => e)⟩
                      · have hd' : d.isEmpty = false := by simpa using hd
                        have ht : touchB ps d = true := hA.out.elim (fun h => absurd h hd) (fun ⟨c', hc'⟩ => HTd.out d c' hc' hd)
                        have e9 := E5.out d hdn
                        rw [ht] at e9
                        have e10 := c8.out d hdn
                        have HN := Lib.hid (HAb.out d (.inr hA.out) hd)
                        have HLess := Lib.hid (dir_less hd)
                        obtain ⟨X, hX⟩ : ∃ X, strB d = X := ⟨_, rfl⟩
                        rw [hX] at hdl hdz e9 e10 ⊢
                        obtain ⟨Y, hY⟩ : ∃ X, strB (dirB d) = X := ⟨_, rfl⟩
                        have HY := Lib.hid hY
                        have hyz := HSz.out (dirB d)
                        rw [hY] at e10 hyz
                        have E9 := Lib.hid e9
                        have E10 := Lib.hid e10
                        have HYZ := Lib.hid hyz
                        clear hfr hX hY e9 e10 hyz ht
                        go_wp2_with (first
                          | (go_at_call 32; refine (E9.out _ HFd.out).mono ?_; rintro e w7 ⟨rfl, g7⟩)
                          | (go_at_call 23; refine (E10.out _).mono ?_; rintro e w8 ⟨rfl, rfl⟩))
                        go_roundw
                        case rel => exact ⟨dirB d, by rw [HY.out], by have := HLess.out; omega, HN, HFd.out.then_below g7⟩
                        case measure =>
                          show Y.size < X.size
                          rw [HYZ.out, hdz]
                          exact HLess.out))
            · have hin' : inB ps s = false := by simpa using hin
              have e3 := E3.out
              rw [hin'] at e3
              have E3' := Lib.hid e3
              clear e3 hin hin'
              go_wp2_with (first
                | (go_at_call 30; refine (E3'.out _ HFr.out).mono ?_; rintro e w1 ⟨rfl, g1⟩)
                | (go_at_call 10; refine (works_any _).mono ?_; rintro e w12 ⟨rfl, g12⟩))
              go_ret
              exact ⟨rfl, ((HFr.out.then_below g1).then_below g12).below (fun _ _ e => e)⟩
      · have hi8 : (8 : Int) < ps.length := by omega
        (
          obtain ⟨S, hS⟩ : ∃ J, strB s = J := ⟨_, rfl⟩
          obtain ⟨T, hT⟩ : ∃ J, strB t = J := ⟨_, rfl⟩
          rw [hS] at l1
          rw [hT] at l3
          rw [hS, hT]
          clear hS hT h1 hs ht hl
          go_enter Tryd.func8, Tryd.ntmps8
          go_wp2_with (first
            | (have M := k1; go_at_call 9; refine (l3.out _).mono ?_; rintro e wb ⟨rfl, rfl⟩)
            | (go_at_call 9; refine (l1.out _).mono ?_; rintro e wb ⟨rfl, k1⟩; subst k1; have k1 := True.intro)
            | (go_at_call 10; refine (works_any _).mono ?_; rintro e w12 ⟨rfl, g12⟩))
          go_ret
          exact ⟨rfl, g12⟩)
    · rw [decide_eq_true (show 300 < t.length by omega)] at l3
      (
        obtain ⟨S, hS⟩ : ∃ J, strB s = J := ⟨_, rfl⟩
        obtain ⟨T, hT⟩ : ∃ J, strB t = J := ⟨_, rfl⟩
        rw [hS] at l1
        rw [hT] at l3
        rw [hS, hT]
        clear hS hT h1 hs ht hl
        go_enter Tryd.func8, Tryd.ntmps8
        go_wp2_with (first
          | (have M := k1; go_at_call 9; refine (l3.out _).mono ?_; rintro e wb ⟨rfl, rfl⟩)
          | (go_at_call 9; refine (l1.out _).mono ?_; rintro e wb ⟨rfl, k1⟩; subst k1; have k1 := True.intro)
          | (go_at_call 10; refine (works_any _).mono ?_; rintro e w12 ⟨rfl, g12⟩))
        go_ret
        exact ⟨rfl, g12⟩)
  · rw [decide_eq_true (show 300 < s.length by omega)] at l1
    (
      obtain ⟨S, hS⟩ : ∃ J, strB s = J := ⟨_, rfl⟩
      obtain ⟨T, hT⟩ : ∃ J, strB t = J := ⟨_, rfl⟩
      rw [hS] at l1
      rw [hT] at l3
      rw [hS, hT]
      clear hS hT h1 hs ht hl
      go_enter Tryd.func8, Tryd.ntmps8
      go_wp2_with (first
        | (have M := k1; go_at_call 9; refine (l3.out _).mono ?_; rintro e wb ⟨rfl, rfl⟩)
        | (go_at_call 9; refine (l1.out _).mono ?_; rintro e wb ⟨rfl, k1⟩; subst k1; have k1 := True.intro)
        | (go_at_call 10; refine (works_any _).mono ?_; rintro e w12 ⟨rfl, g12⟩))
      go_ret
      exact ⟨rfl, g12⟩)
end Go.Proofs.YtnekddpnajgmdaaDoor

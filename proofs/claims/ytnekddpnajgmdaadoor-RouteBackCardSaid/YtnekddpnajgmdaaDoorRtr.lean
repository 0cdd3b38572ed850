/- What is proved: whether a pattern fits a path, whether a path is in patterns, what is touched, by the document. Conditions: the list is there, the texts are not too long for any machine. -/
import Derived.Test.YtnekddpnajgmdaaDoorRtq
namespace Go.Proofs.YtnekddpnajgmdaaDoor
open Go.RowKit
set_option linter.unusedVariables false

theorem fit_yes {pat s : List UInt8} {n : Nat} (h1 : patB pat = true) (h2 : rightB s = true) (hn : 1 ≤ n) (hl : n ≤ (prt s).length) (h : standB (prt pat) ((prt s).take n) = true) : fitB pat s = true := (fit_iff pat s).2 ⟨h1, h2, n, hn, hl, h⟩
theorem fit_none {pat s : List UInt8} (h : ∀ n, 1 ≤ n → n ≤ (prt s).length → standB (prt pat) ((prt s).take n) = false) : fitB pat s = false := by
  rw [← Bool.not_eq_true, fit_iff]
  rintro ⟨_, _, n, h1, h2, h3⟩
  rw [h n h1 h2] at h3
  cases h3
theorem fit_first {pat s : List UInt8} (h : patB pat = false) : fitB pat s = false := by rw [fitB, h]; rfl
theorem fit_second {pat s : List UInt8} (h : rightB s = false) : fitB pat s = false := by rw [fitB, h, Bool.and_false]; rfl

set_option maxHeartbeats 6400000 in
theorem QrFits_any (pat s : List UInt8) (hp : pat.length ≤ 300000) (hs : s.length ≤ 300000) (w : World) : Calls Tryd.prog 29 #[.string (strB pat), .string (strB s)] w fun e w' => e = .returned (.bool (fitB pat s)) ∧ Below w.heap.size w w' := by
  have c1 := Lib.hid (fun w => QrPattern_any pat (by omega) w)
  have c2 := Lib.hid (fun w => QrRight_any s (by omega) w)
  have c3 := Lib.hid (fun w => QrParts_addr s (by omega) w)
  have c4 := Lib.hid (fun w => QrParts_addr pat (by omega) w)
  have c5 := Lib.hid (fun k (hk : k ≤ (prt s).length) A A' c c' w (hc' : (prt pat).length ≤ c') (hc : (prt s).length ≤ c) (hl' : Lies w A' (strV (prt pat))) (hl : Lies w A (strV (prt s))) => (by
    have := Qrstands_any (prt pat) ((prt s).take k) A A' c c' w (Small.prt hp) (Small.prt hs |>.take k) hc' (by rw [List.length_take]; omega) hl' (hl.take k)
    rwa [List.length_take, Nat.min_eq_left hk] at this : Calls Tryd.prog 47 #[.slice A' (prt pat).length c', .slice A k c] w fun e w' => e = .returned (.bool (standB (prt pat) ((prt s).take k))) ∧ Below w.heap.size w w'))
  have HY := Lib.hid (fun n => fit_yes (pat := pat) (s := s) (n := n))
  have HNo := Lib.hid (fit_none (pat := pat) (s := s))
  have H1 := Lib.hid (fit_first (pat := pat) (s := s))
  have H2 := Lib.hid (fit_second (pat := pat) (s := s))
  have hnb := prt_len s
  obtain ⟨r, hr⟩ : ∃ r, fitB pat s = r := ⟨_, rfl⟩
  rw [hr] at HY HNo H1 H2 ⊢
  obtain ⟨n, hn⟩ : ∃ n, (prt s).length = n := ⟨_, rfl⟩
  rw [hn] at c3 c5 HY HNo hnb
  obtain ⟨m, hm⟩ : ∃ n, (prt pat).length = n := ⟨_, rfl⟩
  rw [hm] at c4 c5
  obtain ⟨b1, hb1⟩ : ∃ b, patB pat = b := ⟨_, rfl⟩
  obtain ⟨b2, hb2⟩ : ∃ b, rightB s = b := ⟨_, rfl⟩
  rw [hb1] at c1 H1 HY
  rw [hb2] at c2 H2 HY
  obtain ⟨S, hS⟩ : ∃ S, strB s = S := ⟨_, rfl⟩
  obtain ⟨T, hT⟩ : ∃ S, strB pat = S := ⟨_, rfl⟩
  rw [hS] at c2 c3 ⊢
  rw [hT] at c1 c4 ⊢
  have hn1 : n ≤ 300001 := by omega
  obtain ⟨PS, hPS⟩ : ∃ x, prt s = x := ⟨_, rfl⟩
  rw [hPS] at c3 c5 HY HNo
  clear hr hn hm hb1 hb2 hS hT hPS hnb hp hs
  go_enter Tryd.func29, Tryd.ntmps29
  cases b1
  · go_wp2_with (go_at_call 16; refine (c1.out _).mono ?_; rintro e w1 ⟨rfl, g1⟩)
    go_ret
    exact ⟨by rw [H1.out (by simp)]; rfl, g1⟩
  · cases b2
    · go_wp2_with (first
        | (go_at_call 16; refine (c1.out _).mono ?_; rintro e w1 ⟨rfl, g1⟩)
        | (go_at_call 14; refine (c2.out _).mono ?_; rintro e w2 ⟨rfl, g2⟩))
      go_ret
      exact ⟨by rw [H2.out (by simp)]; rfl, ((Fr.of_below (S := fun _ => False) g1).then_below g2).below (fun _ _ e => e)⟩
    · go_wp2_with (first
        | (go_at_call 19; refine (c3.out _).mono ?_; rintro e w3 ⟨A3, k3, rfl, hk3, hA3, hl3, g3⟩)
        | (go_at_call 16; refine (c1.out _).mono ?_; rintro e w1 ⟨rfl, g1⟩)
        | (go_at_call 14; refine (c2.out _).mono ?_; rintro e w2 ⟨rfl, g2⟩))
      have HF3 := Lib.hid (((Fr.of_below (S := fun _ => False) g1).then_below g2).then_below g3)
      have HL3 := Lib.hid hl3
      have HSL := Lib.hid (fun k (hk : k ≤ n) w => slice_hdS A3 hA3 n k3 k (by omega) w)
      clear g1 g2 g3 hl3 hA3
      go_loopw [6] (fun i wr => ∃ k : Nat, 1 ≤ k ∧ k ≤ n + 1 ∧ i = .int .i64 k ∧ Hid (∀ q, 1 ≤ q → q < k → standB (prt pat) (PS.take q) = false) ∧ Fr (fun _ => False) w3 wr) (fun i _ => n + 1 - (intOf i).toNat)
      case atStart => exact ⟨1, by omega, by omega, rfl, Lib.hid (fun q h1 h2 => by omega), Fr.refl _ _⟩
      case round =>
        obtain ⟨k, hk1, hk, rfl, hI, hfr⟩ := hrel
        by_cases hlt : k ≤ n
        · have hki : (k : Int) ≤ n := by omega
          have hsl := HSL.out k hlt
          have hc := c5.out k hlt
          obtain ⟨v, hv⟩ : ∃ v, standB (prt pat) (PS.take k) = v := ⟨_, rfl⟩
          rw [hv] at hc
          have HV := Lib.hid hv
          have HC := Lib.hid hc
          have HFr := Lib.hid hfr
          clear hv hc hfr
          cases v
          · go_wp2_with fail
            go_region_with (first
              | (have HL4 := Lib.hid (HL3.out.fr (HFr.out.drew.then_below g4) (fun _ _ e => e))
                 go_at_call 47; refine (HC.out _ _ _ _ _ hk4 hk3 hl4 HL4.out).mono ?_; rintro e w5 ⟨rfl, g5⟩)
              | (go_at_call 19; refine (c4.out _).mono ?_; rintro e w4 ⟨A4, k4, rfl, hk4, hA4, hl4, g4⟩))
            all_goals go_wp2_with fail
            all_goals go_roundw
            case rel => exact ⟨k + 1, by omega, by omega, by go_num, Lib.hid (fun q h1 h2 => (by omega : q < k ∨ q = k).elim (hI.out q h1) (fun e => e ▸ HV.out)), (HFr.out.drew.then_below g4).then_below g5⟩
            case measure => simp [intOf]; omega
          · go_wp2_with fail
            go_region_with (first
              | (have HL4 := Lib.hid (HL3.out.fr (HFr.out.drew.then_below g4) (fun _ _ e => e))
                 go_at_call 47; refine (HC.out _ _ _ _ _ hk4 hk3 hl4 HL4.out).mono ?_; rintro e w5 ⟨rfl, g5⟩)
              | (go_at_call 19; refine (c4.out _).mono ?_; rintro e w4 ⟨A4, k4, rfl, hk4, hA4, hl4, g4⟩))
            all_goals go_wp2_with fail
            all_goals go_ret
            all_goals exact ⟨by rw [HY.out k (by simp) (by simp) hk1 hlt HV.out]; rfl, (HF3.out.trans ((HFr.out.drew.then_below g4).then_below g5) (fun _ _ e => e)).below (fun _ _ e => e)⟩
        · have hki : ¬ (k : Int) ≤ n := by omega
          have HB := Lib.hid ((HF3.out.trans hfr (fun _ _ e => e)).below (fun _ _ e => e))
          have HR := Lib.hid (HNo.out (fun q h1 h2 => hI.out q h1 (by omega)))
          clear hfr
          go_wp2_with fail
          go_ret
          exact ⟨by rw [HR.out]; rfl, HB.out⟩

theorem in_yes {ps : List (List UInt8)} {s : List UInt8} {k : Nat} (hk : k < ps.length) (h : fitB (ps.getD k []) s = true) : inB ps s = true := by
  rw [inB, ((fit_iff _ _).1 h).2.1, Bool.true_and, Bool.or_eq_true, List.any_eq_true]
  refine .inr ⟨ps.getD k [], ?_, h⟩
  rw [List.getD_eq_getElem?_getD, List.getElem?_eq_getElem hk]
  exact List.getElem_mem hk
theorem in_none {ps : List (List UInt8)} {s : List UInt8} (h : ∀ k, k < ps.length → fitB (ps.getD k []) s = false) : inB ps s = (decide (ps.length = 0) && rightB s) := by
  have : (ps.any fun p => fitB p s) = false := by
    rw [← Bool.not_eq_true, List.any_eq_true]
    rintro ⟨p, hp, hf⟩
    obtain ⟨i, hi, rfl⟩ := List.getElem_of_mem hp
    have := h i hi
    rw [List.getD_eq_getElem?_getD, List.getElem?_eq_getElem hi, Option.getD_some, hf] at this
    cases this
  rw [inB, this, Bool.or_false, Bool.and_comm]
theorem touch_yes {ps : List (List UInt8)} {d : List UInt8} {k : Nat} (hk : k < ps.length) (h : touB (ps.getD k []) d = true) : touchB ps d = true := by
  rw [touchB, Bool.or_eq_true, List.any_eq_true]
  refine .inr ⟨ps.getD k [], ?_, h⟩
  rw [List.getD_eq_getElem?_getD, List.getElem?_eq_getElem hk]
  exact List.getElem_mem hk
theorem touch_none {ps : List (List UInt8)} {d : List UInt8} (h : ∀ k, k < ps.length → touB (ps.getD k []) d = false) : touchB ps d = decide (ps.length = 0) := by
  have : (ps.any fun p => touB p d) = false := by
    rw [← Bool.not_eq_true, List.any_eq_true]
    rintro ⟨p, hp, hf⟩
    obtain ⟨i, hi, rfl⟩ := List.getElem_of_mem hp
    have := h i hi
    rw [List.getD_eq_getElem?_getD, List.getElem?_eq_getElem hi, Option.getD_some, hf] at this
    cases this
  rw [touchB, this, Bool.or_false]

set_option maxHeartbeats 3200000 in
theorem QrIn_any (ps : List (List UInt8)) (s : List UInt8) (hn : ps.length ≤ 300000) (hp : ∀ i, i < ps.length → (ps.getD i []).length ≤ 300000) (hs : s.length ≤ 300000) (A : Option Addr) (c : Nat) (w : World) (hl : Lies w A (strV ps)) :
    Calls Tryd.prog 31 #[.slice A ps.length c, .string (strB s)] w fun e w' => e = .returned (.bool (inB ps s)) ∧ Below w.heap.size w w' := by
  have c1 := Lib.hid (fun w => QrRight_any s (by omega) w)
  have c2 := Lib.hid (fun k (hk : k < ps.length) w => QrFits_any (ps.getD k []) s (hp k hk) hs w)
  have HL := Lib.hid (fun w' (f : Fr (fun _ => False) w w') => lies_str hl f)
  have HY := Lib.hid (fun k => in_yes (ps := ps) (s := s) (k := k))
  have HNo := Lib.hid (in_none (ps := ps) (s := s))
  obtain ⟨S, hS⟩ : ∃ S, strB s = S := ⟨_, rfl⟩
  rw [hS] at c1 c2 ⊢
  obtain ⟨r, hr⟩ : ∃ r, inB ps s = r := ⟨_, rfl⟩
  rw [hr] at HY HNo ⊢
  obtain ⟨b, hb⟩ : ∃ b, rightB s = b := ⟨_, rfl⟩
  rw [hb] at c1 HNo
  obtain ⟨n, hn'⟩ : ∃ n, ps.length = n := ⟨_, rfl⟩
  rw [hn'] at hn c2 HL HY HNo ⊢
  clear hS hr hb hn' hl hp hs
  go_enter Tryd.func31, Tryd.ntmps31
  go_wp2
  go_loopw [5] (fun i wr => ∃ k : Nat, k ≤ n ∧ i = .int .i64 k ∧ Hid (∀ q, q < k → fitB (ps.getD q []) s = false) ∧ Fr (fun _ => False) w wr) (fun i _ => n - (intOf i).toNat)
  case atStart => exact ⟨0, by omega, rfl, Lib.hid (fun q h => by omega), Fr.refl _ _⟩
  case round =>
    obtain ⟨k, hk, rfl, hI, hfr⟩ := hrel
    have HFr := Lib.hid hfr
    by_cases hlt : k < n
    · obtain ⟨bb, o, rfl, hc⟩ := HL.out wr hfr k hlt
      have hcall := c2.out k hlt
      obtain ⟨x, hx⟩ : ∃ x, ps.getD k [] = x := ⟨_, rfl⟩
      have HX := Lib.hid hx
      rw [hx] at hc hcall
      obtain ⟨X, hX⟩ : ∃ S, strB x = S := ⟨_, rfl⟩
      rw [hX] at hc hcall
      obtain ⟨v, hv⟩ : ∃ v, fitB x s = v := ⟨_, rfl⟩
      rw [hv] at hcall
      have HV := Lib.hid hv
      have HC := Lib.hid hcall
      clear hx hX hv hcall hfr
      cases v
      · go_wp2_with (go_at_call 29; refine (HC.out _).mono ?_; rintro e w1 ⟨rfl, b1⟩)
        go_roundw
        case rel => exact ⟨k + 1, by omega, by go_num, Lib.hid (fun q h => (by omega : q < k ∨ q = k).elim (hI.out q) (fun e => by rw [e, HX.out, HV.out])), HFr.out.then_below b1⟩
        case measure => simp [intOf]; omega
      · go_wp2_with (go_at_call 29; refine (HC.out _).mono ?_; rintro e w1 ⟨rfl, b1⟩)
        go_ret
        exact ⟨by rw [HY.out k hlt (by rw [HX.out, HV.out])]; rfl, (HFr.out.then_below b1).below (fun _ _ e => e)⟩
    · obtain rfl : k = n := by omega
      have HR := Lib.hid (HNo.out hI.out)
      clear hfr
      by_cases h0 : k = 0
      · have d0 : decide (k = 0) = true := decide_eq_true h0
        go_wp2_with (go_at_call 14; refine (c1.out _).mono ?_; rintro e w1 ⟨rfl, b1⟩)
        go_ret
        exact ⟨by rw [HR.out, d0]; rfl, (HFr.out.then_below b1).below (fun _ _ e => e)⟩
      · have d0 : decide (k = 0) = false := decide_eq_false h0
        have d0' : (((k : Nat) : Int) == 0) = false := by simpa using h0
        go_wp2_with fail
        go_ret
        exact ⟨by rw [HR.out, d0]; rfl, HFr.out.below (fun _ _ e => e)⟩

/-! What is touched. -/
theorem tou_yes1 {pat d : List UInt8} {n : Nat} (h1 : patB pat = true) (hl : n ≤ (prt d).length) (h : standB (prt pat) ((prt d).take n) = true) : touB pat d = true := by
  rw [touB, h1, Bool.true_and, tchB, Bool.or_eq_true]
  exact .inr (any_range.2 ⟨n, by omega, h⟩)
theorem tou_yes2 {pat d : List UInt8} {n : Nat} (h1 : patB pat = true) (hl : n ≤ (prt pat).length) (h : standB ((prt pat).take n) (prt d) = true) : touB pat d = true := by
  rw [touB, h1, Bool.true_and, tchB, Bool.or_eq_true]
  exact .inl (any_range.2 ⟨n, by omega, h⟩)
theorem tou_none {pat d : List UInt8} (h : ∀ n, n ≤ (prt d).length → standB (prt pat) ((prt d).take n) = false) (h2 : ∀ n, n ≤ (prt pat).length → standB ((prt pat).take n) (prt d) = false) : touB pat d = false := by
  rw [← Bool.not_eq_true, touB, Bool.and_eq_true, tchB, Bool.or_eq_true, any_range, any_range]
  rintro ⟨_, ⟨n, hn, h3⟩ | ⟨n, hn, h3⟩⟩
  · rw [h2 n (by omega)] at h3; cases h3
  · rw [h n (by omega)] at h3; cases h3
theorem tou_first {pat d : List UInt8} (h : patB pat = false) : touB pat d = false := by rw [touB, h]; rfl

set_option maxHeartbeats 6400000 in
theorem Qrtouches_any (pat d : List UInt8) (hp : pat.length ≤ 300000) (hd : d.length ≤ 300000) (w : World) : Calls Tryd.prog 50 #[.string (strB pat), .string (strB d)] w fun e w' => e = .returned (.bool (touB pat d)) ∧ Below w.heap.size w w' := by
  have c1 := Lib.hid (fun w => QrPattern_any pat (by omega) w)
  have c3 := Lib.hid (fun w => QrParts_addr pat (by omega) w)
  have c4 := Lib.hid (fun w => QrParts_addr d (by omega) w)
  have c5 := Lib.hid (fun k (hk : k ≤ (prt d).length) A A' c c' w (hc' : (prt pat).length ≤ c') (hc : (prt d).length ≤ c) (hl' : Lies w A' (strV (prt pat))) (hl : Lies w A (strV (prt d))) => (by
    have := Qrstands_any (prt pat) ((prt d).take k) A A' c c' w (Small.prt hp) (Small.prt hd |>.take k) hc' (by rw [List.length_take]; omega) hl' (hl.take k)
    rwa [List.length_take, Nat.min_eq_left hk] at this : Calls Tryd.prog 47 #[.slice A' (prt pat).length c', .slice A k c] w fun e w' => e = .returned (.bool (standB (prt pat) ((prt d).take k))) ∧ Below w.heap.size w w'))
  have c6 := Lib.hid (fun k (hk : k ≤ (prt pat).length) A A' c c' w (hc' : (prt pat).length ≤ c') (hc : (prt d).length ≤ c) (hl' : Lies w A' (strV (prt pat))) (hl : Lies w A (strV (prt d))) => (by
    have := Qrstands_any ((prt pat).take k) (prt d) A A' c c' w (Small.prt hp |>.take k) (Small.prt hd) (by rw [List.length_take]; omega) hc (hl'.take k) hl
    rwa [List.length_take, Nat.min_eq_left hk] at this : Calls Tryd.prog 47 #[.slice A' k c', .slice A (prt d).length c] w fun e w' => e = .returned (.bool (standB ((prt pat).take k) (prt d))) ∧ Below w.heap.size w w'))
  have HY1 := Lib.hid (fun n => tou_yes1 (pat := pat) (d := d) (n := n))
  have HY2 := Lib.hid (fun n => tou_yes2 (pat := pat) (d := d) (n := n))
  have HNo := Lib.hid (tou_none (pat := pat) (d := d))
  have H1 := Lib.hid (tou_first (pat := pat) (d := d))
  have hnb := prt_len d
  have hmb := prt_len pat
  obtain ⟨r, hr⟩ : ∃ r, touB pat d = r := ⟨_, rfl⟩
  rw [hr] at HY1 HY2 HNo H1 ⊢
  obtain ⟨n, hn⟩ : ∃ n, (prt d).length = n := ⟨_, rfl⟩
  rw [hn] at c4 c5 c6 HY1 HNo hnb
  obtain ⟨m, hm⟩ : ∃ n, (prt pat).length = n := ⟨_, rfl⟩
  rw [hm] at c3 c5 c6 HY2 HNo hmb
  obtain ⟨b1, hb1⟩ : ∃ b, patB pat = b := ⟨_, rfl⟩
  rw [hb1] at c1 H1 HY1 HY2
  obtain ⟨S, hS⟩ : ∃ S, strB d = S := ⟨_, rfl⟩
  obtain ⟨T, hT⟩ : ∃ S, strB pat = S := ⟨_, rfl⟩
  rw [hS] at c4 ⊢
  rw [hT] at c1 c3 ⊢
  obtain ⟨PS, hPS⟩ : ∃ x, prt d = x := ⟨_, rfl⟩
  rw [hPS] at c4 c5 c6 HY1 HY2 HNo
  obtain ⟨PP, hPP⟩ : ∃ x, prt pat = x := ⟨_, rfl⟩
  rw [hPP] at c3 c5 c6 HY1 HY2 HNo
  have hn1 : n ≤ 300001 := by omega
  have hm1 : m ≤ 300001 := by omega
  clear hr hn hm hb1 hS hT hPS hPP hnb hmb hp hd
  go_enter Tryd.func50, Tryd.ntmps50
  cases b1
  · go_wp2_with (go_at_call 16; refine (c1.out _).mono ?_; rintro e w1 ⟨rfl, g1⟩)
    go_ret
    exact ⟨by rw [H1.out (by simp)]; rfl, g1⟩
  · go_wp2_with (first
      | (have M3 := hl3
         go_at_call 19; refine (c4.out _).mono ?_; rintro e w4 ⟨A4, k4, rfl, hk4, hA4, hl4, g4⟩)
      | (go_at_call 19; refine (c3.out _).mono ?_; rintro e w3 ⟨A3, k3, rfl, hk3, hA3, hl3, g3⟩)
      | (go_at_call 16; refine (c1.out _).mono ?_; rintro e w1 ⟨rfl, g1⟩))
    have HF4 := Lib.hid (((Fr.of_below (S := fun _ => False) g1).then_below g3).then_below g4)
    have HL3 := Lib.hid (hl3.fr (Fr.of_below (S := fun _ => False) g4) (fun _ _ e => e))
    have HL4 := Lib.hid hl4
    have HSL := Lib.hid (fun k (hk : k ≤ n) w => slice_hdS A4 hA4 n k4 k (by omega) w)
    have HSM := Lib.hid (fun k (hk : k ≤ m) w => slice_hdS A3 hA3 m k3 k (by omega) w)
    clear g1 g3 g4 hl3 hl4 hA3 hA4
    go_loopw [7] (fun i wr => ∃ k : Nat, k ≤ n + 1 ∧ i = .int .i64 k ∧ Hid (∀ q, q < k → standB PP (PS.take q) = false) ∧ Fr (fun _ => False) w4 wr) (fun i _ => n + 1 - (intOf i).toNat)
    case atStart => exact ⟨0, by omega, rfl, Lib.hid (fun q h => by omega), Fr.refl _ _⟩
    case round =>
      obtain ⟨k, hk, rfl, hI, hfr⟩ := hrel
      have HFr := Lib.hid hfr
      by_cases hlt : k ≤ n
      · have hki : (k : Int) ≤ n := by omega
        have hsl := HSL.out k hlt
        have hc := c5.out k hlt
        obtain ⟨v, hv⟩ : ∃ v, standB PP (PS.take k) = v := ⟨_, rfl⟩
        rw [hv] at hc
        have HV := Lib.hid hv
        have HC := Lib.hid hc
        have HLa := Lib.hid (HL3.out.fr hfr (fun _ _ e => e))
        have HLb := Lib.hid (HL4.out.fr hfr (fun _ _ e => e))
        clear hv hc hfr
        cases v
        · go_wp2_with (go_at_call 47; refine (HC.out _ _ _ _ _ hk3 hk4 HLa.out HLb.out).mono ?_; rintro e w5 ⟨rfl, g5⟩)
          go_roundw
          case rel => exact ⟨k + 1, by omega, by go_num, Lib.hid (fun q h => (by omega : q < k ∨ q = k).elim (hI.out q) (fun e => e ▸ HV.out)), HFr.out.then_below g5⟩
          case measure => simp [intOf]; omega
        · go_wp2_with (go_at_call 47; refine (HC.out _ _ _ _ _ hk3 hk4 HLa.out HLb.out).mono ?_; rintro e w5 ⟨rfl, g5⟩)
          go_ret
          exact ⟨by rw [HY1.out k (by simp) hlt HV.out]; rfl, (HF4.out.trans (HFr.out.then_below g5) (fun _ _ e => e)).below (fun _ _ e => e)⟩
      · have hki : ¬ (k : Int) ≤ n := by omega
        have HNo2 := Lib.hid (HNo.out (fun q h => hI.out q (by omega)))
        clear hfr
        go_wp2_with fail
        go_loopw [8] (fun i wr => ∃ k : Nat, k ≤ m + 1 ∧ i = .int .i64 k ∧ Hid (∀ q, q < k → standB (PP.take q) PS = false) ∧ Fr (fun _ => False) w4 wr) (fun i _ => m + 1 - (intOf i).toNat)
        case atStart => exact ⟨0, by omega, rfl, Lib.hid (fun q h => by omega), HFr.out⟩
        case round =>
          obtain ⟨k2, hk2, rfl, hI2, hfr⟩ := hrel
          have HFr2 := Lib.hid hfr
          by_cases hlt2 : k2 ≤ m
          · have hki2 : (k2 : Int) ≤ m := by omega
            have hsl := HSM.out k2 hlt2
            have hc := c6.out k2 hlt2
            obtain ⟨v, hv⟩ : ∃ v, standB (PP.take k2) PS = v := ⟨_, rfl⟩
            rw [hv] at hc
            have HV := Lib.hid hv
            have HC := Lib.hid hc
            have HLa := Lib.hid (HL3.out.fr hfr (fun _ _ e => e))
            have HLb := Lib.hid (HL4.out.fr hfr (fun _ _ e => e))
            clear hv hc hfr
            cases v
            · go_wp2_with (go_at_call 47; refine (HC.out _ _ _ _ _ hk3 hk4 HLa.out HLb.out).mono ?_; rintro e w5 ⟨rfl, g5⟩)
              go_roundw
              case rel => exact ⟨k2 + 1, by omega, by go_num, Lib.hid (fun q h => (by omega : q < k2 ∨ q = k2).elim (hI2.out q) (fun e => e ▸ HV.out)), HFr2.out.then_below g5⟩
              case measure => simp [intOf]; omega
            · go_wp2_with (go_at_call 47; refine (HC.out _ _ _ _ _ hk3 hk4 HLa.out HLb.out).mono ?_; rintro e w5 ⟨rfl, g5⟩)
              go_ret
              exact ⟨by rw [HY2.out k2 (by simp) hlt2 HV.out]; rfl, (HF4.out.trans (HFr2.out.then_below g5) (fun _ _ e => e)).below (fun _ _ e => e)⟩
          · have hki2 : ¬ (k2 : Int) ≤ m := by omega
            have HB := Lib.hid ((HF4.out.trans hfr (fun _ _ e => e)).below (fun _ _ e => e))
            have HR := Lib.hid (HNo2.out (fun q h => hI2.out q (by omega)))
            clear hfr
            go_wp2_with fail
            go_ret
            exact ⟨by rw [HR.out]; rfl, HB.out⟩

set_option maxHeartbeats 3200000 in
theorem QrTouch_any (ps : List (List UInt8)) (s : List UInt8) (hn : ps.length ≤ 300000) (hp : ∀ i, i < ps.length → (ps.getD i []).length ≤ 300000) (hs : s.length ≤ 300000) (A : Option Addr) (c : Nat) (w : World) (hl : Lies w A (strV ps)) :
    Calls Tryd.prog 33 #[.slice A ps.length c, .string (strB s)] w fun e w' => e = .returned (.bool (touchB ps s)) ∧ Below w.heap.size w w' := by
  have c2 := Lib.hid (fun k (hk : k < ps.length) w => Qrtouches_any (ps.getD k []) s (hp k hk) hs w)
  have HL := Lib.hid (fun w' (f : Fr (fun _ => False) w w') => lies_str hl f)
  have HY := Lib.hid (fun k => touch_yes (ps := ps) (d := s) (k := k))
  have HNo := Lib.hid (touch_none (ps := ps) (d := s))
  obtain ⟨S, hS⟩ : ∃ S, strB s = S := ⟨_, rfl⟩
  rw [hS] at c2 ⊢
  obtain ⟨r, hr⟩ : ∃ r, touchB ps s = r := ⟨_, rfl⟩
  rw [hr] at HY HNo ⊢
  obtain ⟨n, hn'⟩ : ∃ n, ps.length = n := ⟨_, rfl⟩
  rw [hn'] at hn c2 HL HY HNo ⊢
  clear hS hr hn' hl hp hs
  go_enter Tryd.func33, Tryd.ntmps33
  go_wp2
  go_loopw [5] (fun i wr => ∃ k : Nat, k ≤ n ∧ i = .int .i64 k ∧ Hid (∀ q, q < k → touB (ps.getD q []) s = false) ∧ Fr (fun _ => False) w wr) (fun i _ => n - (intOf i).toNat)
  case atStart => exact ⟨0, by omega, rfl, Lib.hid (fun q h => by omega), Fr.refl _ _⟩
  case round =>
    obtain ⟨k, hk, rfl, hI, hfr⟩ := hrel
    have HFr := Lib.hid hfr
    by_cases hlt : k < n
    · obtain ⟨bb, o, rfl, hc⟩ := HL.out wr hfr k hlt
      have hcall := c2.out k hlt
      obtain ⟨x, hx⟩ : ∃ x, ps.getD k [] = x := ⟨_, rfl⟩
      have HX := Lib.hid hx
      rw [hx] at hc hcall
      obtain ⟨X, hX⟩ : ∃ S, strB x = S := ⟨_, rfl⟩
      rw [hX] at hc hcall
      obtain ⟨v, hv⟩ : ∃ v, touB x s = v := ⟨_, rfl⟩
      rw [hv] at hcall
      have HV := Lib.hid hv
      have HC := Lib.hid hcall
      clear hx hX hv hcall hfr
      cases v
      · go_wp2_with (go_at_call 50; refine (HC.out _).mono ?_; rintro e w1 ⟨rfl, b1⟩)
        go_roundw
        case rel => exact ⟨k + 1, by omega, by go_num, Lib.hid (fun q h => (by omega : q < k ∨ q = k).elim (hI.out q) (fun e => by rw [e, HX.out, HV.out])), HFr.out.then_below b1⟩
        case measure => simp [intOf]; omega
      · go_wp2_with (go_at_call 50; refine (HC.out _).mono ?_; rintro e w1 ⟨rfl, b1⟩)
        go_ret
        exact ⟨by rw [HY.out k hlt (by rw [HX.out, HV.out])]; rfl, (HFr.out.then_below b1).below (fun _ _ e => e)⟩
    · obtain rfl : k = n := by omega
      have HR := Lib.hid (HNo.out hI.out)
      clear hfr
      by_cases h0 : k = 0
      · have d0 : decide (k = 0) = true := decide_eq_true h0
        go_wp2_with fail
        go_ret
        exact ⟨by rw [HR.out, d0]; simp [h0], HFr.out.below (fun _ _ e => e)⟩
      · have d0 : decide (k = 0) = false := decide_eq_false h0
        have d0' : (((k : Nat) : Int) == 0) = false := by simpa using h0
        go_wp2_with fail
        go_ret
        exact ⟨by rw [HR.out, d0]; rfl, HFr.out.below (fun _ _ e => e)⟩
end Go.Proofs.YtnekddpnajgmdaaDoor

/- What is proved: whether a pattern fits a path; whether a path is in patterns; by the program. Conditions: the list is there, the texts are not too long for any machine. -/
import Derived.Test.YtnekddpnajgmdaaDoorRtn
namespace Go.Proofs.YtnekddpnajgmdaaDoor
open Go.RowKit
set_option linter.unusedVariables false

theorem tab_tail {w : World} {g n : Nat} {R : Nat → Bool} (h : Whole w g 4 (tabC R (n + 1))) : Lies w (some ⟨g, 1, none⟩) (truV (tab (fun k => R (k + 1)) n)) := by
  refine .inr ⟨g, 1, rfl, fun j u hu => ?_⟩
  have hj : j < n := by
    have := (List.getElem?_eq_some_iff.1 hu).1
    rwa [truV_len, tab_len] at this
  rw [truV_get _ _ (by rw [tab_len]; exact hj), tab_get _ _ _ hj] at hu
  rw [Nat.add_comm 1 j, h.tcell (j + 1) (by omega)]
  exact hu
theorem tab_lies {w : World} {g m : Nat} {R : Nat → Bool} (h : Whole w g 4 (tabC R m)) : Lies w (some ⟨g, 0, none⟩) (truV (tab R m)) := Lies.of_whole h
theorem stand_prt (pat s : List UInt8) (hp : pat.length ≤ 300000) (hs : s.length ≤ 300000) (A A' : Option Addr) (c c' : Nat) (w : World) (hl' : Lies w A' (strV (prt pat))) (hl : Lies w A (strV (prt s))) :
    Calls Tryd.prog 45 #[.slice A' (prt pat).length c', .slice A (prt s).length c] w fun e w' =>
      ∃ g, e = .returned (.tuple #[.slice (some ⟨g, 0, none⟩) ((prt s).length + 1) ((prt s).length + 1), .bool (allB (prt pat) (prt s) (prt pat).length)]) ∧ Whole w' g 4 (tabC (rowB (prt pat) (prt s)) ((prt s).length + 1)) ∧ Below w.heap.size w w' :=
  Rtstand_any (prt pat) (prt s) (by have := prt_len pat; omega) (by have := prt_len s; omega) (fun k hk => by have := part_small pat k hk; omega) (fun k hk => by have := part_small s k hk; omega) A A' c c' w hl' hl
theorem fit_eq (pat s : List UInt8) (n : Nat) (hn : (prt s).length = n) : fitB pat s = (patB pat && (rightB s && (tab (fun k => rowB (prt pat) (prt s) (k + 1)) n).any id)) := by
  rw [fitB, hn, Bool.and_assoc, tab, List.any_map]
  rfl

set_option maxHeartbeats 6400000 in
theorem RtFits_any (pat s : List UInt8) (hp : pat.length ≤ 300000) (hs : s.length ≤ 300000) (w : World) : Calls Tryd.prog 28 #[.string (strB pat), .string (strB s)] w fun e w' => e = .returned (.bool (fitB pat s)) ∧ Below w.heap.size w w' := by
  have c1 := Lib.hid (fun w => RtPattern_any pat (by omega) w)
  have c2 := Lib.hid (fun w => RtRight_any s (by omega) w)
  have c3 := Lib.hid (fun w => RtParts_any pat (by omega) w)
  have c4 := Lib.hid (fun w => RtParts_any s (by omega) w)
  have c5 := Lib.hid (stand_prt pat s hp hs)
  have c6 := Lib.hid (fun A c w' (h : Lies w' A (truV (tab (fun k => rowB (prt pat) (prt s) (k + 1)) (prt s).length))) => GContB_any A c (tab (fun k => rowB (prt pat) (prt s) (k + 1)) (prt s).length) w' (by rw [tab_len]; have := prt_len s; omega) h)
  rw [tab_len] at c6
  have hnb := prt_len s
  have HE := Lib.hid (fit_eq pat s)
  have HTl := Lib.hid (fun w g n R h => tab_tail (w := w) (g := g) (n := n) (R := R) h)
  have hpos : rightB s = true → (prt s).length ≠ 0 := fun h e => by
    have h1 := ((right_iff s).1 h).ne
    rw [prt_of h1] at e
    exact spl_ne s (List.eq_nil_of_length_eq_zero e)
  obtain ⟨r, hr⟩ : ∃ r, fitB pat s = r := ⟨_, rfl⟩
  rw [hr] at HE ⊢
  obtain ⟨n, hn⟩ : ∃ n, (prt s).length = n := ⟨_, rfl⟩
  rw [hn] at c4 c5 c6 hnb hpos
  have HEn := Lib.hid (HE.out n hn)
  obtain ⟨v, hv⟩ : ∃ v, (tab (fun k => rowB (prt pat) (prt s) (k + 1)) n).any id = v := ⟨_, rfl⟩
  rw [hv] at HEn c6
  obtain ⟨b1, hb1⟩ : ∃ b, patB pat = b := ⟨_, rfl⟩
  obtain ⟨b2, hb2⟩ : ∃ b, rightB s = b := ⟨_, rfl⟩
  rw [hb1] at c1 HEn
  rw [hb2] at c2 HEn hpos
  obtain ⟨S, hS⟩ : ∃ S, strB s = S := ⟨_, rfl⟩
  obtain ⟨T, hT⟩ : ∃ S, strB pat = S := ⟨_, rfl⟩
  rw [hS] at c2 c4 ⊢
  rw [hT] at c1 c3 ⊢
  have hn1 : n ≤ 300001 := by omega
  clear hr hn hv hb1 hb2 hS hT HE hnb
  go_enter Tryd.func28, Tryd.ntmps28
  cases b1
  · go_wp2_with (go_at_call 15; refine (c1.out _).mono ?_; rintro e w1 ⟨rfl, g1⟩)
    go_ret
    exact ⟨by rw [HEn.out]; rfl, g1⟩
  · cases b2
    · go_wp2_with (first
        | (go_at_call 15; refine (c1.out _).mono ?_; rintro e w1 ⟨rfl, g1⟩)
        | (go_at_call 13; refine (c2.out _).mono ?_; rintro e w2 ⟨rfl, g2⟩))
      go_ret
      exact ⟨by rw [HEn.out]; rfl, ((Fr.of_below (S := fun _ => False) g1).then_below g2).below (fun _ _ e => e)⟩
    · have hn0 : n ≠ 0 := hpos rfl
      go_wp2_with (first
        | (have HL6 := Lib.hid (HTl.out w5 g5 n _ hW5)
           go_at_call 46; refine (c6.out _ _ _ HL6.out).mono ?_; rintro e w6 ⟨rfl, rfl⟩)
        | (have HL3 := Lib.hid (hl3.fr (Fr.of_below (S := fun _ => False) g4) (fun _ _ e => e))
           go_at_call 45; refine (c5.out _ _ _ _ _ HL3.out hl4).mono ?_; rintro e w5 ⟨g5, rfl, hW5, f5⟩)
        | (have M3 := hl3
           go_at_call 18; refine (c4.out _).mono ?_; rintro e w4 ⟨A4, k4, rfl, hk4, hl4, g4⟩)
        | (go_at_call 18; refine (c3.out _).mono ?_; rintro e w3 ⟨A3, k3, rfl, hk3, hl3, g3⟩)
        | (go_at_call 15; refine (c1.out _).mono ?_; rintro e w1 ⟨rfl, g1⟩)
        | (go_at_call 13; refine (c2.out _).mono ?_; rintro e w2 ⟨rfl, g2⟩))
      go_ret
      exact ⟨by rw [HEn.out]; rfl, (((((Fr.of_below (S := fun _ => False) g1).then_below g2).then_below g3).then_below g4).then_below f5).below (fun _ _ e => e)⟩

theorem enter_in1 : ∀ args w, (callFunc 48 args).run Tryd.prog w = .ok (.enter 48 args) w := enters_of Tryd.func48 (by kernel_rfl) rfl
set_option maxHeartbeats 1600000 in
theorem RtIn1_any (x s : List UInt8) (hx : x.length ≤ 300000) (hs : s.length ≤ 300000) (g : Nat) (w : World) (hc : w.cell? ⟨g, 0, none⟩ = some (.string (strB s))) :
    Calls Tryd.prog 48 #[.string (strB x), .pointer (some ⟨g, 0, none⟩)] w fun e w' => e = .returned (.bool (fitB x s)) ∧ Below w.heap.size w w' := by
  have c1 := Lib.hid (fun w => RtFits_any x s hx hs w)
  obtain ⟨r, hr⟩ : ∃ r, fitB x s = r := ⟨_, rfl⟩
  obtain ⟨S, hS⟩ : ∃ S, strB s = S := ⟨_, rfl⟩
  obtain ⟨T, hT⟩ : ∃ S, strB x = S := ⟨_, rfl⟩
  rw [hr, hS, hT] at c1
  rw [hS] at hc
  rw [hr, hT]
  clear hr hS hT
  go_enter Tryd.func48, Tryd.ntmps48
  go_wp2_with (go_at_call 28; refine (c1.out _).mono ?_; rintro e w1 ⟨rfl, b1⟩)
  go_ret
  exact ⟨rfl, b1⟩
set_option maxHeartbeats 3200000 in
theorem RtIn_any (ps : List (List UInt8)) (s : List UInt8) (hn : ps.length ≤ 300000) (hp : ∀ i, i < ps.length → (ps.getD i []).length ≤ 300000) (hs : s.length ≤ 300000) (A : Option Addr) (c : Nat) (w : World) (hl : Lies w A (strV ps)) :
    Calls Tryd.prog 30 #[.slice A ps.length c, .string (strB s)] w fun e w' => e = .returned (.bool (inB ps s)) ∧ Below w.heap.size w w' := by
  have c1 := Lib.hid (fun w => RtRight_any s (by omega) w)
  have c2 := Lib.hid (fun g w' (hcell : w'.cell? ⟨g, 0, none⟩ = some (.string (strB s))) (h : Lies w' A (strV ps)) => GContFuncS_any 48 #[.pointer (some ⟨g, 0, none⟩)] A c ps (fun p => fitB p s) w' enter_in1 (by omega)
    (fun q i hi => RtIn1_any (ps.getD i []) s (hp i hi) hs g q.w' (q.fr.cell hcell (fun e => e))) h)
  obtain ⟨S, hS⟩ : ∃ S, strB s = S := ⟨_, rfl⟩
  rw [hS] at c1 c2 ⊢
  have hF : Fr (fun _ => False) w (w.alloc (.cells #[.string S] 9)) := (Fr.refl _ w).alloc _
  have hcell : (w.alloc (.cells #[.string S] 9)).cell? ⟨w.heap.size, 0, none⟩ = some (.string S) := (Whole.new w 9 #[.string S]).cell 0
  have HL := Lib.hid (hl.fr hF (fun _ _ e => e))
  have HF := Lib.hid hF
  have HCl := Lib.hid hcell
  have HE : Hid (inB ps s = (rightB s && (decide (ps.length = 0) || ps.any fun p => fitB p s))) := Lib.hid rfl
  obtain ⟨r, hr⟩ : ∃ r, inB ps s = r := ⟨_, rfl⟩
  obtain ⟨b, hb⟩ : ∃ b, rightB s = b := ⟨_, rfl⟩
  obtain ⟨v, hv⟩ : ∃ b, (ps.any fun p => fitB p s) = b := ⟨_, rfl⟩
  obtain ⟨n, hn'⟩ : ∃ n, ps.length = n := ⟨_, rfl⟩
  rw [hr] at HE ⊢
  rw [hb] at c1 HE
  rw [hv] at c2 HE
  rw [hn'] at c2 HE hn ⊢
  clear hr hb hv hn' hS hl hp hs hF hcell
  go_enter Tryd.func30, Tryd.ntmps30
  cases b
  · go_wp2_with (go_at_call 13; refine (c1.out _).mono ?_; rintro e w1 ⟨rfl, b1⟩)
    go_ret
    exact ⟨by rw [HE.out]; rfl, (HF.out.then_below b1).below (fun _ _ e => e)⟩
  · by_cases h0 : n = 0
    · have d0 : decide (n = 0) = true := decide_eq_true h0
      go_wp2_with (go_at_call 13; refine (c1.out _).mono ?_; rintro e w1 ⟨rfl, b1⟩)
      go_ret
      exact ⟨by rw [HE.out, d0]; rfl, (HF.out.then_below b1).below (fun _ _ e => e)⟩
    · have d0 : decide (n = 0) = false := decide_eq_false h0
      have d0' : (((n : Nat) : Int) == 0) = false := by simpa using h0
      go_wp2_with (first
        | (have M1 := b1
           have HL1 := Lib.hid (HL.out.fr (Fr.of_below (S := fun _ => False) b1) (fun _ _ e => e))
           have HC1 := Lib.hid ((Fr.of_below (S := fun _ => False) b1).cell HCl.out (fun e => e))
           go_at_call 38; refine (c2.out _ _ HC1.out HL1.out).mono ?_; rintro e w2 ⟨rfl, b2⟩)
        | (go_at_call 13; refine (c1.out _).mono ?_; rintro e w1 ⟨rfl, b1⟩))
      go_ret
      exact ⟨by rw [HE.out, d0]; rfl, ((HF.out.then_below b1).then_below b2).below (fun _ _ e => e)⟩

/-! What is touched. -/
theorem enter_touch1 : ∀ args w, (callFunc 49 args).run Tryd.prog w = .ok (.enter 49 args) w := enters_of Tryd.func49 (by kernel_rfl) rfl
theorem tou_eq (x d : List UInt8) (n : Nat) (hn : (prt d).length = n) : touB x d = (patB x && (allB (prt x) (prt d) (prt x).length || (tab (rowB (prt x) (prt d)) (n + 1)).any id)) := by
  rw [touB, tchB, hn, tab, List.any_map]
  rfl
set_option maxHeartbeats 6400000 in
theorem RtTouch1_any (x d : List UInt8) (hx : x.length ≤ 300000) (hd : d.length ≤ 300000) (A : Option Addr) (c g : Nat) (w : World) (hc : w.cell? ⟨g, 0, none⟩ = some (.slice A (prt d).length c)) (hl : Lies w A (strV (prt d))) :
    Calls Tryd.prog 49 #[.string (strB x), .pointer (some ⟨g, 0, none⟩)] w fun e w' => e = .returned (.bool (touB x d)) ∧ Below w.heap.size w w' := by
  have c1 := Lib.hid (fun w => RtPattern_any x (by omega) w)
  have c2 := Lib.hid (fun w => RtParts_any x (by omega) w)
  have c3 := Lib.hid (fun A' c' w' (f : Fr (fun _ => False) w w') hl' => stand_prt x d hx hd A A' c c' w' hl' (hl.fr f (fun _ _ e => e)))
  have c4 := Lib.hid (fun A c w' (h : Lies w' A (truV (tab (rowB (prt x) (prt d)) ((prt d).length + 1)))) => GContB_any A c (tab (rowB (prt x) (prt d)) ((prt d).length + 1)) w' (by rw [tab_len]; have := prt_len d; omega) h)
  rw [tab_len] at c4
  have HE := Lib.hid (tou_eq x d)
  have HTl := Lib.hid (fun w g m R h => tab_lies (w := w) (g := g) (m := m) (R := R) h)
  have HCl := Lib.hid (fun w' (f : Fr (fun _ => False) w w') => f.cell hc (fun e => e))
  obtain ⟨r, hr⟩ : ∃ r, touB x d = r := ⟨_, rfl⟩
  rw [hr] at HE ⊢
  obtain ⟨n, hn⟩ : ∃ n, (prt d).length = n := ⟨_, rfl⟩
  rw [hn] at c3 c4 hc HCl
  have HEn := Lib.hid (HE.out n hn)
  obtain ⟨v, hv⟩ : ∃ v, (tab (rowB (prt x) (prt d)) (n + 1)).any id = v := ⟨_, rfl⟩
  rw [hv] at HEn c4
  obtain ⟨u, hu⟩ : ∃ v, allB (prt x) (prt d) (prt x).length = v := ⟨_, rfl⟩
  rw [hu] at HEn c3
  obtain ⟨b1, hb1⟩ : ∃ b, patB x = b := ⟨_, rfl⟩
  rw [hb1] at c1 HEn
  obtain ⟨T, hT⟩ : ∃ S, strB x = S := ⟨_, rfl⟩
  rw [hT] at c1 c2 ⊢
  clear hr hn hv hb1 hT HE hl hd hx hu hc
  go_enter Tryd.func49, Tryd.ntmps49
  cases b1
  · go_wp2_with (go_at_call 15; refine (c1.out _).mono ?_; rintro e w1 ⟨rfl, g1⟩)
    go_ret
    exact ⟨by rw [HEn.out]; rfl, g1⟩
  · go_wp2_with (go_at_call 15; refine (c1.out _).mono ?_; rintro e w1 ⟨rfl, g1⟩)
    have hf1 := Fr.of_below (S := fun _ => False) g1
    have hc1 := HCl.out w1 hf1
    have HF1 := Lib.hid hf1
    clear hf1
    cases u
    · go_region_with (first
        | (have HF2 := Lib.hid ((HF1.out.drew.then_below g2))
           go_at_call 45; refine (c3.out _ _ _ HF2.out hl2).mono ?_; rintro e w5 ⟨g5, rfl, hW5, f5⟩)
        | (go_at_call 18; refine (c2.out _).mono ?_; rintro e w2 ⟨A2, k2, rfl, hk2, hl2, g2⟩
           have hc2 := HCl.out w2 (HF1.out.drew.then_below g2)))
      all_goals go_wp2_with (have HL6 := Lib.hid (HTl.out w5 g5 _ _ hW5)
                             go_at_call 46; refine (c4.out _ _ _ HL6.out).mono ?_; rintro e w6 ⟨rfl, rfl⟩)
      all_goals go_ret
      all_goals exact ⟨by rw [HEn.out]; rfl, (HF2.out.then_below f5).below (fun _ _ e => e)⟩
    · go_region_with (first
        | (have HF2 := Lib.hid ((HF1.out.drew.then_below g2))
           go_at_call 45; refine (c3.out _ _ _ HF2.out hl2).mono ?_; rintro e w5 ⟨g5, rfl, hW5, f5⟩)
        | (go_at_call 18; refine (c2.out _).mono ?_; rintro e w2 ⟨A2, k2, rfl, hk2, hl2, g2⟩
           have hc2 := HCl.out w2 (HF1.out.drew.then_below g2)))
      all_goals go_wp2_with fail
      all_goals go_ret
      all_goals exact ⟨by rw [HEn.out]; rfl, (HF2.out.then_below f5).below (fun _ _ e => e)⟩
set_option maxHeartbeats 3200000 in
theorem RtTouch_any (ps : List (List UInt8)) (d : List UInt8) (hn : ps.length ≤ 300000) (hp : ∀ i, i < ps.length → (ps.getD i []).length ≤ 300000) (hd : d.length ≤ 300000) (A : Option Addr) (c : Nat) (w : World) (hl : Lies w A (strV ps)) :
    Calls Tryd.prog 32 #[.slice A ps.length c, .string (strB d)] w fun e w' => e = .returned (.bool (touchB ps d)) ∧ Below w.heap.size w w' := by
  have c1 := Lib.hid (fun w => RtParts_any d (by omega) w)
  have c2 := Lib.hid (fun g A' c' w' (hcell : w'.cell? ⟨g, 0, none⟩ = some (.slice A' (prt d).length c')) (hl' : Lies w' A' (strV (prt d))) (h : Lies w' A (strV ps)) => GContFuncS_any 49 #[.pointer (some ⟨g, 0, none⟩)] A c ps (fun p => touB p d) w' enter_touch1 (by omega)
    (fun q i hi => RtTouch1_any (ps.getD i []) d (hp i hi) hd A' c' g q.w' (q.fr.cell hcell (fun e => e)) (hl'.fr q.fr (fun _ _ e => e))) h)
  have HL := Lib.hid hl
  have HE : Hid (touchB ps d = (decide (ps.length = 0) || ps.any fun p => touB p d)) := Lib.hid rfl
  obtain ⟨S, hS⟩ : ∃ S, strB d = S := ⟨_, rfl⟩
  rw [hS] at c1 ⊢
  obtain ⟨r, hr⟩ : ∃ r, touchB ps d = r := ⟨_, rfl⟩
  obtain ⟨v, hv⟩ : ∃ b, (ps.any fun p => touB p d) = b := ⟨_, rfl⟩
  obtain ⟨n, hn'⟩ : ∃ n, ps.length = n := ⟨_, rfl⟩
  obtain ⟨m, hm⟩ : ∃ n, (prt d).length = n := ⟨_, rfl⟩
  rw [hr] at HE ⊢
  rw [hv] at c2 HE
  rw [hn'] at c2 HE hn ⊢
  rw [hm] at c1 c2
  clear hr hv hn' hm hS hl hp hd
  go_enter Tryd.func32, Tryd.ntmps32
  by_cases h0 : n = 0
  · have d0 : decide (n = 0) = true := decide_eq_true h0
    go_wp2_with (go_at_call 18; refine (c1.out _).mono ?_; rintro e w1 ⟨A1, k1, rfl, hk1, hl1, b1⟩)
    go_ret
    exact ⟨by rw [HE.out, d0]; rfl, ((Fr.of_below (S := fun _ => False) b1).alloc _).below (fun _ _ e => e)⟩
  · have d0 : decide (n = 0) = false := decide_eq_false h0
    have d0' : (((n : Nat) : Int) == 0) = false := by simpa using h0
    go_wp2_with (first
      | (have hF2 : Fr (fun _ => False) w1 (w1.alloc (.cells #[.slice A1 m k1] 25)) := (Fr.refl _ w1).alloc _
         have hcell : (w1.alloc (.cells #[.slice A1 m k1] 25)).cell? ⟨w1.heap.size, 0, none⟩ = some (.slice A1 m k1) := (Whole.new w1 25 #[.slice A1 m k1]).cell 0
         have HC2 := Lib.hid hcell
         have HL1 := Lib.hid (hl1.fr hF2 (fun _ _ e => e))
         have HL2 := Lib.hid (HL.out.fr ((Fr.of_below (S := fun _ => False) b1).trans hF2 (fun _ _ e => e)) (fun _ _ e => e))
         clear hF2 hcell
         go_at_call 38; refine (c2.out _ _ _ _ HC2.out HL1.out HL2.out).mono ?_; rintro e w2 ⟨rfl, b2⟩)
      | (go_at_call 18; refine (c1.out _).mono ?_; rintro e w1 ⟨A1, k1, rfl, hk1, hl1, b1⟩))
    go_ret
    exact ⟨by rw [HE.out, d0]; rfl, (((Fr.of_below (S := fun _ => False) b1).alloc _).then_below b2).below (fun _ _ e => e)⟩
end Go.Proofs.YtnekddpnajgmdaaDoor

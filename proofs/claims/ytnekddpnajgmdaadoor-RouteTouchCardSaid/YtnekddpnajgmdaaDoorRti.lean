/- What is proved: names by the document; paths and patterns, by the program and by the document. Conditions: the text is not too long for any machine. -/
import Derived.Test.YtnekddpnajgmdaaDoorRth
namespace Go.Proofs.YtnekddpnajgmdaaDoor
open Go.RowKit
set_option linter.unusedVariables false

theorem one_part (l : List UInt8) (h : l ≠ []) : decide ((prt l).length = 1) = !l.contains 47 := by
  rw [prt_of h, spl_count, Bool.eq_iff_iff]
  simp [List.count_eq_zero]
theorem right_name (l : List UInt8) (n : Nat) (hn : l.length = n) : nameB l = (decide (1 ≤ n) && decide (n ≤ 32) && visB l && (decide ((prt l).length = 1) && !(l == [46]) && !(l == [46, 46]))) := by
  by_cases h : l = []
  · subst h; subst hn; rfl
  · rw [one_part l h, name_eq l n hn]
    simp only [Bool.and_assoc]

set_option maxHeartbeats 3200000 in
theorem QrName_any (l : List UInt8) (hl : l.length ≤ 900000) (w : World) : Calls Tryd.prog 12 #[.string (strB l)] w fun e w' => e = .returned (.bool (nameB l)) ∧ Below w.heap.size w w' := by
  have c1 := Lib.hid (fun w => Qrseen_any l (by omega) w)
  have c2 := Lib.hid (fun w => QrParts_any l hl w)
  have hsz := strB_size l
  have hL := strB_list l
  obtain ⟨S, hS⟩ : ∃ S, strB l = S := ⟨_, rfl⟩
  obtain ⟨n, hn⟩ : ∃ n, l.length = n := ⟨_, rfl⟩
  rw [hS] at hsz hL c1 c2 ⊢
  have HE := Lib.hid (right_name l n hn)
  rw [hn] at hsz hl
  obtain ⟨r, hr⟩ : ∃ r, nameB l = r := ⟨_, rfl⟩
  rw [hr] at HE ⊢
  obtain ⟨b4, hb4⟩ : ∃ b, visB l = b := ⟨_, rfl⟩
  obtain ⟨m, hm⟩ : ∃ b, (prt l).length = b := ⟨_, rfl⟩
  rw [hb4] at c1 HE
  rw [hm] at c2 HE
  have HB := Lib.hid ((Fr.refl (fun _ => False) w).below (fun _ _ e => e))
  clear hb4 hm hn hS hr
  go_enter Tryd.func12, Tryd.ntmps12
  by_cases h1 : 1 ≤ n
  · have hd1 : decide (1 ≤ n) = true := decide_eq_true h1
    by_cases h2 : n ≤ 32
    · have hd2 : decide (n ≤ 32) = true := decide_eq_true h2
      cases b4
      · go_wp2_with (go_at_call 36; refine (c1.out _).mono ?_; rintro e w' ⟨rfl, rfl⟩)
        go_ret
        exact ⟨by rw [HE.out]; simp, HB.out⟩
      · by_cases h3 : m = 1
        · have hd3 : decide (m = 1) = true := decide_eq_true h3
          by_cases h4 : l = [46]
          · go_wp2_with (first
              | (go_at_call 36; refine (c1.out _).mono ?_; rintro e w' ⟨rfl, rfl⟩)
              | (go_at_call 19; refine (c2.out _).mono ?_; rintro e w' ⟨A, c, rfl, _, _, b⟩))
            go_ret
            exact ⟨by rw [HE.out, h4]; simp, b⟩
          · have e1 : (l == [46]) = false := by simpa using h4
            by_cases h5 : l = [46, 46]
            · go_wp2_with (first
                | (go_at_call 36; refine (c1.out _).mono ?_; rintro e w' ⟨rfl, rfl⟩)
                | (go_at_call 19; refine (c2.out _).mono ?_; rintro e w' ⟨A, c, rfl, _, _, b⟩))
              go_ret
              exact ⟨by rw [HE.out, h5]; simp, b⟩
            · have e2 : (l == [46, 46]) = false := by simpa using h5
              go_wp2_with (first
                | (go_at_call 36; refine (c1.out _).mono ?_; rintro e w' ⟨rfl, rfl⟩)
                | (go_at_call 19; refine (c2.out _).mono ?_; rintro e w' ⟨A, c, rfl, _, _, b⟩))
              go_ret
              exact ⟨by rw [HE.out, hd1, hd2, hd3, e1, e2]; rfl, b⟩
        · have hd3 : decide (m = 1) = false := decide_eq_false h3
          go_wp2_with (first
            | (go_at_call 36; refine (c1.out _).mono ?_; rintro e w' ⟨rfl, rfl⟩)
            | (go_at_call 19; refine (c2.out _).mono ?_; rintro e w' ⟨A, c, rfl, _, _, b⟩))
          go_ret
          exact ⟨by rw [HE.out, hd3]; simp, b⟩
    · have hd2 : decide (n ≤ 32) = false := decide_eq_false h2
      go_wp2
      go_ret
      exact ⟨by rw [HE.out, hd2]; simp, HB.out⟩
  · have hd1 : decide (1 ≤ n) = false := decide_eq_false h1
    go_wp2
    go_ret
    exact ⟨by rw [HE.out, hd1]; simp, HB.out⟩

set_option maxHeartbeats 1600000 in
theorem RtRight1_any (l : List UInt8) (hl : l.length ≤ 9223372036854775806) (w : World) : Calls Tryd.prog 37 #[.string (strB l)] w fun e w' => e = .returned (.bool (!nameB l)) ∧ Below w.heap.size w w' := by
  have c1 := Lib.hid (fun w => RtName_any l hl w)
  obtain ⟨r, hr⟩ : ∃ r, nameB l = r := ⟨_, rfl⟩
  rw [hr] at c1 ⊢
  clear hr
  go_enter Tryd.func37, Tryd.ntmps37
  go_wp2_with (go_at_call 11; refine (c1.out _).mono ?_; rintro e w' ⟨rfl, rfl⟩)
  go_ret
  exact ⟨rfl, (Fr.refl (fun _ => False) w).below (fun _ _ e => e)⟩
theorem enter_right1 : ∀ args w, (callFunc 37 args).run Tryd.prog w = .ok (.enter 37 args) w := enters_of Tryd.func37 (by kernel_rfl) rfl

theorem right_eq (l : List UInt8) (n : Nat) (hn : l.length = n) (h : l ≠ []) : rightB l = (decide (n ≤ 120) && (decide ((prt l).length ≤ 6) && !(prt l).any fun p => !nameB p)) := by
  rw [rightB, hn, prt_of h, show (l == []) = false by simpa using h]
  congr 3
  rw [Bool.eq_iff_iff]
  simp
set_option maxHeartbeats 3200000 in
theorem RtRight_any (l : List UInt8) (hl : l.length ≤ 900000) (w : World) : Calls Tryd.prog 13 #[.string (strB l)] w fun e w' => e = .returned (.bool (rightB l)) ∧ Below w.heap.size w w' := by
  have c1 := Lib.hid (fun w => RtParts_any l hl w)
  have c2 := Lib.hid (fun A c w' (h : Lies w' A (strV (prt l))) => GContFuncS_any 37 #[] A c (prt l) (fun p => !nameB p) w' enter_right1 (by have := prt_len l; omega)
    (fun q i hi => RtRight1_any _ (by
      have hne : l ≠ [] := fun e => by rw [e] at hi; simp [prt] at hi
      rw [prt_of hne] at hi ⊢
      have := spl_len_le l ((spl l).getD i []) (by rw [List.getD_eq_getElem?_getD, List.getElem?_eq_getElem hi]; exact List.getElem_mem hi)
      omega) _) h)
  have hsz := strB_size l
  have hL := strB_list l
  have HN : Hid (rightB [] = false) := Lib.hid rfl
  obtain ⟨S, hS⟩ : ∃ S, strB l = S := ⟨_, rfl⟩
  obtain ⟨n, hn⟩ : ∃ n, l.length = n := ⟨_, rfl⟩
  rw [hS] at hsz hL c1 ⊢
  have HE := Lib.hid (right_eq l n hn)
  have HL0 : Hid (l = [] → n = 0) := Lib.hid (fun e => by rw [← hn, e]; rfl)
  rw [hn] at hsz hl
  obtain ⟨b, hb⟩ : ∃ b, ((prt l).any fun p => !nameB p) = b := ⟨_, rfl⟩
  rw [hb] at c2 HE
  obtain ⟨m, hm⟩ : ∃ b, (prt l).length = b := ⟨_, rfl⟩
  rw [hm] at c1 c2 HE
  have HB := Lib.hid ((Fr.refl (fun _ => False) w).below (fun _ _ e => e))
  clear hb hm hn hS
  go_enter Tryd.func13, Tryd.ntmps13
  by_cases h0 : l = []
  · go_wp2
    go_ret
    exact ⟨by rw [h0, HN.out]; rfl, HB.out⟩
  · have h0' : l.isEmpty = false := by simpa using h0
    have HE' := Lib.hid (HE.out h0)
    obtain ⟨r, hr⟩ : ∃ r, rightB l = r := ⟨_, rfl⟩
    rw [hr] at HE' ⊢
    clear hr
    by_cases h1 : n ≤ 120
    · have hd1 : decide (n ≤ 120) = true := decide_eq_true h1
      by_cases h2 : m ≤ 6
      · have hd2 : decide (m ≤ 6) = true := decide_eq_true h2
        go_wp2_with (first
          | (go_at_call 18; refine (c1.out _).mono ?_; rintro e w1 ⟨A, c, rfl, hc, hli, b1⟩)
          | (go_at_call 38; refine (c2.out _ _ _ hli).mono ?_; rintro e w2 ⟨rfl, b2⟩))
        go_ret
        exact ⟨by rw [HE'.out, hd1, hd2]; rfl, ((Fr.of_below (S := fun _ => False) b1).then_below b2).below (fun _ _ e => e)⟩
      · have hd2 : decide (m ≤ 6) = false := decide_eq_false h2
        go_wp2_with (go_at_call 18; refine (c1.out _).mono ?_; rintro e w1 ⟨A, c, rfl, hc, hli, b1⟩)
        go_ret
        exact ⟨by rw [HE'.out, hd2]; simp, b1⟩
    · have hd1 : decide (n ≤ 120) = false := decide_eq_false h1
      go_wp2
      go_ret
      exact ⟨by rw [HE'.out, hd1]; simp, HB.out⟩

/-- As far as here, all are right. -/
theorem all_of {ps : List (List UInt8)} {p : List UInt8 → Bool} (h : ∀ j, j < ps.length → p (ps.getD j []) = true) : ps.all p = true := by
  rw [List.all_eq_true]
  intro x hx
  obtain ⟨j, hj, rfl⟩ := List.getElem_of_mem hx
  have := h j hj
  rwa [List.getD_eq_getElem?_getD, List.getElem?_eq_getElem hj, Option.getD_some] at this
theorem not_all {ps : List (List UInt8)} {p : List UInt8 → Bool} {j : Nat} (hj : j < ps.length) (h : p (ps.getD j []) = false) : ps.all p = false := by
  rw [← Bool.not_eq_true, List.all_eq_true]
  intro ha
  rw [List.getD_eq_getElem?_getD, List.getElem?_eq_getElem hj, Option.getD_some] at h
  rw [ha _ (List.getElem_mem hj)] at h
  cases h
theorem right_doc (l : List UInt8) (n : Nat) (hn : l.length = n) : rightB l = (decide (n ≤ 120) && ((prt l).all nameB && (decide (1 ≤ (prt l).length) && decide ((prt l).length ≤ 6)))) := by
  by_cases h : l = []
  · subst h; subst hn; rfl
  · rw [rightB, hn, prt_of h, show (l == []) = false by simpa using h, decide_eq_true (show 1 ≤ (spl l).length from List.length_pos_iff.2 (spl_ne l))]
    simp only [Bool.not_false, Bool.true_and]
    rw [Bool.and_comm (decide _) ((spl l).all nameB)]
theorem part_small (l : List UInt8) (i : Nat) (hi : i < (prt l).length) : ((prt l).getD i []).length ≤ l.length := by
  have hne : l ≠ [] := fun e => by rw [e] at hi; simp [prt] at hi
  rw [prt_of hne] at hi ⊢
  exact spl_len_le l ((spl l).getD i []) (by rw [List.getD_eq_getElem?_getD, List.getElem?_eq_getElem hi]; exact List.getElem_mem hi)
set_option maxHeartbeats 3200000 in
theorem QrRight_any (l : List UInt8) (hl : l.length ≤ 900000) (w : World) : Calls Tryd.prog 14 #[.string (strB l)] w fun e w' => e = .returned (.bool (rightB l)) ∧ Below w.heap.size w w' := by
  have c1 := Lib.hid (fun w => QrParts_any l hl w)
  have c2 := Lib.hid (fun i (hi : i < (prt l).length) w => QrName_any ((prt l).getD i []) (by have := part_small l i hi; omega) w)
  have HLs := Lib.hid (fun (w w' : World) (A : Option Addr) (h : Lies w A (strV (prt l))) (f : Fr (fun _ => False) w w') => lies_str h f)
  have hA := Lib.hid (all_of (ps := prt l) (p := nameB))
  have hNA := Lib.hid (fun j => not_all (ps := prt l) (p := nameB) (j := j))
  have hmb := prt_len l
  have hsz := strB_size l
  obtain ⟨S, hS⟩ : ∃ S, strB l = S := ⟨_, rfl⟩
  obtain ⟨n, hn⟩ : ∃ n, l.length = n := ⟨_, rfl⟩
  rw [hS] at hsz c1 ⊢
  have HE := Lib.hid (right_doc l n hn)
  rw [hn] at hsz hl hmb
  obtain ⟨b, hb⟩ : ∃ b, (prt l).all nameB = b := ⟨_, rfl⟩
  rw [hb] at HE hA hNA
  obtain ⟨r, hr⟩ : ∃ b, rightB l = b := ⟨_, rfl⟩
  rw [hr] at HE ⊢
  obtain ⟨m, hm⟩ : ∃ b, (prt l).length = b := ⟨_, rfl⟩
  rw [hm] at c1 c2 HE HLs hA hNA hmb
  obtain ⟨PP, hPP⟩ : ∃ P, prt l = P := ⟨_, rfl⟩
  rw [hPP] at c1 c2 HLs hA hNA
  clear hb hr hm hn hS hPP
  go_enter Tryd.func14, Tryd.ntmps14
  by_cases h1 : n ≤ 120
  · have hd1 : decide (n ≤ 120) = true := decide_eq_true h1
    go_wp2_with (go_at_call 19; refine (c1.out _).mono ?_; rintro e w1 ⟨A, c, rfl, hc, hli, b1⟩)
    have HL := Lib.hid hli
    have HB1 := Lib.hid b1
    clear hli b1
    go_loopw [4] (fun i wr => ∃ k : Nat, k ≤ m ∧ i = .int .i64 k ∧ Hid (∀ j, j < k → nameB (PP.getD j []) = true) ∧ Fr (fun _ => False) w1 wr) (fun i _ => m - (intOf i).toNat)
    case atStart => exact ⟨0, by omega, rfl, Lib.hid (fun j hj => by omega), Fr.refl _ _⟩
    case round =>
      obtain ⟨k, hk, rfl, hI, hfr⟩ := hrel
      have HFr := Lib.hid hfr
      by_cases hlt : k < m
      · obtain ⟨bb, o, rfl, hcell⟩ := HLs.out _ _ _ HL.out hfr k hlt
        have hcall := c2.out k hlt
        obtain ⟨x, hx⟩ : ∃ x, PP.getD k [] = x := ⟨_, rfl⟩
        have HX := Lib.hid hx
        rw [hx] at hcell hcall
        obtain ⟨X, hX⟩ : ∃ S, strB x = S := ⟨_, rfl⟩
        rw [hX] at hcell hcall
        obtain ⟨b0, hb0⟩ : ∃ b, nameB x = b := ⟨_, rfl⟩
        rw [hb0] at hcall
        have HB0 := Lib.hid hb0
        have HC := Lib.hid hcall
        clear hx hX hb0 hcall hfr
        cases b0
        · go_wp2_with (go_at_call 12; refine (HC.out _).mono ?_; rintro e w3 ⟨rfl, b3⟩)
          go_ret
          exact ⟨by rw [HE.out, hNA.out k hlt (by rw [HX.out, HB0.out])]; simp, ((Fr.of_below (S := fun _ => False) HB1.out).trans (HFr.out.then_below b3) (fun _ _ e => e)).below (fun _ _ e => e)⟩
        · go_wp2_with (go_at_call 12; refine (HC.out _).mono ?_; rintro e w3 ⟨rfl, b3⟩)
          have HF3 := Lib.hid (HFr.out.then_below b3)
          go_roundw
          case rel => exact ⟨k + 1, by omega, by go_num, Lib.hid (fun j hj => (by omega : j < k ∨ j = k).elim (hI.out j) (fun e => by rw [e, HX.out, HB0.out])), HF3.out⟩
          case measure => simp [intOf]; omega
      · obtain rfl : k = m := by omega
        have HBl := Lib.hid (((Fr.of_below (S := fun _ => False) HB1.out).trans hfr (fun _ _ e => e)).below (fun _ _ e => e))
        have HAll := Lib.hid (hA.out hI.out)
        clear hfr
        by_cases h2 : 1 ≤ k
        · have hd2 : decide (1 ≤ k) = true := decide_eq_true h2
          by_cases h3 : k ≤ 6
          · have hd3 : decide (k ≤ 6) = true := decide_eq_true h3
            go_wp2_with fail
            go_ret
            exact ⟨by rw [HE.out, hd1, hd2, hd3, HAll.out]; simp; omega, HBl.out⟩
          · have hd3 : decide (k ≤ 6) = false := decide_eq_false h3
            go_wp2_with fail
            go_ret
            exact ⟨by rw [HE.out, hd3]; simp; omega, HBl.out⟩
        · have hd2 : decide (1 ≤ k) = false := decide_eq_false h2
          go_wp2_with fail
          go_ret
          exact ⟨by rw [HE.out, hd2]; simp, HBl.out⟩
  · have hd1 : decide (n ≤ 120) = false := decide_eq_false h1
    go_wp2
    go_ret
    exact ⟨by rw [HE.out, hd1]; simp, (Fr.refl (fun _ => False) _).below (fun _ _ e => e)⟩

/-! Patterns. -/
theorem pat_eq (l : List UInt8) (n : Nat) (hn : l.length = n) (h : l ≠ []) : patB l = (decide (n ≤ 120) && visB l && (decide ((prt l).length ≤ 8) && !(prt l).contains [])) := by
  rw [patB, hn, prt_of h, show (l == []) = false by simpa using h]
  simp only [Bool.not_false, Bool.true_and]
set_option maxHeartbeats 3200000 in
theorem RtPattern_any (l : List UInt8) (hl : l.length ≤ 900000) (w : World) : Calls Tryd.prog 15 #[.string (strB l)] w fun e w' => e = .returned (.bool (patB l)) ∧ Below w.heap.size w w' := by
  have c0 := Lib.hid (fun w => Rtvisible_any l (by omega) w)
  have c1 := Lib.hid (fun w => RtParts_any l hl w)
  have c2 : Hid (∀ A c w' (h : Lies w' A (strV (prt l))), Calls Tryd.prog 39 #[.slice A (prt l).length c, .string (ByteArray.mk #[])] w' fun e w'' => e = .returned (.bool ((prt l).contains [])) ∧ w' = w'') := Lib.hid (fun A c w' h => GContS_any A c (prt l) [] w' (by have := prt_len l; omega) h)
  have hsz := strB_size l
  have hL := strB_list l
  have HN : Hid (patB [] = false) := Lib.hid rfl
  obtain ⟨S, hS⟩ : ∃ S, strB l = S := ⟨_, rfl⟩
  obtain ⟨n, hn⟩ : ∃ n, l.length = n := ⟨_, rfl⟩
  rw [hS] at hsz hL c0 c1 ⊢
  have HE := Lib.hid (pat_eq l n hn)
  have HL0 : Hid (l = [] → n = 0) := Lib.hid (fun e => by rw [← hn, e]; rfl)
  rw [hn] at hsz hl
  obtain ⟨v, hv⟩ : ∃ b, visB l = b := ⟨_, rfl⟩
  rw [hv] at c0 HE
  obtain ⟨b, hb⟩ : ∃ b, (prt l).contains [] = b := ⟨_, rfl⟩
  rw [hb] at c2 HE
  obtain ⟨m, hm⟩ : ∃ b, (prt l).length = b := ⟨_, rfl⟩
  rw [hm] at c1 c2 HE
  have HB := Lib.hid ((Fr.refl (fun _ => False) w).below (fun _ _ e => e))
  clear hb hm hn hS hv
  go_enter Tryd.func15, Tryd.ntmps15
  by_cases h0 : l = []
  · go_wp2
    go_ret
    exact ⟨by rw [h0, HN.out]; rfl, HB.out⟩
  · have h0' : l.isEmpty = false := by simpa using h0
    have HE' := Lib.hid (HE.out h0)
    obtain ⟨r, hr⟩ : ∃ r, patB l = r := ⟨_, rfl⟩
    rw [hr] at HE' ⊢
    clear hr
    by_cases h1 : n ≤ 120
    · have hd1 : decide (n ≤ 120) = true := decide_eq_true h1
      cases v
      · go_wp2_with (go_at_call 34; refine (c0.out _).mono ?_; rintro e w1 ⟨rfl, rfl⟩)
        go_ret
        exact ⟨by rw [HE'.out]; simp, HB.out⟩
      · by_cases h2 : m ≤ 8
        · have hd2 : decide (m ≤ 8) = true := decide_eq_true h2
          go_wp2_with (first
            | (go_at_call 34; refine (c0.out _).mono ?_; rintro e w1 ⟨rfl, rfl⟩)
            | (go_at_call 18; refine (c1.out _).mono ?_; rintro e w1 ⟨A, c, rfl, hc, hli, b1⟩)
            | (go_at_call 39; refine (c2.out _ _ _ hli).mono ?_; rintro e w2 ⟨rfl, rfl⟩))
          go_ret
          exact ⟨by rw [HE'.out, hd1, hd2]; rfl, b1⟩
        · have hd2 : decide (m ≤ 8) = false := decide_eq_false h2
          go_wp2_with (first
            | (go_at_call 34; refine (c0.out _).mono ?_; rintro e w1 ⟨rfl, rfl⟩)
            | (go_at_call 18; refine (c1.out _).mono ?_; rintro e w1 ⟨A, c, rfl, hc, hli, b1⟩))
          go_ret
          exact ⟨by rw [HE'.out, hd2]; simp, b1⟩
    · have hd1 : decide (n ≤ 120) = false := decide_eq_false h1
      go_wp2
      go_ret
      exact ⟨by rw [HE'.out, hd1]; simp, HB.out⟩

theorem pat_doc (l : List UInt8) (n : Nat) (hn : l.length = n) : patB l = (decide (1 ≤ n) && decide (n ≤ 120) && visB l && ((prt l).all (fun p => !(p == [])) && decide ((prt l).length ≤ 8))) := by
  by_cases h : l = []
  · subst h; subst hn; rfl
  · have h1 : 1 ≤ n := by rw [← hn]; exact List.length_pos_iff.2 h
    rw [pat_eq l n hn h, decide_eq_true h1, Bool.true_and, Bool.and_comm (decide ((prt l).length ≤ 8))]
    congr 2
    rw [Bool.eq_iff_iff]
    simp
    exact ⟨fun h x hx e => h (e ▸ hx), fun h hm => h [] hm rfl⟩
set_option maxHeartbeats 3200000 in
theorem QrPattern_any (l : List UInt8) (hl : l.length ≤ 900000) (w : World) : Calls Tryd.prog 16 #[.string (strB l)] w fun e w' => e = .returned (.bool (patB l)) ∧ Below w.heap.size w w' := by
  have c0 := Lib.hid (fun w => Qrseen_any l (by omega) w)
  have c1 := Lib.hid (fun w => QrParts_any l hl w)
  have HLs := Lib.hid (fun (w w' : World) (A : Option Addr) (h : Lies w A (strV (prt l))) (f : Fr (fun _ => False) w w') => lies_str h f)
  have hA := Lib.hid (all_of (ps := prt l) (p := fun p => !(p == [])))
  have hNA := Lib.hid (fun j => not_all (ps := prt l) (p := fun p => !(p == [])) (j := j))
  have hmb := prt_len l
  have hsz := strB_size l
  have HSL := Lib.hid strB_list
  obtain ⟨S, hS⟩ : ∃ S, strB l = S := ⟨_, rfl⟩
  obtain ⟨n, hn⟩ : ∃ n, l.length = n := ⟨_, rfl⟩
  rw [hS] at hsz c0 c1 ⊢
  have HE := Lib.hid (pat_doc l n hn)
  rw [hn] at hsz hl hmb
  obtain ⟨v, hv⟩ : ∃ b, visB l = b := ⟨_, rfl⟩
  rw [hv] at c0 HE
  obtain ⟨b, hb⟩ : ∃ b, (prt l).all (fun p => !(p == [])) = b := ⟨_, rfl⟩
  rw [hb] at HE hA hNA
  obtain ⟨r, hr⟩ : ∃ b, patB l = b := ⟨_, rfl⟩
  rw [hr] at HE ⊢
  obtain ⟨m, hm⟩ : ∃ b, (prt l).length = b := ⟨_, rfl⟩
  rw [hm] at c1 HE HLs hA hNA hmb
  obtain ⟨PP, hPP⟩ : ∃ P, prt l = P := ⟨_, rfl⟩
  rw [hPP] at c1 HLs hA hNA
  have HB := Lib.hid ((Fr.refl (fun _ => False) w).below (fun _ _ e => e))
  clear hb hr hm hn hS hPP hv
  go_enter Tryd.func16, Tryd.ntmps16
  by_cases h0 : 1 ≤ n
  · have hd0 : decide (1 ≤ n) = true := decide_eq_true h0
    by_cases h1 : n ≤ 120
    · have hd1 : decide (n ≤ 120) = true := decide_eq_true h1
      cases v
      · go_wp2_with (go_at_call 36; refine (c0.out _).mono ?_; rintro e w1 ⟨rfl, rfl⟩)
        go_ret
        exact ⟨by rw [HE.out]; simp, HB.out⟩
      · go_wp2_with (first
          | (go_at_call 36; refine (c0.out _).mono ?_; rintro e w1 ⟨rfl, rfl⟩)
          | (go_at_call 19; refine (c1.out _).mono ?_; rintro e w1 ⟨A, c, rfl, hc, hli, b1⟩))
        have HL := Lib.hid hli
        have HB1 := Lib.hid b1
        clear hli b1
        go_loopw [4] (fun i wr => ∃ k : Nat, k ≤ m ∧ i = .int .i64 k ∧ Hid (∀ j, j < k → (!(PP.getD j [] == [])) = true) ∧ wr = w1) (fun i _ => m - (intOf i).toNat)
        case atStart => exact ⟨0, by omega, rfl, Lib.hid (fun j hj => by omega), rfl⟩
        case round =>
          obtain ⟨k, hk, rfl, hI, rfl⟩ := hrel
          by_cases hlt : k < m
          · obtain ⟨bb, o, rfl, hcell⟩ := HLs.out _ _ _ HL.out (Fr.refl _ _) k hlt
            obtain ⟨x, hx⟩ : ∃ x, PP.getD k [] = x := ⟨_, rfl⟩
            have HX := Lib.hid hx
            have hxl := HSL.out x
            rw [hx] at hcell
            obtain ⟨X, hX⟩ : ∃ S, strB x = S := ⟨_, rfl⟩
            rw [hX] at hcell hxl
            clear hx hX
            by_cases h3 : x = []
            · go_wp2_with fail
              go_ret
              exact ⟨by rw [HE.out, hNA.out k hlt (by rw [HX.out, h3]; rfl)]; simp, HB1.out⟩
            · have h3' : x.isEmpty = false := by simpa using h3
              go_wp2_with fail
              go_roundw
              case rel => exact ⟨k + 1, by omega, by go_num, Lib.hid (fun j hj => (by omega : j < k ∨ j = k).elim (hI.out j) (fun e => by rw [e, HX.out]; simpa using h3)), trivial⟩
              case measure => simp [intOf]; omega
          · obtain rfl : k = m := by omega
            have HAll := Lib.hid (hA.out hI.out)
            by_cases h3 : k ≤ 8
            · have hd3 : decide (k ≤ 8) = true := decide_eq_true h3
              go_wp2_with fail
              go_ret
              exact ⟨by rw [HE.out, hd0, hd1, hd3, HAll.out]; simp; omega, HB1.out⟩
            · have hd3 : decide (k ≤ 8) = false := decide_eq_false h3
              go_wp2_with fail
              go_ret
              exact ⟨by rw [HE.out, hd3]; simp; omega, HB1.out⟩
    · have hd1 : decide (n ≤ 120) = false := decide_eq_false h1
      go_wp2
      go_ret
      exact ⟨by rw [HE.out, hd1]; simp, HB.out⟩
  · have hd1 : decide (1 ≤ n) = false := decide_eq_false h0
    go_wp2
    go_ret
    exact ⟨by rw [HE.out, hd1]; simp, HB.out⟩
end Go.Proofs.YtnekddpnajgmdaaDoor

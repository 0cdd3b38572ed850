/- What is proved: numbers out of texts, by the program and by the document; whether a text is too long, a number a time. Conditions: the text is not too long for any machine. -/
import Derived.Test.YtppddpbacpeadaaDoorRvc
namespace Go.Proofs.YtppddpbacpeadaaDoor
open Go.RowKit Go.Sort Go.Shelf
set_option linter.unusedVariables false

theorem badN_nil : badN [] = true := by decide
theorem badN_long {l : List UInt8} (h : 15 < l.length) : badN l = true := by simp [badN, h]
theorem badN_zero {l : List UInt8} (h : 1 < l.length) (h2 : l.getD 0 0 = 48) : badN l = true := by
  unfold badN
  rw [decide_eq_true h, h2]
  simp
theorem badN_not {l : List UInt8} (h : 1 ≤ l.length) (h2 : l.length ≤ 15) (h3 : 1 < l.length → l.getD 0 0 ≠ 48) : badN l = false := by
  unfold badN
  rw [decide_eq_false (by omega), decide_eq_false (by omega)]
  by_cases h1 : 1 < l.length
  · rw [decide_eq_true h1]
    have := h3 h1
    simp only [Bool.false_or, Bool.true_and, beq_eq_false_iff_ne]
    exact this
  · rw [decide_eq_false h1]; rfl
theorem isDig_iff (c : UInt8) : isDig c = true ↔ 48 ≤ c.toNat ∧ c.toNat ≤ 57 := by simp [isDig]
theorem byte_48 {c : UInt8} (h : (c.toNat : Int) = 48) : c = 48 := UInt8.toNat_inj.1 (by show _ = 48; omega)

theorem wrap_n (k : Nat) (h : k ≤ 9223372036854775807) : IntKind.i64.wrap (k : Int) = k := by rw [IntKind.wrap_i64]; omega

set_option maxHeartbeats 3200000 in
set_option maxRecDepth 100000 in
theorem VNumber_any (l : List UInt8) (hl : l.length ≤ 9223372036854775806) (w : World) : Calls Tryd.prog 10 #[.string (strB l)] w fun e w' => e = .returned (.tuple #[.int .i64 (numW l).1, .int .i64 (numW l).2]) ∧ w = w' := by
  have HIX := Lib.hid (fun k hk w => index_str (P := Tryd.prog) w Tryd.underlying9 l k hk)
  have hsz := strB_size l
  have hL := strB_list l
  obtain ⟨W, hW⟩ : ∃ W, numW l = W := ⟨_, rfl⟩
  have HNot := Lib.hid (fun k hk hc => (numW_not (not_all (l := l) (k := k) hk hc)).symm.trans hW)
  have HB1 := Lib.hid (fun h => (numW_bad (l := l) h).symm.trans hW)
  have HOk := Lib.hid (fun h h2 => (numW_ok (l := l) h h2).symm.trans hW)
  rw [hW]
  obtain ⟨n, hn⟩ : ∃ n, l.length = n := ⟨_, rfl⟩
  have HLn := Lib.hid hn
  obtain ⟨S, hS⟩ : ∃ S, strB l = S := ⟨_, rfl⟩
  rw [hS] at HIX hsz hL ⊢
  rw [hn] at HIX HNot hsz hl
  clear hS hW hn
  go_enter Tryd.func10, Tryd.ntmps10
  by_cases h0 : l = []
  · have HBad := Lib.hid (HB1.out (by rw [h0]; exact badN_nil))
    have hn0 : n = 0 := by have := HLn.out; rw [h0] at this; exact this.symm
    subst hn0
    subst h0
    clear HB1 HOk HNot HIX HLn
    go_wp2_with fail
    go_ret2
    exact ⟨by rw [← HBad.out]; rfl, rfl⟩
  · have hn1 : 1 ≤ n := by rw [← HLn.out]; exact List.length_pos_iff.2 h0
    have e3 : l.isEmpty = false := by simpa using h0
    by_cases h15 : 15 < n
    · have hz15 : (15 : Int) < n := by omega
      have HBad := Lib.hid (HB1.out (badN_long (by rw [HLn.out]; exact h15)))
      clear HB1 HOk HNot HIX
      go_wp2_with fail
      go_ret2
      exact ⟨by rw [← HBad.out]; rfl, rfl⟩
    · have hz15 : ¬ (15 : Int) < n := by omega
      have hix0 := fun w => HIX.out 0 (by omega) w
      rw [show ((0 : Nat) : Int) = 0 from rfl] at hix0
      obtain ⟨c, hc⟩ : ∃ c : Int, ((l.getD 0 0).toNat : Int) = c := ⟨_, rfl⟩
      rw [hc] at hix0
      by_cases hbz : 1 < n ∧ c = 48
      · have hz1 : (1 : Int) < n := by omega
        have HBad := Lib.hid (HB1.out (badN_zero (by rw [HLn.out]; exact hbz.1) (byte_48 (by omega))))
        obtain ⟨_, hc48⟩ := hbz
        subst hc48
        clear HB1 HOk HNot HIX hc
        go_wp2_with fail
        go_ret2
        exact ⟨by rw [← HBad.out]; rfl, rfl⟩
      · have HOK2 := Lib.hid (HOk.out (badN_not (by rw [HLn.out]; exact hn1) (by rw [HLn.out]; omega) (fun h1 h2 => hbz ⟨by rw [← HLn.out]; exact h1, by rw [← hc, h2]; rfl⟩)))
        clear HB1 HOk hc
        by_cases h1 : 1 < n
        · have hz1 : (1 : Int) < n := by omega
          have hc48 : ¬ c = 48 := fun e => hbz ⟨h1, e⟩
          clear hbz
          go_wp2_with fail
          clear hix0 hc48
          (
            go_loopg [4, 25] n (fun kx s4 s25 wr => ∃ k v : Nat, s25 = .int .i64 k ∧ s4 = .int .i64 v ∧ k ≤ n ∧ n - k ≤ kx ∧ w = wr ∧ Hid ((l.take k).all isDig = true) ∧ Hid (valN (l.take k) = v))
            case atStart => exact ⟨0, 0, rfl, rfl, by omega, by omega, rfl, Lib.hid (by simp), Lib.hid (by rfl)⟩
            case round =>
              obtain ⟨k, v, rfl, rfl, hk, hkx, rfl, HD, HV⟩ := hrel
              by_cases hlt : k < n
              · have hixk := fun w => HIX.out k hlt w
                have hv := valN_small HD.out (by rw [List.length_take]; omega)
                rw [HV.out] at hv
                have HVS : Hid (valN (l.take (k + 1)) = 10 * v + ((l.getD k 0).toNat - 48)) := Lib.hid (by rw [take_snoc l k (by rw [HLn.out]; exact hlt), valN_snoc, HV.out])
                have HDS := Lib.hid (fun hc => all_take_step (l := l) (k := k) (by rw [HLn.out]; exact hlt) HD.out hc)
                have HNk := Lib.hid (HNot.out k hlt)
                have HDi := Lib.hid (isDig_iff (l.getD k 0))
                obtain ⟨x, hx⟩ : ∃ x, l.getD k 0 = x := ⟨_, rfl⟩
                rw [hx] at hixk HVS HDS HNk HDi
                obtain ⟨cn, hcn⟩ : ∃ cn : Nat, x.toNat = cn := ⟨_, rfl⟩
                have hcb : cn ≤ 255 := by have := x.toNat_lt; omega
                rw [hcn] at hixk HVS HDi
                obtain ⟨c, hc⟩ : ∃ c : Int, ((cn : Nat) : Int) = c := ⟨_, rfl⟩
                rw [hc] at hixk
                have HCn := Lib.hid hc
                have hc0 : 0 ≤ c := by omega
                have hc1 : c ≤ 255 := by omega
                have wk : IntKind.i64.wrap (k : Int) = k := wrap_n k (by omega)
                by_cases c1 : c < 48
                · have HBad := Lib.hid (HNk.out (by
                    cases hd : isDig x with
                    | false => rfl
                    | true => have := HDi.out.1 hd; have := HCn.out; omega))
                  clear hc hcn hx hcb
                  go_wp2_with fail
                  (try simp only [Exit.inBlock, Exit.then])
                  go_ret2
                  exact ⟨by rw [← HBad.out]; rfl, rfl⟩
                · by_cases c2 : 57 < c
                  · have HBad := Lib.hid (HNk.out (by
                      cases hd : isDig x with
                      | false => rfl
                      | true => have := HDi.out.1 hd; have := HCn.out; omega))
                    clear hc hcn hx hcb
                    go_wp2_with fail
                    (try simp only [Exit.inBlock, Exit.then])
                    go_ret2
                    exact ⟨by rw [← HBad.out]; rfl, rfl⟩
                  · have HDg := Lib.hid (HDi.out.2 (by have := HCn.out; omega))
                    have u1 : IntKind.u8.wrap (c - 48) = c - 48 := by rw [IntKind.wrap_u8]; omega
                    have u2 : IntKind.i64.wrap (c - 48) = c - 48 := by rw [IntKind.wrap_i64]; omega
                    have u3 : IntKind.i64.wrap (10 * (v : Int)) = 10 * (v : Int) := by rw [IntKind.wrap_i64]; omega
                    have u4 : IntKind.i64.wrap (10 * (v : Int) + (c - 48)) = 10 * (v : Int) + (c - 48) := by rw [IntKind.wrap_i64]; omega
                    have HNum : Hid (10 * (v : Int) + (c - 48) = ((10 * v + (cn - 48) : Nat) : Int)) := Lib.hid (by have := HCn.out; omega)
                    clear hc hcn hx hcb hv
                    go_wp2_with fail
                    go_roundg (n - (k + 1))
                    case measure => omega
                    case rel => exact ⟨k + 1, 10 * v + (cn - 48), by go_num, by rw [HNum.out], by omega, Nat.le_refl _, rfl, Lib.hid (HDS.out HDg.out), HVS⟩
              · obtain rfl : k = n := by omega
                have hall : l.take k = l := List.take_of_length_le (by rw [HLn.out]; exact Nat.le_refl _)
                have hd := HD.out
                have hv := HV.out
                rw [hall] at hd hv
                have HW := Lib.hid (HOK2.out hd)
                rw [hv] at HW
                clear hall hd hv HD HV
                go_wp2_with fail
                go_ret2
                exact ⟨by rw [← HW.out]; rfl, rfl⟩)
        · have hz1 : ¬ (1 : Int) < n := by omega
          clear hbz
          go_wp2_with fail
          clear hix0
          (
            go_loopg [4, 25] n (fun kx s4 s25 wr => ∃ k v : Nat, s25 = .int .i64 k ∧ s4 = .int .i64 v ∧ k ≤ n ∧ n - k ≤ kx ∧ w = wr ∧ Hid ((l.take k).all isDig = true) ∧ Hid (valN (l.take k) = v))
            case atStart => exact ⟨0, 0, rfl, rfl, by omega, by omega, rfl, Lib.hid (by simp), Lib.hid (by rfl)⟩
            case round =>
              obtain ⟨k, v, rfl, rfl, hk, hkx, rfl, HD, HV⟩ := hrel
              by_cases hlt : k < n
              · have hixk := fun w => HIX.out k hlt w
                have hv := valN_small HD.out (by rw [List.length_take]; omega)
                rw [HV.out] at hv
                have HVS : Hid (valN (l.take (k + 1)) = 10 * v + ((l.getD k 0).toNat - 48)) := Lib.hid (by rw [take_snoc l k (by rw [HLn.out]; exact hlt), valN_snoc, HV.out])
                have HDS := Lib.hid (fun hc => all_take_step (l := l) (k := k) (by rw [HLn.out]; exact hlt) HD.out hc)
                have HNk := Lib.hid (HNot.out k hlt)
                have HDi := Lib.hid (isDig_iff (l.getD k 0))
                obtain ⟨x, hx⟩ : ∃ x, l.getD k 0 = x := ⟨_, rfl⟩
                rw [hx] at hixk HVS HDS HNk HDi
                obtain ⟨cn, hcn⟩ : ∃ cn : Nat, x.toNat = cn := ⟨_, rfl⟩
                have hcb : cn ≤ 255 := by have := x.toNat_lt; omega
                rw [hcn] at hixk HVS HDi
                obtain ⟨c, hc⟩ : ∃ c : Int, ((cn : Nat) : Int) = c := ⟨_, rfl⟩
                rw [hc] at hixk
                have HCn := Lib.hid hc
                have hc0 : 0 ≤ c := by omega
                have hc1 : c ≤ 255 := by omega
                have wk : IntKind.i64.wrap (k : Int) = k := wrap_n k (by omega)
                by_cases c1 : c < 48
                · have HBad := Lib.hid (HNk.out (by
                    cases hd : isDig x with
                    | false => rfl
                    | true => have := HDi.out.1 hd; have := HCn.out; omega))
                  clear hc hcn hx hcb
                  go_wp2_with fail
                  (try simp only [Exit.inBlock, Exit.then])
                  go_ret2
                  exact ⟨by rw [← HBad.out]; rfl, rfl⟩
                · by_cases c2 : 57 < c
                  · have HBad := Lib.hid (HNk.out (by
                      cases hd : isDig x with
                      | false => rfl
                      | true => have := HDi.out.1 hd; have := HCn.out; omega))
                    clear hc hcn hx hcb
                    go_wp2_with fail
                    (try simp only [Exit.inBlock, Exit.then])
                    go_ret2
                    exact ⟨by rw [← HBad.out]; rfl, rfl⟩
                  · have HDg := Lib.hid (HDi.out.2 (by have := HCn.out; omega))
                    have u1 : IntKind.u8.wrap (c - 48) = c - 48 := by rw [IntKind.wrap_u8]; omega
                    have u2 : IntKind.i64.wrap (c - 48) = c - 48 := by rw [IntKind.wrap_i64]; omega
                    have u3 : IntKind.i64.wrap (10 * (v : Int)) = 10 * (v : Int) := by rw [IntKind.wrap_i64]; omega
                    have u4 : IntKind.i64.wrap (10 * (v : Int) + (c - 48)) = 10 * (v : Int) + (c - 48) := by rw [IntKind.wrap_i64]; omega
                    have HNum : Hid (10 * (v : Int) + (c - 48) = ((10 * v + (cn - 48) : Nat) : Int)) := Lib.hid (by have := HCn.out; omega)
                    clear hc hcn hx hcb hv
                    go_wp2_with fail
                    go_roundg (n - (k + 1))
                    case measure => omega
                    case rel => exact ⟨k + 1, 10 * v + (cn - 48), by go_num, by rw [HNum.out], by omega, Nat.le_refl _, rfl, Lib.hid (HDS.out HDg.out), HVS⟩
              · obtain rfl : k = n := by omega
                have hall : l.take k = l := List.take_of_length_le (by rw [HLn.out]; exact Nat.le_refl _)
                have hd := HD.out
                have hv := HV.out
                rw [hall] at hd hv
                have HW := Lib.hid (HOK2.out hd)
                rw [hv] at HW
                clear hall hd hv HD HV
                go_wp2_with fail
                go_ret2
                exact ⟨by rw [← HW.out]; rfl, rfl⟩)
set_option maxHeartbeats 3200000 in
set_option maxRecDepth 100000 in
theorem QvNumber_any (l : List UInt8) (hl : l.length ≤ 9223372036854775806) (w : World) : Calls Tryd.prog 11 #[.string (strB l)] w fun e w' => e = .returned (.tuple #[.int .i64 (numW l).1, .int .i64 (numW l).2]) ∧ w = w' := by
  have HIX := Lib.hid (fun k hk w => index_str (P := Tryd.prog) w Tryd.underlying9 l k hk)
  have hsz := strB_size l
  have hL := strB_list l
  obtain ⟨W, hW⟩ : ∃ W, numW l = W := ⟨_, rfl⟩
  have HNot := Lib.hid (fun k hk hc => (numW_not (not_all (l := l) (k := k) hk hc)).symm.trans hW)
  have HB1 := Lib.hid (fun h => (numW_bad (l := l) h).symm.trans hW)
  have HOk := Lib.hid (fun h h2 => (numW_ok (l := l) h h2).symm.trans hW)
  rw [hW]
  obtain ⟨n, hn⟩ : ∃ n, l.length = n := ⟨_, rfl⟩
  have HLn := Lib.hid hn
  obtain ⟨S, hS⟩ : ∃ S, strB l = S := ⟨_, rfl⟩
  rw [hS] at HIX hsz hL ⊢
  rw [hn] at HIX HNot hsz hl
  clear hS hW hn
  go_enter Tryd.func11, Tryd.ntmps11
  by_cases h0 : l = []
  · have HBad := Lib.hid (HB1.out (by rw [h0]; exact badN_nil))
    have hn0 : n = 0 := by have := HLn.out; rw [h0] at this; exact this.symm
    subst hn0
    subst h0
    clear HB1 HOk HNot HIX HLn
    go_wp2_with fail
    go_ret2
    exact ⟨by rw [← HBad.out]; rfl, rfl⟩
  · have hn1 : 1 ≤ n := by rw [← HLn.out]; exact List.length_pos_iff.2 h0
    have e3 : l.isEmpty = false := by simpa using h0
    by_cases h15 : 15 < n
    · have hz15 : (15 : Int) < n := by omega
      have HBad := Lib.hid (HB1.out (badN_long (by rw [HLn.out]; exact h15)))
      clear HB1 HOk HNot HIX
      go_wp2_with fail
      go_ret2
      exact ⟨by rw [← HBad.out]; rfl, rfl⟩
    · have hz15 : ¬ (15 : Int) < n := by omega
      have hix0 := fun w => HIX.out 0 (by omega) w
      rw [show ((0 : Nat) : Int) = 0 from rfl] at hix0
      obtain ⟨c, hc⟩ : ∃ c : Int, ((l.getD 0 0).toNat : Int) = c := ⟨_, rfl⟩
      rw [hc] at hix0
      by_cases hbz : 1 < n ∧ c = 48
      · have hz1 : (1 : Int) < n := by omega
        have HBad := Lib.hid (HB1.out (badN_zero (by rw [HLn.out]; exact hbz.1) (byte_48 (by omega))))
        obtain ⟨_, hc48⟩ := hbz
        subst hc48
        clear HB1 HOk HNot HIX hc
        go_wp2_with fail
        go_ret2
        exact ⟨by rw [← HBad.out]; rfl, rfl⟩
      · have HOK2 := Lib.hid (HOk.out (badN_not (by rw [HLn.out]; exact hn1) (by rw [HLn.out]; omega) (fun h1 h2 => hbz ⟨by rw [← HLn.out]; exact h1, by rw [← hc, h2]; rfl⟩)))
        clear HB1 HOk hc
        by_cases h1 : 1 < n
        · have hz1 : (1 : Int) < n := by omega
          have hc48 : ¬ c = 48 := fun e => hbz ⟨h1, e⟩
          clear hbz
          go_wp2_with fail
          clear hix0 hc48
          (
            go_loopg [4, 5] n (fun kx s4 s5 wr => ∃ k v : Nat, s5 = .int .i64 k ∧ s4 = .int .i64 v ∧ k ≤ n ∧ n - k ≤ kx ∧ w = wr ∧ Hid ((l.take k).all isDig = true) ∧ Hid (valN (l.take k) = v))
            case atStart => exact ⟨0, 0, rfl, rfl, by omega, by omega, rfl, Lib.hid (by simp), Lib.hid (by rfl)⟩
            case round =>
              obtain ⟨k, v, rfl, rfl, hk, hkx, rfl, HD, HV⟩ := hrel
              by_cases hlt : k < n
              · have hixk := fun w => HIX.out k hlt w
                have hv := valN_small HD.out (by rw [List.length_take]; omega)
                rw [HV.out] at hv
                have HVS : Hid (valN (l.take (k + 1)) = 10 * v + ((l.getD k 0).toNat - 48)) := Lib.hid (by rw [take_snoc l k (by rw [HLn.out]; exact hlt), valN_snoc, HV.out])
                have HDS := Lib.hid (fun hc => all_take_step (l := l) (k := k) (by rw [HLn.out]; exact hlt) HD.out hc)
                have HNk := Lib.hid (HNot.out k hlt)
                have HDi := Lib.hid (isDig_iff (l.getD k 0))
                obtain ⟨x, hx⟩ : ∃ x, l.getD k 0 = x := ⟨_, rfl⟩
                rw [hx] at hixk HVS HDS HNk HDi
                obtain ⟨cn, hcn⟩ : ∃ cn : Nat, x.toNat = cn := ⟨_, rfl⟩
                have hcb : cn ≤ 255 := by have := x.toNat_lt; omega
                rw [hcn] at hixk HVS HDi
                obtain ⟨c, hc⟩ : ∃ c : Int, ((cn : Nat) : Int) = c := ⟨_, rfl⟩
                rw [hc] at hixk
                have HCn := Lib.hid hc
                have hc0 : 0 ≤ c := by omega
                have hc1 : c ≤ 255 := by omega
                have wk : IntKind.i64.wrap (k : Int) = k := wrap_n k (by omega)
                by_cases c1 : c < 48
                · have HBad := Lib.hid (HNk.out (by
                    cases hd : isDig x with
                    | false => rfl
                    | true => have := HDi.out.1 hd; have := HCn.out; omega))
                  clear hc hcn hx hcb
                  go_wp2_with fail
                  (try simp only [Exit.inBlock, Exit.then])
                  go_ret2
                  exact ⟨by rw [← HBad.out]; rfl, rfl⟩
                · by_cases c2 : 57 < c
                  · have HBad := Lib.hid (HNk.out (by
                      cases hd : isDig x with
                      | false => rfl
                      | true => have := HDi.out.1 hd; have := HCn.out; omega))
                    clear hc hcn hx hcb
                    go_wp2_with fail
                    (try simp only [Exit.inBlock, Exit.then])
                    go_ret2
                    exact ⟨by rw [← HBad.out]; rfl, rfl⟩
                  · have HDg := Lib.hid (HDi.out.2 (by have := HCn.out; omega))
                    have u2 : IntKind.i64.wrap c = c := by rw [IntKind.wrap_i64]; omega
                    have u3 : IntKind.i64.wrap ((v : Int) * 10) = (v : Int) * 10 := by rw [IntKind.wrap_i64]; omega
                    have u4 : IntKind.i64.wrap ((v : Int) * 10 + c) = (v : Int) * 10 + c := by rw [IntKind.wrap_i64]; omega
                    have u5 : IntKind.i64.wrap ((v : Int) * 10 + c - 48) = (v : Int) * 10 + c - 48 := by rw [IntKind.wrap_i64]; omega
                    have HNum : Hid ((v : Int) * 10 + c - 48 = ((10 * v + (cn - 48) : Nat) : Int)) := Lib.hid (by have := HCn.out; omega)
                    clear hc hcn hx hcb hv
                    go_wp2_with fail
                    go_roundg (n - (k + 1))
                    case measure => omega
                    case rel => exact ⟨k + 1, 10 * v + (cn - 48), by go_num, by rw [HNum.out], by omega, Nat.le_refl _, rfl, Lib.hid (HDS.out HDg.out), HVS⟩
              · obtain rfl : k = n := by omega
                have hall : l.take k = l := List.take_of_length_le (by rw [HLn.out]; exact Nat.le_refl _)
                have hd := HD.out
                have hv := HV.out
                rw [hall] at hd hv
                have HW := Lib.hid (HOK2.out hd)
                rw [hv] at HW
                clear hall hd hv HD HV
                go_wp2_with fail
                go_ret2
                exact ⟨by rw [← HW.out]; rfl, rfl⟩)
        · have hz1 : ¬ (1 : Int) < n := by omega
          clear hbz
          by_cases hc48 : c = 48
          · subst hc48
            go_wp2_with fail
            clear hix0
            (
              go_loopg [4, 5] n (fun kx s4 s5 wr => ∃ k v : Nat, s5 = .int .i64 k ∧ s4 = .int .i64 v ∧ k ≤ n ∧ n - k ≤ kx ∧ w = wr ∧ Hid ((l.take k).all isDig = true) ∧ Hid (valN (l.take k) = v))
              case atStart => exact ⟨0, 0, rfl, rfl, by omega, by omega, rfl, Lib.hid (by simp), Lib.hid (by rfl)⟩
              case round =>
                obtain ⟨k, v, rfl, rfl, hk, hkx, rfl, HD, HV⟩ := hrel
                by_cases hlt : k < n
                · have hixk := fun w => HIX.out k hlt w
                  have hv := valN_small HD.out (by rw [List.length_take]; omega)
                  rw [HV.out] at hv
                  have HVS : Hid (valN (l.take (k + 1)) = 10 * v + ((l.getD k 0).toNat - 48)) := Lib.hid (by rw [take_snoc l k (by rw [HLn.out]; exact hlt), valN_snoc, HV.out])
                  have HDS := Lib.hid (fun hc => all_take_step (l := l) (k := k) (by rw [HLn.out]; exact hlt) HD.out hc)
                  have HNk := Lib.hid (HNot.out k hlt)
                  have HDi := Lib.hid (isDig_iff (l.getD k 0))
                  obtain ⟨x, hx⟩ : ∃ x, l.getD k 0 = x := ⟨_, rfl⟩
                  rw [hx] at hixk HVS HDS HNk HDi
                  obtain ⟨cn, hcn⟩ : ∃ cn : Nat, x.toNat = cn := ⟨_, rfl⟩
                  have hcb : cn ≤ 255 := by have := x.toNat_lt; omega
                  rw [hcn] at hixk HVS HDi
                  obtain ⟨c, hc⟩ : ∃ c : Int, ((cn : Nat) : Int) = c := ⟨_, rfl⟩
                  rw [hc] at hixk
                  have HCn := Lib.hid hc
                  have hc0 : 0 ≤ c := by omega
                  have hc1 : c ≤ 255 := by omega
                  have wk : IntKind.i64.wrap (k : Int) = k := wrap_n k (by omega)
                  by_cases c1 : c < 48
                  · have HBad := Lib.hid (HNk.out (by
                      cases hd : isDig x with
                      | false => rfl
                      | true => have := HDi.out.1 hd; have := HCn.out; omega))
                    clear hc hcn hx hcb
                    go_wp2_with fail
                    (try simp only [Exit.inBlock, Exit.then])
                    go_ret2
                    exact ⟨by rw [← HBad.out]; rfl, rfl⟩
                  · by_cases c2 : 57 < c
                    · have HBad := Lib.hid (HNk.out (by
                        cases hd : isDig x with
                        | false => rfl
                        | true => have := HDi.out.1 hd; have := HCn.out; omega))
                      clear hc hcn hx hcb
                      go_wp2_with fail
                      (try simp only [Exit.inBlock, Exit.then])
                      go_ret2
                      exact ⟨by rw [← HBad.out]; rfl, rfl⟩
                    · have HDg := Lib.hid (HDi.out.2 (by have := HCn.out; omega))
                      have u2 : IntKind.i64.wrap c = c := by rw [IntKind.wrap_i64]; omega
                      have u3 : IntKind.i64.wrap ((v : Int) * 10) = (v : Int) * 10 := by rw [IntKind.wrap_i64]; omega
                      have u4 : IntKind.i64.wrap ((v : Int) * 10 + c) = (v : Int) * 10 + c := by rw [IntKind.wrap_i64]; omega
                      have u5 : IntKind.i64.wrap ((v : Int) * 10 + c - 48) = (v : Int) * 10 + c - 48 := by rw [IntKind.wrap_i64]; omega
                      have HNum : Hid ((v : Int) * 10 + c - 48 = ((10 * v + (cn - 48) : Nat) : Int)) := Lib.hid (by have := HCn.out; omega)
                      clear hc hcn hx hcb hv
                      go_wp2_with fail
                      go_roundg (n - (k + 1))
                      case measure => omega
                      case rel => exact ⟨k + 1, 10 * v + (cn - 48), by go_num, by rw [HNum.out], by omega, Nat.le_refl _, rfl, Lib.hid (HDS.out HDg.out), HVS⟩
                · obtain rfl : k = n := by omega
                  have hall : l.take k = l := List.take_of_length_le (by rw [HLn.out]; exact Nat.le_refl _)
                  have hd := HD.out
                  have hv := HV.out
                  rw [hall] at hd hv
                  have HW := Lib.hid (HOK2.out hd)
                  rw [hv] at HW
                  clear hall hd hv HD HV
                  go_wp2_with fail
                  go_ret2
                  exact ⟨by rw [← HW.out]; rfl, rfl⟩)
          · go_wp2_with fail
            clear hix0 hc48
            (
              go_loopg [4, 5] n (fun kx s4 s5 wr => ∃ k v : Nat, s5 = .int .i64 k ∧ s4 = .int .i64 v ∧ k ≤ n ∧ n - k ≤ kx ∧ w = wr ∧ Hid ((l.take k).all isDig = true) ∧ Hid (valN (l.take k) = v))
              case atStart => exact ⟨0, 0, rfl, rfl, by omega, by omega, rfl, Lib.hid (by simp), Lib.hid (by rfl)⟩
              case round =>
                obtain ⟨k, v, rfl, rfl, hk, hkx, rfl, HD, HV⟩ := hrel
                by_cases hlt : k < n
                · have hixk := fun w => HIX.out k hlt w
                  have hv := valN_small HD.out (by rw [List.length_take]; omega)
                  rw [HV.out] at hv
                  have HVS : Hid (valN (l.take (k + 1)) = 10 * v + ((l.getD k 0).toNat - 48)) := Lib.hid (by rw [take_snoc l k (by rw [HLn.out]; exact hlt), valN_snoc, HV.out])
                  have HDS := Lib.hid (fun hc => all_take_step (l := l) (k := k) (by rw [HLn.out]; exact hlt) HD.out hc)
                  have HNk := Lib.hid (HNot.out k hlt)
                  have HDi := Lib.hid (isDig_iff (l.getD k 0))
                  obtain ⟨x, hx⟩ : ∃ x, l.getD k 0 = x := ⟨_, rfl⟩
                  rw [hx] at hixk HVS HDS HNk HDi
                  obtain ⟨cn, hcn⟩ : ∃ cn : Nat, x.toNat = cn := ⟨_, rfl⟩
                  have hcb : cn ≤ 255 := by have := x.toNat_lt; omega
                  rw [hcn] at hixk HVS HDi
                  obtain ⟨c, hc⟩ : ∃ c : Int, ((cn : Nat) : Int) = c := ⟨_, rfl⟩
                  rw [hc] at hixk
                  have HCn := Lib.hid hc
                  have hc0 : 0 ≤ c := by omega
                  have hc1 : c ≤ 255 := by omega
                  have wk : IntKind.i64.wrap (k : Int) = k := wrap_n k (by omega)
                  by_cases c1 : c < 48
                  · have HBad := Lib.hid (HNk.out (by
                      cases hd : isDig x with
                      | false => rfl
                      | true => have := HDi.out.1 hd; have := HCn.out; omega))
                    clear hc hcn hx hcb
                    go_wp2_with fail
                    (try simp only [Exit.inBlock, Exit.then])
                    go_ret2
                    exact ⟨by rw [← HBad.out]; rfl, rfl⟩
                  · by_cases c2 : 57 < c
                    · have HBad := Lib.hid (HNk.out (by
                        cases hd : isDig x with
                        | false => rfl
                        | true => have := HDi.out.1 hd; have := HCn.out; omega))
                      clear hc hcn hx hcb
                      go_wp2_with fail
                      (try simp only [Exit.inBlock, Exit.then])
                      go_ret2
                      exact ⟨by rw [← HBad.out]; rfl, rfl⟩
                    · have HDg := Lib.hid (HDi.out.2 (by have := HCn.out; omega))
                      have u2 : IntKind.i64.wrap c = c := by rw [IntKind.wrap_i64]; omega
                      have u3 : IntKind.i64.wrap ((v : Int) * 10) = (v : Int) * 10 := by rw [IntKind.wrap_i64]; omega
                      have u4 : IntKind.i64.wrap ((v : Int) * 10 + c) = (v : Int) * 10 + c := by rw [IntKind.wrap_i64]; omega
                      have u5 : IntKind.i64.wrap ((v : Int) * 10 + c - 48) = (v : Int) * 10 + c - 48 := by rw [IntKind.wrap_i64]; omega
                      have HNum : Hid ((v : Int) * 10 + c - 48 = ((10 * v + (cn - 48) : Nat) : Int)) := Lib.hid (by have := HCn.out; omega)
                      clear hc hcn hx hcb hv
                      go_wp2_with fail
                      go_roundg (n - (k + 1))
                      case measure => omega
                      case rel => exact ⟨k + 1, 10 * v + (cn - 48), by go_num, by rw [HNum.out], by omega, Nat.le_refl _, rfl, Lib.hid (HDS.out HDg.out), HVS⟩
                · obtain rfl : k = n := by omega
                  have hall : l.take k = l := List.take_of_length_le (by rw [HLn.out]; exact Nat.le_refl _)
                  have hd := HD.out
                  have hv := HV.out
                  rw [hall] at hd hv
                  have HW := Lib.hid (HOK2.out hd)
                  rw [hv] at HW
                  clear hall hd hv HD HV
                  go_wp2_with fail
                  go_ret2
                  exact ⟨by rw [← HW.out]; rfl, rfl⟩)

set_option maxHeartbeats 1000000 in
theorem VisLong_any (l : List UInt8) (hl : l.length ≤ 9223372036854775806) (w : World) : Calls Tryd.prog 32 #[.string (strB l)] w fun e w' => e = .returned (.bool (decide (400 < l.length))) ∧ w = w' := by
  have hsz := strB_size l
  obtain ⟨n, hn⟩ : ∃ n, l.length = n := ⟨_, rfl⟩
  obtain ⟨S, hS⟩ : ∃ S, strB l = S := ⟨_, rfl⟩
  rw [hS, hn] at hsz
  rw [hS, hn]
  clear hS hn hl
  go_enter Tryd.func32, Tryd.ntmps32
  go_wp2_with fail
  go_ret
  refine ⟨ret_bool ?_, rfl⟩
  show decide ((400 : Int) < (n : Int)) = decide (400 < n)
  rw [decide_eq_decide]
  omega
def timeB (n : Int) : Bool := decide (0 ≤ n) && decide (n ≤ 1099511627776)
set_option maxHeartbeats 1000000 in
theorem VisTime_any (n : Int) (w : World) : Calls Tryd.prog 35 #[.int .i64 n] w fun e w' => e = .returned (.bool (timeB n)) ∧ w = w' := by
  by_cases h0 : 0 ≤ n
  · by_cases h1 : n ≤ 1099511627776
    · have hr : timeB n = true := by rw [timeB, decide_eq_true h0, decide_eq_true h1]; rfl
      rw [hr]
      clear hr
      go_enter Tryd.func35, Tryd.ntmps35
      go_wp2_with fail
      go_ret
      exact ⟨rfl, rfl⟩
    · have hr : timeB n = false := by rw [timeB, decide_eq_false h1, Bool.and_false]
      rw [hr]
      clear hr
      go_enter Tryd.func35, Tryd.ntmps35
      go_wp2_with fail
      go_ret
      exact ⟨rfl, rfl⟩
  · have hr : timeB n = false := by rw [timeB, decide_eq_false h0, Bool.false_and]
    rw [hr]
    clear hr
    go_enter Tryd.func35, Tryd.ntmps35
    go_wp2_with fail
    go_ret
    exact ⟨rfl, rfl⟩
end Go.Proofs.YtppddpbacpeadaaDoor

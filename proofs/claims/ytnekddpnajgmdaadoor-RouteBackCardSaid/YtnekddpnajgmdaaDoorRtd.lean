/- What is proved: names, joined texts, the last stroke, what stands ahead of it and behind, what lies under what; by the program and by the document. Conditions: none. -/
import Derived.Test.YtnekddpnajgmdaaDoorRtc
namespace Go.Proofs.YtnekddpnajgmdaaDoor
open Go.RowKit
set_option linter.unusedVariables false

theorem name_eq (l : List UInt8) (n : Nat) (hn : l.length = n) : nameB l = (decide (1 ≤ n) && decide (n ≤ 32) && visB l && !l.contains 47 && !(l == [46]) && !(l == [46, 46])) := by rw [nameB, hn]

set_option maxHeartbeats 1000000 in
theorem RtName_any (l : List UInt8) (hl : l.length ≤ 9223372036854775806) (w : World) : Calls Tryd.prog 11 #[.string (strB l)] w fun e w' => e = .returned (.bool (nameB l)) ∧ w = w' := by
  have c1 := Lib.hid (fun w => Rtvisible_any l hl w)
  have c2 : Hid (∀ w, Calls Tryd.prog 35 #[.string (strB l), .string (ByteArray.mk #[47])] w fun e w' => e = .returned (.bool (l.contains 47)) ∧ w = w') := Lib.hid (fun w => GContains_any l w)
  have hsz := strB_size l
  have hL := strB_list l
  obtain ⟨S, hS⟩ : ∃ S, strB l = S := ⟨_, rfl⟩
  obtain ⟨n, hn⟩ : ∃ n, l.length = n := ⟨_, rfl⟩
  rw [hS] at hsz hL c1 c2 ⊢
  rw [hn] at hsz hl
  have HE := Lib.hid (name_eq l n hn)
  obtain ⟨r, hr⟩ : ∃ r, nameB l = r := ⟨_, rfl⟩
  rw [hr] at HE ⊢
  obtain ⟨b4, hb4⟩ : ∃ b, visB l = b := ⟨_, rfl⟩
  obtain ⟨b5, hb5⟩ : ∃ b, l.contains 47 = b := ⟨_, rfl⟩
  rw [hb4] at c1 HE
  rw [hb5] at c2 HE
  have h0 : l ≠ [] → 1 ≤ n := fun h => by rw [← hn]; exact List.length_pos_iff.2 h
  have H0 := Lib.hid h0
  have H1 : Hid (l = [] → n = 0) := Lib.hid (fun h => by rw [← hn, h]; rfl)
  clear hb4 hb5 hn hS hr h0
  go_enter Tryd.func11, Tryd.ntmps11
  by_cases hlen : n ≤ 32
  · by_cases h1 : l = [46]
    · go_wp2
      go_ret
      exact ⟨by rw [HE.out, h1]; simp, rfl⟩
    · have e1 : (l == [46]) = false := by simpa using h1
      by_cases h2 : l = [46, 46]
      · go_wp2
        go_ret
        exact ⟨by rw [HE.out, h2]; simp, rfl⟩
      · have e2 : (l == [46, 46]) = false := by simpa using h2
        by_cases h3 : l = []
        · have h4 := H1.out h3
          go_wp2
          go_ret
          exact ⟨by rw [HE.out, h4]; rfl, rfl⟩
        · have h4 := H0.out h3
          have e3 : l.isEmpty = false := by simpa using h3
          cases b4
          · go_wp2_with (go_at_call 34; refine (c1.out _).mono ?_; rintro e w' ⟨rfl, rfl⟩)
            go_ret
            exact ⟨by rw [HE.out]; simp, rfl⟩
          · go_wp2_with (first
              | (go_at_call 34; refine (c1.out _).mono ?_; rintro e w' ⟨rfl, rfl⟩)
              | (go_at_call 35; refine (c2.out _).mono ?_; rintro e w' ⟨rfl, rfl⟩))
            go_ret
            refine ⟨?_, rfl⟩
            rw [HE.out]
            rw [e1, e2, decide_eq_true h4, decide_eq_true hlen]
            simp
  · go_wp2
    go_ret
    exact ⟨by rw [HE.out]; simp [hlen]; try rfl, rfl⟩

/-! Joined texts. -/
theorem join_size (d n : List UInt8) : d ≠ [] → joinB d n = d ++ [47] ++ n := fun h => by rw [joinB, if_neg h]; simp
theorem add_str {P : Program} (a b : List UInt8) (h : a.length + b.length ≤ 9223372036854775807) (w : World) : (Op.stringOp .add (strB a) (strB b)).run P w = .ok (.string (strB (a ++ b))) w := by
  rw [← strB_append]
  exact run_string_add_sum w _ _ (by rw [strB_size, strB_size]; exact h)
theorem join_one {P : Program} (a : List UInt8) (h : a.length + 1 ≤ 9223372036854775807) (w : World) : (Op.stringOp .add (strB a) (ByteArray.mk #[47])).run P w = .ok (.string (strB (a ++ [47]))) w := add_str a [47] h w
set_option maxHeartbeats 1000000 in
theorem RtJoin_any (d n : List UInt8) (hl : d.length + n.length + 1 ≤ 9223372036854775807) (w : World) : Calls Tryd.prog 20 #[.string (strB d), .string (strB n)] w fun e w' => e = .returned (.string (strB (joinB d n))) ∧ w = w' := by
  (
    have hL := strB_list d
    have e1 := fun w => join_one (P := Tryd.prog) d (by omega) w
    have e2 := fun w => add_str (P := Tryd.prog) (d ++ [47]) n (by rw [List.length_append, List.length_singleton]; omega) w
    have HJ := Lib.hid (join_size d n)
    have HN : Hid (d = [] → joinB d n = n) := Lib.hid (fun h => by rw [joinB, if_pos h])
    obtain ⟨S, hS⟩ : ∃ S, strB d = S := ⟨_, rfl⟩
    obtain ⟨T, hT⟩ : ∃ S, strB n = S := ⟨_, rfl⟩
    obtain ⟨U, hU⟩ : ∃ S, strB (d ++ [47]) = S := ⟨_, rfl⟩
    have HT := Lib.hid hT
    rw [hS] at hL e1 ⊢
    rw [hT] at e2 ⊢
    rw [hU] at e1 e2
    obtain ⟨V, hV⟩ : ∃ S, strB (d ++ [47] ++ n) = S := ⟨_, rfl⟩
    have HV := Lib.hid hV
    rw [hV] at e2
    clear hS hT hU hV
    go_enter Tryd.func20, Tryd.ntmps20
    by_cases h : d = []
    · go_wp2
      go_ret
      exact ⟨by rw [HN.out h, HT.out]; rfl, rfl⟩
    · have e3 : d.isEmpty = false := by simpa using h
      go_wp2
      go_ret
      exact ⟨by rw [HJ.out h, HV.out]; rfl, rfl⟩)
set_option maxHeartbeats 1000000 in
theorem QrJoin_any (d n : List UInt8) (hl : d.length + n.length + 1 ≤ 9223372036854775807) (w : World) : Calls Tryd.prog 21 #[.string (strB d), .string (strB n)] w fun e w' => e = .returned (.string (strB (joinB d n))) ∧ w = w' := by
  (
    have hL := strB_list d
    have e1 := fun w => join_one (P := Tryd.prog) d (by omega) w
    have e2 := fun w => add_str (P := Tryd.prog) (d ++ [47]) n (by rw [List.length_append, List.length_singleton]; omega) w
    have HJ := Lib.hid (join_size d n)
    have HN : Hid (d = [] → joinB d n = n) := Lib.hid (fun h => by rw [joinB, if_pos h])
    obtain ⟨S, hS⟩ : ∃ S, strB d = S := ⟨_, rfl⟩
    obtain ⟨T, hT⟩ : ∃ S, strB n = S := ⟨_, rfl⟩
    obtain ⟨U, hU⟩ : ∃ S, strB (d ++ [47]) = S := ⟨_, rfl⟩
    have HT := Lib.hid hT
    rw [hS] at hL e1 ⊢
    rw [hT] at e2 ⊢
    rw [hU] at e1 e2
    obtain ⟨V, hV⟩ : ∃ S, strB (d ++ [47] ++ n) = S := ⟨_, rfl⟩
    have HV := Lib.hid hV
    rw [hV] at e2
    clear hS hT hU hV
    go_enter Tryd.func21, Tryd.ntmps21
    by_cases h : d = []
    · go_wp2
      go_ret
      exact ⟨by rw [HN.out h, HT.out]; rfl, rfl⟩
    · have e3 : d.isEmpty = false := by simpa using h
      go_wp2
      go_ret
      exact ⟨by rw [HJ.out h, HV.out]; rfl, rfl⟩)

/-! The last stroke. -/
theorem toUInt8_47 : (47 : Int).toNat.toUInt8 = 47 := rfl
set_option maxHeartbeats 1000000 in
theorem GbLast_any (l : List UInt8) (hl : l.length ≤ 9223372036854775806) (w : World) : Calls Tryd.prog 55 #[.string (strB l), .int .u8 47] w fun e w' => e = .returned (.int .i64 (lastI l)) ∧ w = w' := by
  have HIX := Lib.hid (fun k hk w => index_str (P := Tryd.prog) w Tryd.underlying9 l k hk)
  have HU := Lib.hid (fun v (h : LastAt l v) => lastAt_unique h (lastI_at l))
  have hsz := strB_size l
  obtain ⟨S, hS⟩ : ∃ S, strB l = S := ⟨_, rfl⟩
  obtain ⟨n, hn⟩ : ∃ n, l.length = n := ⟨_, rfl⟩
  rw [hS] at hsz ⊢
  rw [hS] at HIX
  have HNn := Lib.hid hn
  rw [hn] at hsz hl HIX
  clear hS hn
  go_enter Tryd.func55, Tryd.ntmps55
  go_wp2
  go_loopw [5] (fun i wr => ∃ k : Nat, k ≤ n ∧ i = .int .i64 (k - 1) ∧ Hid (∀ j, k ≤ j → j < n → l.getD j 0 ≠ 47) ∧ wr = w) (fun i _ => (intOf i + 1).toNat)
  case atStart => exact ⟨n, by omega, rfl, Lib.hid (fun j h1 h2 => by omega), rfl⟩
  case round =>
    obtain ⟨k, hk, rfl, hz, rfl⟩ := hrel
    by_cases hlt : 0 < k
    · obtain ⟨m, rfl⟩ : ∃ m, k = m + 1 := ⟨k - 1, by omega⟩
      have hixk := fun w => HIX.out m (by omega) w
      obtain ⟨c, hc⟩ : ∃ c : Int, ((l.getD m 0).toNat : Int) = c := ⟨_, rfl⟩
      rw [hc] at hixk
      have HC := Lib.hid hc
      clear hc
      rw [show (((m + 1 : Nat) : Int) - 1) = (m : Int) by omega]
      by_cases hc : c = 47
      · go_wp2_with fail
        go_ret
        refine ⟨?_, rfl⟩
        rw [← HU.out (m : Int) ⟨by omega, by rw [HNn.out]; omega, fun j h1 h2 => hz.out j (by omega) (by rw [← HNn.out]; exact h2), fun _ => ?_⟩]
        · rfl
        · rw [Int.toNat_natCast]
          apply UInt8.toNat_inj.1
          have := HC.out
          show (l.getD m 0).toNat = 47
          omega
      · go_wp2_with fail
        go_roundw
        case rel =>
          refine ⟨m, by omega, rfl, Lib.hid (fun j h1 h2 => ?_), trivial⟩
          rcases (by omega : m + 1 ≤ j ∨ j = m) with h | rfl
          · exact hz.out j h h2
          · intro e
            apply hc
            rw [← HC.out, e]
            rfl
        case measure => simp [intOf]
    · obtain rfl : k = 0 := by omega
      go_wp2_with fail
      go_ret
      exact ⟨by rw [← HU.out (-1) ⟨by omega, by omega, fun j h1 h2 => hz.out j (by omega) (by rw [← HNn.out]; exact h2), fun h => by omega⟩]; rfl, rfl⟩
set_option maxHeartbeats 1000000 in
theorem GLastIndex_any (l : List UInt8) (hl : l.length ≤ 9223372036854775806) (w : World) : Calls Tryd.prog 41 #[.string (strB l), .string (strB [47])] w fun e w' => e = .returned (.int .i64 (lastI l)) ∧ w = w' := by
  have hc := fun w => GbLast_any l hl w
  have hsz : (strB [47]).size = 1 := rfl
  have hix : ∀ w, (Instr.index 9 (.string (strB [47])) (.int .i64 0)).run Tryd.prog w = .ok (.int .u8 47) w := fun w => index_str (P := Tryd.prog) w Tryd.underlying9 [47] 0 (by decide)
  obtain ⟨S, hS⟩ : ∃ S, strB [47] = S := ⟨_, rfl⟩
  obtain ⟨T, hT⟩ : ∃ S, strB l = S := ⟨_, rfl⟩
  rw [hS] at hix hsz ⊢
  rw [hT] at hc ⊢
  clear hS hT
  go_enter Tryd.func41, Tryd.ntmps41
  go_wp2_with (go_at_call 55; refine (hc _).mono ?_; rintro e w' ⟨rfl, rfl⟩)
  go_ret
  exact ⟨rfl, rfl⟩
set_option maxHeartbeats 1000000 in
theorem QrLast_any (l : List UInt8) (hl : l.length ≤ 9223372036854775806) (w : World) : Calls Tryd.prog 42 #[.string (strB l)] w fun e w' => e = .returned (.int .i64 (lastI l)) ∧ w = w' := by
  have HIX := Lib.hid (fun k hk w => index_str (P := Tryd.prog) w Tryd.underlying9 l k hk)
  have HU := Lib.hid (fun v (h : LastAt l v) => lastAt_unique h (lastI_at l))
  have hsz := strB_size l
  obtain ⟨S, hS⟩ : ∃ S, strB l = S := ⟨_, rfl⟩
  obtain ⟨n, hn⟩ : ∃ n, l.length = n := ⟨_, rfl⟩
  rw [hS] at hsz ⊢
  rw [hS] at HIX
  have HNn := Lib.hid hn
  rw [hn] at hsz hl HIX
  clear hS hn
  go_enter Tryd.func42, Tryd.ntmps42
  go_wp2
  go_loopw [3, 4] (fun v i wr => ∃ (k : Nat) (z : Int), k ≤ n ∧ i = .int .i64 k ∧ v = .int .i64 z ∧ -1 ≤ z ∧ z < k ∧ Hid ((∀ j : Nat, z < j → j < k → l.getD j 0 ≠ 47) ∧ (0 ≤ z → l.getD z.toNat 0 = 47)) ∧ wr = w) (fun _ i _ => n - (intOf i).toNat)
  case atStart => exact ⟨0, -1, by omega, rfl, rfl, by omega, by omega, Lib.hid ⟨fun j h1 h2 => by omega, fun h => by omega⟩, rfl⟩
  case round =>
    obtain ⟨k, z, hk, rfl, rfl, hz1, hz2, hz, rfl⟩ := hrel
    by_cases hlt : k < n
    · have hixk := fun w => HIX.out k (by omega) w
      obtain ⟨c, hc⟩ : ∃ c : Int, ((l.getD k 0).toNat : Int) = c := ⟨_, rfl⟩
      rw [hc] at hixk
      have HC := Lib.hid hc
      clear hc
      by_cases hc : c = 47
      · go_wp2_with fail
        go_roundw
        case rel =>
          refine ⟨k + 1, k, by omega, by go_num, rfl, by omega, by omega, Lib.hid ⟨fun j h1 h2 => by omega, fun _ => ?_⟩, trivial⟩
          rw [Int.toNat_natCast]
          apply UInt8.toNat_inj.1
          have := HC.out
          show (l.getD k 0).toNat = 47
          omega
        case measure => simp [intOf]; omega
      · go_wp2_with fail
        go_roundw
        case rel =>
          refine ⟨k + 1, z, by omega, by go_num, rfl, by omega, by omega, Lib.hid ⟨fun j h1 h2 => ?_, hz.out.2⟩, trivial⟩
          rcases (by omega : j < k ∨ j = k) with h | rfl
          · exact hz.out.1 j h1 h
          · intro e
            apply hc
            rw [← HC.out, e]
            rfl
        case measure => simp [intOf]; omega
    · obtain rfl : k = n := by omega
      go_wp2_with fail
      go_ret
      exact ⟨by rw [← HU.out z ⟨hz1, by rw [HNn.out]; exact hz2, fun j h1 h2 => hz.out.1 j h1 (by rw [← HNn.out]; exact h2), hz.out.2⟩]; rfl, rfl⟩

/-! What stands ahead of it, and behind. -/
theorem last_nat (l : List UInt8) : ∃ k : Nat, k ≤ l.length ∧ ((k : Int) = lastI l + 1) ∧ baseB l = l.drop k ∧ dirB l = l.take (k - 1) := by
  have h := lastI_at l
  have h1 := h.lo
  have h2 := h.hi
  refine ⟨(lastI l + 1).toNat, by omega, by omega, rfl, ?_⟩
  rw [dirB]
  congr 1
  omega
set_option maxHeartbeats 1000000 in
theorem RtDir_any (l : List UInt8) (hl : l.length ≤ 9223372036854775806) (w : World) : Calls Tryd.prog 22 #[.string (strB l)] w fun e w' => e = .returned (.string (strB (dirB l))) ∧ w = w' := by
  have hc : ∀ w, Calls Tryd.prog 41 #[.string (strB l), .string (ByteArray.mk #[47])] w fun e w' => e = .returned (.int .i64 (lastI l)) ∧ w = w' := fun w => GLastIndex_any l hl w
  have hx : (strB l).extract 0 (max 0 (lastI l)).toNat = strB (dirB l) := by
    rw [strB_extract, dirB, List.drop_zero]
    congr 2
    omega
  have hsz := strB_size l
  have hb := lastI_at l
  have hb1 := hb.lo
  have hb2 := hb.hi
  rw [← hsz] at hb2
  obtain ⟨r, hr⟩ : ∃ r, lastI l = r := ⟨_, rfl⟩
  rw [hr] at hc hx hb1 hb2
  obtain ⟨S, hS⟩ : ∃ S, strB l = S := ⟨_, rfl⟩
  obtain ⟨T, hT⟩ : ∃ S, strB (dirB l) = S := ⟨_, rfl⟩
  rw [hS] at hc hx hb2 hsz ⊢
  rw [hT] at hx ⊢
  have HC := Lib.hid hc
  have HX := Lib.hid hx
  have hm1 : 0 ≤ max 0 r := by omega
  have hm2 : max 0 r ≤ (S.size : Int) := by omega
  clear hr hS hT hc hb hx hsz
  go_enter Tryd.func22, Tryd.ntmps22
  go_wp2_with (go_at_call 41; refine (HC.out _).mono ?_; rintro e w' ⟨rfl, rfl⟩)
  go_ret
  exact ⟨by rw [← HX.out]; rfl, rfl⟩
set_option maxHeartbeats 1000000 in
theorem RtBase_any (l : List UInt8) (hl : l.length ≤ 9223372036854775806) (w : World) : Calls Tryd.prog 24 #[.string (strB l)] w fun e w' => e = .returned (.string (strB (baseB l))) ∧ w = w' := by
  have hc : ∀ w, Calls Tryd.prog 41 #[.string (strB l), .string (ByteArray.mk #[47])] w fun e w' => e = .returned (.int .i64 (lastI l)) ∧ w = w' := fun w => GLastIndex_any l hl w
  obtain ⟨k, hk, hk1, hd, _⟩ := last_nat l
  have hs := fun w => slice_from (P := Tryd.prog) w Tryd.underlying9 l k hk
  rw [← hd, hk1] at hs
  have hb := lastI_at l
  have hb1 := hb.lo
  have hb2 := hb.hi
  obtain ⟨r, hr⟩ : ∃ r, lastI l = r := ⟨_, rfl⟩
  rw [hr] at hc hs hb1 hb2
  obtain ⟨S, hS⟩ : ∃ S, strB l = S := ⟨_, rfl⟩
  obtain ⟨T, hT⟩ : ∃ S, strB (baseB l) = S := ⟨_, rfl⟩
  rw [hS] at hc hs ⊢
  rw [hT] at hs ⊢
  have HC := Lib.hid hc
  have hlo : -9223372036854775808 ≤ r + 1 := by omega
  have hhi : r + 1 ≤ 9223372036854775807 := by omega
  clear hr hS hT hd hc hb hk hk1 hb1 hb2
  go_enter Tryd.func24, Tryd.ntmps24
  go_wp2_with (go_at_call 41; refine (HC.out _).mono ?_; rintro e w' ⟨rfl, rfl⟩)
  go_ret
  exact ⟨rfl, rfl⟩
set_option maxHeartbeats 1000000 in
theorem QrDir_any (l : List UInt8) (hl : l.length ≤ 9223372036854775806) (w : World) : Calls Tryd.prog 23 #[.string (strB l)] w fun e w' => e = .returned (.string (strB (dirB l))) ∧ w = w' := by
  have hc := fun w => QrLast_any l hl w
  obtain ⟨k, hk, hk1, _, hd⟩ := last_nat l
  have hs := fun w => slice_to (P := Tryd.prog) w Tryd.underlying9 l (k - 1) (by omega)
  rw [← hd] at hs
  have H0 : Hid (lastI l < 0 → strB (dirB l) = ByteArray.mk #[]) := Lib.hid (fun h => by rw [(no_last h).1]; rfl)
  obtain ⟨r, hr⟩ : ∃ r, lastI l = r := ⟨_, rfl⟩
  rw [hr] at hc hk1 H0
  obtain ⟨S, hS⟩ : ∃ S, strB l = S := ⟨_, rfl⟩
  obtain ⟨T, hT⟩ : ∃ S, strB (dirB l) = S := ⟨_, rfl⟩
  rw [hS] at hc hs ⊢
  rw [hT] at hs H0 ⊢
  have HC := Lib.hid hc
  clear hr hS hT hd hc
  go_enter Tryd.func23, Tryd.ntmps23
  by_cases h0 : 0 ≤ r
  · rw [show ((k - 1 : Nat) : Int) = r by omega] at hs
    clear hk1 hk
    go_wp2_with (go_at_call 42; refine (HC.out _).mono ?_; rintro e w' ⟨rfl, rfl⟩)
    go_ret
    exact ⟨rfl, rfl⟩
  · have h1 : r < 0 := by omega
    clear hk1 hk hs
    go_wp2_with (go_at_call 42; refine (HC.out _).mono ?_; rintro e w' ⟨rfl, rfl⟩)
    go_ret
    exact ⟨by rw [H0.out h1]; rfl, rfl⟩
set_option maxHeartbeats 1000000 in
theorem QrBase_any (l : List UInt8) (hl : l.length ≤ 9223372036854775806) (w : World) : Calls Tryd.prog 25 #[.string (strB l)] w fun e w' => e = .returned (.string (strB (baseB l))) ∧ w = w' := by
  have hc := fun w => QrLast_any l hl w
  obtain ⟨k, hk, hk1, hd, _⟩ := last_nat l
  have hs := fun w => slice_from (P := Tryd.prog) w Tryd.underlying9 l k hk
  rw [← hd, hk1] at hs
  have hb := lastI_at l
  have hb1 := hb.lo
  have hb2 := hb.hi
  obtain ⟨r, hr⟩ : ∃ r, lastI l = r := ⟨_, rfl⟩
  rw [hr] at hc hs hb1 hb2
  obtain ⟨S, hS⟩ : ∃ S, strB l = S := ⟨_, rfl⟩
  obtain ⟨T, hT⟩ : ∃ S, strB (baseB l) = S := ⟨_, rfl⟩
  rw [hS] at hc hs ⊢
  rw [hT] at hs ⊢
  have HC := Lib.hid hc
  have hlo : -9223372036854775808 ≤ r + 1 := by omega
  have hhi : r + 1 ≤ 9223372036854775807 := by omega
  clear hr hS hT hd hc hb hk hk1 hb1 hb2
  go_enter Tryd.func25, Tryd.ntmps25
  go_wp2_with (go_at_call 42; refine (HC.out _).mono ?_; rintro e w' ⟨rfl, rfl⟩)
  go_ret
  exact ⟨rfl, rfl⟩
end Go.Proofs.YtnekddpnajgmdaaDoor

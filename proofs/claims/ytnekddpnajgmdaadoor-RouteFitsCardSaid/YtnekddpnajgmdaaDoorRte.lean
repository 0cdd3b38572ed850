/- What is proved: whether a text begins with another one; what lies under what; by the program and by the document. Conditions: none. -/
import Derived.Test.YtnekddpnajgmdaaDoorRtd
namespace Go.Proofs.YtnekddpnajgmdaaDoor
open Go.RowKit
set_option linter.unusedVariables false

theorem pre_take (p s : List UInt8) : p.isPrefixOf s = (decide (p.length ≤ s.length) && s.take p.length == p) := by
  rw [Bool.eq_iff_iff, List.isPrefixOf_iff_prefix, Bool.and_eq_true, decide_eq_true_eq, beq_iff_eq]
  constructor
  · rintro ⟨t, rfl⟩; simp
  · rintro ⟨_, h⟩
    have := List.take_append_drop p.length s
    rw [h] at this
    exact ⟨s.drop p.length, this⟩

set_option maxHeartbeats 1000000 in
theorem GsHasPrefix_any (s p : List UInt8) (hs : s.length ≤ 9223372036854775806) (hp : p.length ≤ 9223372036854775806) (w : World) : Calls Tryd.prog 58 #[.string (strB s), .string (strB p)] w fun e w' => e = .returned (.bool (p.isPrefixOf s)) ∧ w = w' := by
  rw [pre_take]
  have hss := strB_size s
  have hsp := strB_size p
  by_cases h : p.length ≤ s.length
  · have hsl := fun w => slice_to (P := Tryd.prog) w Tryd.underlying9 s p.length h
    have hc := str_eq (s.take p.length) p
    rw [decide_eq_true h, Bool.true_and]
    obtain ⟨b, hb⟩ : ∃ b, (s.take p.length == p) = b := ⟨_, rfl⟩
    rw [hb] at hc ⊢
    obtain ⟨S, hS⟩ : ∃ S, strB s = S := ⟨_, rfl⟩
    obtain ⟨T, hT⟩ : ∃ S, strB p = S := ⟨_, rfl⟩
    obtain ⟨U, hU⟩ : ∃ S, strB (s.take p.length) = S := ⟨_, rfl⟩
    rw [hS] at hss hsl ⊢
    rw [hT] at hsp hc ⊢
    rw [hU] at hsl hc
    obtain ⟨n, hn⟩ : ∃ n, s.length = n := ⟨_, rfl⟩
    obtain ⟨m, hm⟩ : ∃ n, p.length = n := ⟨_, rfl⟩
    rw [hn] at hss hs h
    rw [hm] at hsp hp h hsl
    clear hb hS hT hU hn hm
    have hi : (m : Int) ≤ n := by omega
    go_enter Tryd.func58, Tryd.ntmps58
    cases b
    · have hne : ¬ U.toList = T.toList := by simpa using hc
      go_wp2
      go_ret
      exact ⟨rfl, rfl⟩
    · have hne : U.toList = T.toList := by simpa using hc
      go_wp2
      go_ret
      exact ⟨rfl, rfl⟩
  · rw [decide_eq_false h, Bool.false_and]
    have hi : ¬ (p.length : Int) ≤ s.length := by omega
    obtain ⟨S, hS⟩ : ∃ S, strB s = S := ⟨_, rfl⟩
    obtain ⟨T, hT⟩ : ∃ S, strB p = S := ⟨_, rfl⟩
    rw [hS] at hss ⊢
    rw [hT] at hsp ⊢
    clear hS hT
    go_enter Tryd.func58, Tryd.ntmps58
    go_wp2
    go_ret
    exact ⟨rfl, rfl⟩
set_option maxHeartbeats 1000000 in
theorem GHasPrefix_any (s p : List UInt8) (hs : s.length ≤ 9223372036854775806) (hp : p.length ≤ 9223372036854775806) (w : World) : Calls Tryd.prog 44 #[.string (strB s), .string (strB p)] w fun e w' => e = .returned (.bool (p.isPrefixOf s)) ∧ w = w' := by
  have hc := Lib.hid (fun w => GsHasPrefix_any s p hs hp w)
  obtain ⟨b, hb⟩ : ∃ b, p.isPrefixOf s = b := ⟨_, rfl⟩
  rw [hb] at hc ⊢
  clear hb
  go_enter Tryd.func44, Tryd.ntmps44
  go_wp2_with (go_at_call 58; refine (hc.out _).mono ?_; rintro e w' ⟨rfl, rfl⟩)
  go_ret
  exact ⟨rfl, rfl⟩
/-- What is left behind a beginning. -/
def cutB (s p : List UInt8) : List UInt8 := if p.isPrefixOf s then s.drop p.length else s
set_option maxHeartbeats 1000000 in
theorem GsCutPrefix_any (s p : List UInt8) (hs : s.length ≤ 9223372036854775806) (hp : p.length ≤ 9223372036854775806) (w : World) : Calls Tryd.prog 57 #[.string (strB s), .string (strB p)] w fun e w' => e = .returned (.tuple #[.string (strB (cutB s p)), .bool (p.isPrefixOf s)]) ∧ w = w' := by
  have hc := Lib.hid (fun w => GsHasPrefix_any s p hs hp w)
  have hss := strB_size s
  have hsp := strB_size p
  have hle : p.isPrefixOf s = true → p.length ≤ s.length := fun h => by
    rw [pre_take, Bool.and_eq_true, decide_eq_true_eq] at h
    exact h.1
  have hT : p.isPrefixOf s = true → ∀ w, (Instr.slice 9 (.string (strB s)) (some (.int .i64 p.length)) none none).run Tryd.prog w = .ok (.string (strB (cutB s p))) w := fun h w => by
    rw [cutB, if_pos h]
    exact slice_from (P := Tryd.prog) w Tryd.underlying9 s p.length (hle h)
  have hF : p.isPrefixOf s = false → strB (cutB s p) = strB s := fun h => by rw [cutB, if_neg (by rw [h]; decide)]
  obtain ⟨b, hb⟩ : ∃ b, p.isPrefixOf s = b := ⟨_, rfl⟩
  rw [hb] at hc hle hT hF ⊢
  obtain ⟨S, hS⟩ : ∃ S, strB s = S := ⟨_, rfl⟩
  obtain ⟨T, hT'⟩ : ∃ S, strB p = S := ⟨_, rfl⟩
  obtain ⟨U, hU⟩ : ∃ S, strB (cutB s p) = S := ⟨_, rfl⟩
  rw [hS] at hc hss hT hF ⊢
  rw [hT'] at hc hsp ⊢
  rw [hU] at hT hF ⊢
  clear hb hS hT' hU
  go_enter Tryd.func57, Tryd.ntmps57
  cases b
  · have hF := hF rfl
    subst hF
    clear hT hle
    go_wp2_with (go_at_call 58; refine (hc.out _).mono ?_; rintro e w' ⟨rfl, rfl⟩)
    go_ret2
    exact ⟨rfl, rfl⟩
  · have hT := hT rfl
    have hle := hle rfl
    clear hF
    go_wp2_with (go_at_call 58; refine (hc.out _).mono ?_; rintro e w' ⟨rfl, rfl⟩)
    go_ret2
    exact ⟨rfl, rfl⟩
set_option maxHeartbeats 1000000 in
theorem GCutPrefix_any (s p : List UInt8) (hs : s.length ≤ 9223372036854775806) (hp : p.length ≤ 9223372036854775806) (w : World) : Calls Tryd.prog 43 #[.string (strB s), .string (strB p)] w fun e w' => e = .returned (.tuple #[.string (strB (cutB s p)), .bool (p.isPrefixOf s)]) ∧ w = w' := by
  have hc := Lib.hid (fun w => GsCutPrefix_any s p hs hp w)
  obtain ⟨b, hb⟩ : ∃ b, p.isPrefixOf s = b := ⟨_, rfl⟩
  rw [hb] at hc ⊢
  clear hb
  go_enter Tryd.func43, Tryd.ntmps43
  go_wp2_with (go_at_call 57; refine (hc.out _).mono ?_; rintro e w' ⟨rfl, rfl⟩)
  go_ret2
  exact ⟨rfl, rfl⟩

theorem under_cases (s d : List UInt8) (h : d.isPrefixOf s = true) : underB s d = (d == [] || cutB s d == [] || List.isPrefixOf [47] (cutB s d)) := by
  have hc : cutB s d = s.drop d.length := by rw [cutB, if_pos h]
  rw [List.isPrefixOf_iff_prefix] at h
  obtain ⟨r, rfl⟩ := h
  rw [hc, List.drop_left, underB]
  have e1 : (d ++ r == d) = (r == []) := by
    rw [Bool.eq_iff_iff, beq_iff_eq, beq_iff_eq]
    simp
  have e2 : (d ++ [47]).isPrefixOf (d ++ r) = List.isPrefixOf [47] r := by
    rw [Bool.eq_iff_iff, List.isPrefixOf_iff_prefix, List.isPrefixOf_iff_prefix]
    exact List.prefix_append_right_inj d
  rw [e1, e2, Bool.or_assoc]
theorem under_not (s d : List UInt8) (h : d.isPrefixOf s = false) : underB s d = false := by
  rw [← Bool.not_eq_true] at h ⊢
  intro hu
  apply h
  rw [underB, Bool.or_eq_true, Bool.or_eq_true, beq_iff_eq, beq_iff_eq] at hu
  rw [List.isPrefixOf_iff_prefix]
  rcases hu with rfl | rfl | hu
  · exact List.nil_prefix
  · exact List.prefix_refl _
  · rw [List.isPrefixOf_iff_prefix] at hu
    exact (List.prefix_append d [47]).trans hu
set_option maxHeartbeats 1000000 in
theorem RtUnder_any (s d : List UInt8) (hs : s.length ≤ 9223372036854775806) (hd : d.length ≤ 9223372036854775806) (w : World) : Calls Tryd.prog 26 #[.string (strB s), .string (strB d)] w fun e w' => e = .returned (.bool (underB s d)) ∧ w = w' := by
  have hc := Lib.hid (fun w => GCutPrefix_any s d hs hd w)
  have hlc : (cutB s d).length ≤ 9223372036854775806 := by
    unfold cutB
    split
    · rw [List.length_drop]; omega
    · exact hs
  have hh : Hid (∀ w, Calls Tryd.prog 44 #[.string (strB (cutB s d)), .string (ByteArray.mk #[47])] w fun e w' => e = .returned (.bool (List.isPrefixOf [47] (cutB s d))) ∧ w = w') := Lib.hid (fun w => GHasPrefix_any (cutB s d) [47] hlc (by decide) w)
  have h1 := Lib.hid (under_cases s d)
  have h2 := Lib.hid (under_not s d)
  have hL := strB_list d
  have hR := strB_list (cutB s d)
  obtain ⟨b, hb⟩ : ∃ b, d.isPrefixOf s = b := ⟨_, rfl⟩
  obtain ⟨q, hq⟩ : ∃ b, List.isPrefixOf [47] (cutB s d) = b := ⟨_, rfl⟩
  obtain ⟨r, hr⟩ : ∃ b, cutB s d = b := ⟨_, rfl⟩
  obtain ⟨u, hu⟩ : ∃ b, underB s d = b := ⟨_, rfl⟩
  rw [hb] at hc h1 h2
  rw [hq] at hh h1
  rw [hr] at hc hh h1 hR
  rw [hu] at h1 h2 ⊢
  obtain ⟨S, hS⟩ : ∃ S, strB s = S := ⟨_, rfl⟩
  obtain ⟨T, hT⟩ : ∃ S, strB d = S := ⟨_, rfl⟩
  obtain ⟨U, hU⟩ : ∃ S, strB r = S := ⟨_, rfl⟩
  rw [hS] at hc ⊢
  rw [hT] at hc hL ⊢
  rw [hU] at hc hh hR
  clear hb hq hr hu hS hT hU hs hd hlc
  go_enter Tryd.func26, Tryd.ntmps26
  cases b
  · have H := Lib.hid (h2.out rfl)
    go_wp2_with (go_at_call 43; refine (hc.out _).mono ?_; rintro e w' ⟨rfl, rfl⟩)
    go_ret
    exact ⟨by rw [H.out]; rfl, rfl⟩
  · have H := Lib.hid (h1.out rfl)
    by_cases hd : d = []
    · go_wp2_with (go_at_call 43; refine (hc.out _).mono ?_; rintro e w' ⟨rfl, rfl⟩)
      go_ret
      exact ⟨by rw [H.out, hd]; rfl, rfl⟩
    · have hd' : d.isEmpty = false := by simpa using hd
      by_cases hr : r = []
      · go_wp2_with (go_at_call 43; refine (hc.out _).mono ?_; rintro e w' ⟨rfl, rfl⟩)
        go_ret
        exact ⟨by rw [H.out, hr]; simp, rfl⟩
      · have hr' : r.isEmpty = false := by simpa using hr
        go_wp2_with (first
          | (go_at_call 43; refine (hc.out _).mono ?_; rintro e w' ⟨rfl, rfl⟩)
          | (go_at_call 44; refine (hh.out _).mono ?_; rintro e w' ⟨rfl, rfl⟩))
        go_ret
        refine ⟨?_, rfl⟩
        rw [H.out, show (d == []) = false by simpa using hd, show (r == []) = false by simpa using hr]
        rfl
theorem under_more (s d : List UInt8) (h1 : d ≠ []) (h2 : s ≠ d) : underB s d = (decide (d.length < s.length) && s.take (d.length + 1) == d ++ [47]) := by
  rw [underB, show (d == []) = false by simpa using h1, show (s == d) = false by simpa using h2, Bool.false_or, Bool.false_or, pre_take, List.length_append, List.length_singleton]
  rfl
set_option maxHeartbeats 1000000 in
theorem QrUnder_any (s d : List UInt8) (hs : s.length ≤ 9223372036854775806) (hd : d.length ≤ 9223372036854775806) (w : World) : Calls Tryd.prog 27 #[.string (strB s), .string (strB d)] w fun e w' => e = .returned (.bool (underB s d)) ∧ w = w' := by
  have hL := strB_list d
  have hM := strB_list s
  have hss := strB_size s
  have hsp := strB_size d
  have e1 := fun w => join_one (P := Tryd.prog) d (by omega) w
  have h2 := Lib.hid (under_more s d)
  by_cases h : d.length < s.length
  · have hsl := fun w => slice_to (P := Tryd.prog) w Tryd.underlying9 s (d.length + 1) (by omega)
    rw [show ((d.length + 1 : Nat) : Int) = (d.length : Int) + 1 by omega] at hsl
    have hc := str_eq (s.take (d.length + 1)) (d ++ [47])
    rw [decide_eq_true h, Bool.true_and] at h2
    obtain ⟨b, hb⟩ : ∃ b, (s.take (d.length + 1) == d ++ [47]) = b := ⟨_, rfl⟩
    rw [hb] at hc h2
    have H0 : Hid (d = [] → underB s d = true) := Lib.hid (fun h => by simp [underB, h])
    have hne : s ≠ d := fun e => by rw [e] at h; omega
    obtain ⟨u, hu⟩ : ∃ b, underB s d = b := ⟨_, rfl⟩
    rw [hu] at h2 H0 ⊢
    obtain ⟨S, hS⟩ : ∃ S, strB s = S := ⟨_, rfl⟩
    obtain ⟨T, hT⟩ : ∃ S, strB d = S := ⟨_, rfl⟩
    obtain ⟨U, hU⟩ : ∃ S, strB (s.take (d.length + 1)) = S := ⟨_, rfl⟩
    obtain ⟨V, hV⟩ : ∃ S, strB (d ++ [47]) = S := ⟨_, rfl⟩
    rw [hS] at hss hsl hM ⊢
    rw [hT] at hsp hL e1 ⊢
    rw [hU] at hsl hc
    rw [hV] at hc e1
    obtain ⟨n, hn⟩ : ∃ n, s.length = n := ⟨_, rfl⟩
    obtain ⟨m, hm⟩ : ∃ n, d.length = n := ⟨_, rfl⟩
    rw [hn] at hss hs h
    rw [hm] at hsp hd h hsl
    clear hb hS hT hU hV hn hm hu
    have hi : (m : Int) < n := by omega
    have hne' : (s == d) = false := by simpa using hne
    go_enter Tryd.func27, Tryd.ntmps27
    by_cases h0 : d = []
    · go_wp2
      go_ret
      exact ⟨by rw [H0.out h0]; rfl, rfl⟩
    · have h0' : d.isEmpty = false := by simpa using h0
      cases b
      · have hq : ¬ U.toList = V.toList := by simpa using hc
        go_wp2
        go_ret
        exact ⟨by rw [h2.out h0 hne]; rfl, rfl⟩
      · have hq : U.toList = V.toList := by simpa using hc
        go_wp2
        go_ret
        exact ⟨by rw [h2.out h0 hne]; rfl, rfl⟩
  · rw [decide_eq_false h, Bool.false_and] at h2
    have H0 : Hid (d = [] → underB s d = true) := Lib.hid (fun h => by simp [underB, h])
    have H1 : Hid (s = d → underB s d = true) := Lib.hid (fun h => by simp [underB, h])
    obtain ⟨u, hu⟩ : ∃ b, underB s d = b := ⟨_, rfl⟩
    rw [hu] at h2 H0 H1 ⊢
    obtain ⟨S, hS⟩ : ∃ S, strB s = S := ⟨_, rfl⟩
    obtain ⟨T, hT⟩ : ∃ S, strB d = S := ⟨_, rfl⟩
    rw [hS] at hss hM ⊢
    rw [hT] at hsp hL e1 ⊢
    obtain ⟨n, hn⟩ : ∃ n, s.length = n := ⟨_, rfl⟩
    obtain ⟨m, hm⟩ : ∃ n, d.length = n := ⟨_, rfl⟩
    rw [hn] at hss hs h
    rw [hm] at hsp hd h
    clear hS hT hn hm hu e1
    have hi : ¬ (m : Int) < n := by omega
    go_enter Tryd.func27, Tryd.ntmps27
    by_cases h0 : d = []
    · go_wp2
      go_ret
      exact ⟨by rw [H0.out h0]; rfl, rfl⟩
    · have h0' : d.isEmpty = false := by simpa using h0
      by_cases h1 : s = d
      · go_wp2
        go_ret
        exact ⟨by rw [H1.out h1]; rfl, rfl⟩
      · have h1' : (s == d) = false := by simpa using h1
        go_wp2
        go_ret
        exact ⟨by rw [h2.out h0 h1]; rfl, rfl⟩
end Go.Proofs.YtnekddpnajgmdaaDoor

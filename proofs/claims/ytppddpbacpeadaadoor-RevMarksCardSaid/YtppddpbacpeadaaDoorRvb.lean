/- What is proved: beginnings of texts, by the library. Conditions: the texts are not too long for any machine. -/
import Derived.Test.YtppddpbacpeadaaDoorTrn
namespace Go.Proofs.YtppddpbacpeadaaDoor
open Go.RowKit
set_option linter.unusedVariables false

theorem pre_take (p s : List UInt8) : p.isPrefixOf s = (decide (p.length ≤ s.length) && s.take p.length == p) := by
  rw [Bool.eq_iff_iff, List.isPrefixOf_iff_prefix, Bool.and_eq_true, decide_eq_true_eq, beq_iff_eq]
  constructor
  · rintro ⟨t, rfl⟩; simp
  · rintro ⟨_, h⟩
    have := List.take_append_drop p.length s
    rw [h] at this
    exact ⟨s.drop p.length, this⟩

set_option maxHeartbeats 1000000 in
set_option maxRecDepth 100000 in
theorem GsHasPrefix_any (s p : List UInt8) (hs : s.length ≤ 9223372036854775806) (hp : p.length ≤ 9223372036854775806) (w : World) : Calls Tryd.prog 75 #[.string (strB s), .string (strB p)] w fun e w' => e = .returned (.bool (p.isPrefixOf s)) ∧ w = w' := by
  rw [pre_take]
  have hss := strB_size s
  have hsp := strB_size p
  by_cases h : p.length ≤ s.length
  · have hsl := fun w => slice_to (P := Tryd.prog) w Tryd.underlying9 s p.length h
    have hc := str_eq (s.take p.length) p
    rw [decide_eq_true h, Bool.true_and]
    obtain ⟨b, hb⟩ : ∃ b, (s.take p.length == p) = b := ⟨_, rfl⟩
    rw [hb] at hc ⊢
    obtain ⟨S, hS⟩ : ∃ S, strB s = S := ⟨_, rfl⟩
    obtain ⟨T, hT⟩ : ∃ S, strB p = S := ⟨_, rfl⟩
    obtain ⟨U, hU⟩ : ∃ S, strB (s.take p.length) = S := ⟨_, rfl⟩
    rw [hS] at hss hsl ⊢
    rw [hT] at hsp hc ⊢
    rw [hU] at hsl hc
    obtain ⟨n, hn⟩ : ∃ n, s.length = n := ⟨_, rfl⟩
    obtain ⟨m, hm⟩ : ∃ n, p.length = n := ⟨_, rfl⟩
    rw [hn] at hss hs h
    rw [hm] at hsp hp h hsl
    clear hb hS hT hU hn hm
    have hi : (m : Int) ≤ n := by omega
    go_enter Tryd.func75, Tryd.ntmps75
    cases b
    · have hne : ¬ U.toList = T.toList := by simpa using hc
      go_wp2
      go_ret
      exact ⟨rfl, rfl⟩
    · have hne : U.toList = T.toList := by simpa using hc
      go_wp2
      go_ret
      exact ⟨rfl, rfl⟩
  · rw [decide_eq_false h, Bool.false_and]
    have hi : ¬ (p.length : Int) ≤ s.length := by omega
    obtain ⟨S, hS⟩ : ∃ S, strB s = S := ⟨_, rfl⟩
    obtain ⟨T, hT⟩ : ∃ S, strB p = S := ⟨_, rfl⟩
    rw [hS] at hss ⊢
    rw [hT] at hsp ⊢
    clear hS hT
    go_enter Tryd.func75, Tryd.ntmps75
    go_wp2
    go_ret
    exact ⟨rfl, rfl⟩
set_option maxHeartbeats 1000000 in
set_option maxRecDepth 100000 in
theorem GHasPrefix_any (s p : List UInt8) (hs : s.length ≤ 9223372036854775806) (hp : p.length ≤ 9223372036854775806) (w : World) : Calls Tryd.prog 65 #[.string (strB s), .string (strB p)] w fun e w' => e = .returned (.bool (p.isPrefixOf s)) ∧ w = w' := by
  have hc := Lib.hid (fun w => GsHasPrefix_any s p hs hp w)
  obtain ⟨b, hb⟩ : ∃ b, p.isPrefixOf s = b := ⟨_, rfl⟩
  rw [hb] at hc ⊢
  clear hb
  go_enter Tryd.func65, Tryd.ntmps65
  go_wp2_with (go_at_call 75; refine (hc.out _).mono ?_; rintro e w' ⟨rfl, rfl⟩)
  go_ret
  exact ⟨rfl, rfl⟩
/-- What is left behind a beginning. -/
def cutB (s p : List UInt8) : List UInt8 := if p.isPrefixOf s then s.drop p.length else s
set_option maxHeartbeats 1000000 in
set_option maxRecDepth 100000 in
theorem GsCutPrefix_any (s p : List UInt8) (hs : s.length ≤ 9223372036854775806) (hp : p.length ≤ 9223372036854775806) (w : World) : Calls Tryd.prog 77 #[.string (strB s), .string (strB p)] w fun e w' => e = .returned (.tuple #[.string (strB (cutB s p)), .bool (p.isPrefixOf s)]) ∧ w = w' := by
  have hc := Lib.hid (fun w => GsHasPrefix_any s p hs hp w)
  have hss := strB_size s
  have hsp := strB_size p
  have hle : p.isPrefixOf s = true → p.length ≤ s.length := fun h => by
    rw [pre_take, Bool.and_eq_true, decide_eq_true_eq] at h
    exact h.1
  have hT : p.isPrefixOf s = true → ∀ w, (Instr.slice 9 (.string (strB s)) (some (.int .i64 p.length)) none none).run Tryd.prog w = .ok (.string (strB (cutB s p))) w := fun h w => by
    rw [cutB, if_pos h]
    exact slice_from (P := Tryd.prog) w Tryd.underlying9 s p.length (hle h)
  have hF : p.isPrefixOf s = false → strB (cutB s p) = strB s := fun h => by rw [cutB, if_neg (by rw [h]; decide)]
  obtain ⟨b, hb⟩ : ∃ b, p.isPrefixOf s = b := ⟨_, rfl⟩
  rw [hb] at hc hle hT hF ⊢
  obtain ⟨S, hS⟩ : ∃ S, strB s = S := ⟨_, rfl⟩
  obtain ⟨T, hT'⟩ : ∃ S, strB p = S := ⟨_, rfl⟩
  obtain ⟨U, hU⟩ : ∃ S, strB (cutB s p) = S := ⟨_, rfl⟩
  rw [hS] at hc hss hT hF ⊢
  rw [hT'] at hc hsp ⊢
  rw [hU] at hT hF ⊢
  clear hb hS hT' hU
  go_enter Tryd.func77, Tryd.ntmps77
  cases b
  · have hF := hF rfl
    subst hF
    clear hT hle
    go_wp2_with (go_at_call 75; refine (hc.out _).mono ?_; rintro e w' ⟨rfl, rfl⟩)
    go_ret2
    exact ⟨rfl, rfl⟩
  · have hT := hT rfl
    have hle := hle rfl
    clear hF
    go_wp2_with (go_at_call 75; refine (hc.out _).mono ?_; rintro e w' ⟨rfl, rfl⟩)
    go_ret2
    exact ⟨rfl, rfl⟩
set_option maxHeartbeats 1000000 in
set_option maxRecDepth 100000 in
theorem GCutPrefix_any (s p : List UInt8) (hs : s.length ≤ 9223372036854775806) (hp : p.length ≤ 9223372036854775806) (w : World) : Calls Tryd.prog 67 #[.string (strB s), .string (strB p)] w fun e w' => e = .returned (.tuple #[.string (strB (cutB s p)), .bool (p.isPrefixOf s)]) ∧ w = w' := by
  have hc := Lib.hid (fun w => GsCutPrefix_any s p hs hp w)
  obtain ⟨b, hb⟩ : ∃ b, p.isPrefixOf s = b := ⟨_, rfl⟩
  rw [hb] at hc ⊢
  clear hb
  go_enter Tryd.func67, Tryd.ntmps67
  go_wp2_with (go_at_call 77; refine (hc.out _).mono ?_; rintro e w' ⟨rfl, rfl⟩)
  go_ret2
  exact ⟨rfl, rfl⟩
end Go.Proofs.YtppddpbacpeadaaDoor

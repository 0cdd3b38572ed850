/- What is proved: what the walks of this seat need of layers below, merged out of the texts Obb (of each just what is needed). Conditions: each theorem names its own. -/
import Derived.Test.YtnnafiajfapenaaDoorOba
/- What is proved: whose word a text is, by the program and by the document. Conditions: none. -/
namespace Go.Proofs.YtnnafiajfapenaaDoor
open Go.RowKit
set_option linter.unusedVariables false
theorem kindB_miss {s : List UInt8} (h : ∀ i : Nat, i < 4 → s ≠ kwordB ((i : Int) + 1)) : kindB s = 0 := by
  have h0 : s ≠ [98, 108, 111, 98] := h 0 (by omega)
  have h1 : s ≠ [116, 114, 101, 101] := h 1 (by omega)
  have h2 : s ≠ [99, 111, 109, 109, 105, 116] := h 2 (by omega)
  have h3 : s ≠ [116, 97, 103] := h 3 (by omega)
  rw [kindB, if_neg h0, if_neg h1, if_neg h2, if_neg h3]
theorem kindB_hit {s : List UInt8} {i : Nat} (hi : i < 4) (h : s = kwordB ((i : Int) + 1)) : kindB s = (i : Int) + 1 := by
  rw [h]; exact kindB_wordB (by omega) (by omega)
set_option maxHeartbeats 1600000 in
set_option maxRecDepth 100000 in
theorem ObKind_any (s : List UInt8) (w : World) : Calls Tryd.prog 17 #[.string (strB s)] w fun e w' => e = .returned (.int .i64 (kindB s)) ∧ w = w' := by
  have HW := Lib.hid (fun k w => ObWord_any k w)
  have HM := Lib.hid (kindB_miss (s := s))
  have HH := Lib.hid (fun i => kindB_hit (s := s) (i := i))
  obtain ⟨K, hK⟩ : ∃ K, kindB s = K := ⟨_, rfl⟩
  rw [hK] at HM HH ⊢
  have HS := Lib.hid (strB_list s)
  have HEQ := Lib.hid (fun k : Nat => str_eq (kwordB ((k : Int) + 1)) s)
  obtain ⟨S, hS⟩ : ∃ S, strB s = S := ⟨_, rfl⟩
  rw [hS] at HS HEQ ⊢
  clear hK hS
  go_enter Tryd.func17, Tryd.ntmps17
  go_wp2_with fail
  go_loopg [3] 4 (fun kx s3 wr => ∃ j : Nat, s3 = .int .i64 ((j : Int) + 1) ∧ j ≤ 4 ∧ 4 - j ≤ kx ∧ w = wr ∧ Hid (∀ i : Nat, i < j → s ≠ kwordB ((i : Int) + 1)))
  case atStart => exact ⟨0, rfl, by omega, by omega, rfl, Lib.hid (by intro i hi; omega)⟩
  case round =>
    obtain ⟨j, rfl, hj, hjx, rfl, HP⟩ := hrel
    by_cases hlt : j < 4
    · have hle : (j : Int) + 1 ≤ 4 := by omega
      have HW1 := Lib.hid (fun w => HW.out ((j : Int) + 1) w)
      have heq := HEQ.out j
      have w1 : IntKind.i64.wrap ((j : Int) + 1 + 1) = (j : Int) + 1 + 1 := by rw [IntKind.wrap_i64]; omega
      by_cases hh : s = kwordB ((j : Int) + 1)
      · have HR := Lib.hid (HH.out j hlt hh)
        have h1 : (strB (kwordB ((j : Int) + 1))).toList = S.toList := by rw [strB_list, HS.out, ← hh]
        rw [hh, beq_self_eq_true] at heq
        obtain ⟨T, hT⟩ : ∃ T, strB (kwordB ((j : Int) + 1)) = T := ⟨_, rfl⟩
        rw [hT] at HW1 h1
        clear heq hh hT
        go_wp2_with (go_at_call 13; refine (HW1.out _).mono ?_; rintro e w' ⟨rfl, rfl⟩)
        (try simp only [Exit.inBlock, Exit.then])
        go_ret
        exact ⟨by rw [← HR.out]; rfl, rfl⟩
      · have h1 : ¬ (strB (kwordB ((j : Int) + 1))).toList = S.toList := by rw [strB_list, HS.out]; exact fun e => hh e.symm
        have h2 : ((strB (kwordB ((j : Int) + 1))).toList == S.toList) = false := by simpa using h1
        have HPN : Hid (∀ i : Nat, i < j + 1 → s ≠ kwordB ((i : Int) + 1)) := Lib.hid (fun i hi => by
          rcases Nat.lt_or_ge i j with h | h
          · exact HP.out i h
          · obtain rfl : i = j := by omega
            exact hh)
        obtain ⟨T, hT⟩ : ∃ T, strB (kwordB ((j : Int) + 1)) = T := ⟨_, rfl⟩
        rw [hT] at HW1 h1 h2
        clear heq hh hT
        go_wp2_with (go_at_call 13; refine (HW1.out _).mono ?_; rintro e w' ⟨rfl, rfl⟩)
        go_roundg (gk - 1)
        case measure => omega
        case rel => exact ⟨j + 1, by simp, by omega, by omega, rfl, HPN⟩
    · have hle : ¬ (j : Int) + 1 ≤ 4 := by omega
      obtain rfl : j = 4 := by omega
      have HR := Lib.hid (HM.out HP.out)
      clear HP
      go_wp2_with fail
      (try simp only [Exit.inBlock, Exit.then])
      go_ret
      exact ⟨by rw [HR.out]; rfl, rfl⟩
end Go.Proofs.YtnnafiajfapenaaDoor

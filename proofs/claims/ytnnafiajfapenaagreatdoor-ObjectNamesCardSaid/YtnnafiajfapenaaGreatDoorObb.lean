/- What is proved: whose word a text is, by the program and by the document. Conditions: none. -/
import Derived.Test.YtnnafiajfapenaaGreatDoorOba
namespace Go.Proofs.YtnnafiajfapenaaGreatDoor
open Go.RowKit
set_option linter.unusedVariables false

theorem wordB1 : wordB 1 = [98, 108, 111, 98] := by decide
theorem kindB_miss {s : List UInt8} (h : ∀ i : Nat, i < 4 → s ≠ wordB ((i : Int) + 1)) : kindB s = 0 := by
  have h0 : s ≠ [98, 108, 111, 98] := h 0 (by omega)
  have h1 : s ≠ [116, 114, 101, 101] := h 1 (by omega)
  have h2 : s ≠ [99, 111, 109, 109, 105, 116] := h 2 (by omega)
  have h3 : s ≠ [116, 97, 103] := h 3 (by omega)
  rw [kindB, if_neg h0, if_neg h1, if_neg h2, if_neg h3]
theorem kindB_hit {s : List UInt8} {i : Nat} (hi : i < 4) (h : s = wordB ((i : Int) + 1)) : kindB s = (i : Int) + 1 := by
  rw [h]; exact kindB_wordB (by omega) (by omega)

set_option maxHeartbeats 1600000 in
set_option maxRecDepth 100000 in
theorem ObKind_any (s : List UInt8) (w : World) : Calls Tryz.prog 15 #[.string (strB s)] w fun e w' => e = .returned (.int .i64 (kindB s)) ∧ w = w' := by
  have HW := Lib.hid (fun k w => ObWord_any k w)
  have HM := Lib.hid (kindB_miss (s := s))
  have HH := Lib.hid (fun i => kindB_hit (s := s) (i := i))
  obtain ⟨K, hK⟩ : ∃ K, kindB s = K := ⟨_, rfl⟩
  rw [hK] at HM HH ⊢
  have HS := Lib.hid (strB_list s)
  have HEQ := Lib.hid (fun k : Nat => str_eq (wordB ((k : Int) + 1)) s)
  obtain ⟨S, hS⟩ : ∃ S, strB s = S := ⟨_, rfl⟩
  rw [hS] at HS HEQ ⊢
  clear hK hS
  go_enter Tryz.func15, Tryz.ntmps15
  go_wp2_with fail
  go_loopg [3] 4 (fun kx s3 wr => ∃ j : Nat, s3 = .int .i64 ((j : Int) + 1) ∧ j ≤ 4 ∧ 4 - j ≤ kx ∧ w = wr ∧ Hid (∀ i : Nat, i < j → s ≠ wordB ((i : Int) + 1)))
  case atStart => exact ⟨0, rfl, by omega, by omega, rfl, Lib.hid (by intro i hi; omega)⟩
  case round =>
    obtain ⟨j, rfl, hj, hjx, rfl, HP⟩ := hrel
    by_cases hlt : j < 4
    · have hle : (j : Int) + 1 ≤ 4 := by omega
      have HW1 := Lib.hid (fun w => HW.out ((j : Int) + 1) w)
      have heq := HEQ.out j
      have w1 : IntKind.i64.wrap ((j : Int) + 1 + 1) = (j : Int) + 1 + 1 := by rw [IntKind.wrap_i64]; omega
      by_cases hh : s = wordB ((j : Int) + 1)
      · have HR := Lib.hid (HH.out j hlt hh)
        have h1 : (strB (wordB ((j : Int) + 1))).toList = S.toList := by rw [strB_list, HS.out, ← hh]
        rw [hh, beq_self_eq_true] at heq
        obtain ⟨T, hT⟩ : ∃ T, strB (wordB ((j : Int) + 1)) = T := ⟨_, rfl⟩
        rw [hT] at HW1 h1
        clear heq hh hT
        go_wp2_with (go_at_call 13; refine (HW1.out _).mono ?_; rintro e w' ⟨rfl, rfl⟩)
        (try simp only [Exit.inBlock, Exit.then])
        go_ret
        exact ⟨by rw [← HR.out]; rfl, rfl⟩
      · have h1 : ¬ (strB (wordB ((j : Int) + 1))).toList = S.toList := by rw [strB_list, HS.out]; exact fun e => hh e.symm
        have h2 : ((strB (wordB ((j : Int) + 1))).toList == S.toList) = false := by simpa using h1
        have HPN : Hid (∀ i : Nat, i < j + 1 → s ≠ wordB ((i : Int) + 1)) := Lib.hid (fun i hi => by
          rcases Nat.lt_or_ge i j with h | h
          · exact HP.out i h
          · obtain rfl : i = j := by omega
            exact hh)
        obtain ⟨T, hT⟩ : ∃ T, strB (wordB ((j : Int) + 1)) = T := ⟨_, rfl⟩
        rw [hT] at HW1 h1 h2
        clear heq hh hT
        go_wp2_with (go_at_call 13; refine (HW1.out _).mono ?_; rintro e w' ⟨rfl, rfl⟩)
        go_roundg (gk - 1)
        case measure => omega
        case rel => exact ⟨j + 1, by simp, by omega, by omega, rfl, HPN⟩
    · have hle : ¬ (j : Int) + 1 ≤ 4 := by omega
      obtain rfl : j = 4 := by omega
      have HR := Lib.hid (HM.out HP.out)
      clear HP
      go_wp2_with fail
      (try simp only [Exit.inBlock, Exit.then])
      go_ret
      exact ⟨by rw [HR.out]; rfl, rfl⟩

set_option maxHeartbeats 1600000 in
set_option maxRecDepth 100000 in
theorem QbKind_any (s : List UInt8) (w : World) : Calls Tryz.prog 16 #[.string (strB s)] w fun e w' => e = .returned (.int .i64 (kindB s)) ∧ Below w.heap.size w w' := by
  have HW := Lib.hid (fun w => QbWords_any w)
  have HM := Lib.hid (kindB_miss (s := s))
  have HH := Lib.hid (fun i => kindB_hit (s := s) (i := i))
  obtain ⟨K, hK⟩ : ∃ K, kindB s = K := ⟨_, rfl⟩
  rw [hK] at HM HH ⊢
  have HS := Lib.hid (strB_list s)
  obtain ⟨S, hS⟩ : ∃ S, strB s = S := ⟨_, rfl⟩
  rw [hS] at HS ⊢
  clear hK hS
  go_enter Tryz.func16, Tryz.ntmps16
  go_wp2_with fail
  go_loopg [3] 4 (fun kx s3 wr => ∃ j : Nat, s3 = .int .i64 j ∧ j ≤ 4 ∧ 4 - j ≤ kx ∧ Fr (fun _ => False) w wr ∧ Hid (∀ i : Nat, i < j → s ≠ wordB ((i : Int) + 1)))
  case atStart => exact ⟨0, rfl, by omega, by omega, Fr.refl _ w, Lib.hid (by intro i hi; omega)⟩
  case round =>
    obtain ⟨j, rfl, hj, hjx, hf, HP⟩ := hrel
    have HF := Lib.hid hf
    clear hf
    by_cases hlt : j < 4
    · have hle : (j : Int) < 4 := by omega
      have w1 : IntKind.i64.wrap ((j : Int) + 1) = (j : Int) + 1 := by rw [IntKind.wrap_i64]; omega
      have hat := wordV_at j hlt
      have HL := Lib.hid (fun (w1 : World) => (Whole.new w1 9 wordV).cell j)
      rw [hat] at HL
      by_cases hh : s = wordB ((j : Int) + 1)
      · have HR := Lib.hid (HH.out j hlt hh)
        have h1 : (strB (wordB ((j : Int) + 1))).toList = S.toList := by rw [strB_list, HS.out, ← hh]
        obtain ⟨T, hT⟩ : ∃ T, strB (wordB ((j : Int) + 1)) = T := ⟨_, rfl⟩
        rw [hT] at HL h1
        clear hh hT hat
        go_wp2_with (go_at_call 30; refine (HW.out _).mono ?_; rintro e w' ⟨rfl, rfl⟩; have c1 := HL.out wr; have HF1 := Lib.hid (HF.out.alloc (.cells wordV 9)))
        (try simp only [Exit.inBlock, Exit.then])
        go_ret
        exact ⟨by rw [← HR.out]; rfl, HF1.out.below (fun _ _ e => e)⟩
      · have h1 : ¬ (strB (wordB ((j : Int) + 1))).toList = S.toList := by rw [strB_list, HS.out]; exact fun e => hh e.symm
        have h2 : ((strB (wordB ((j : Int) + 1))).toList == S.toList) = false := by simpa using h1
        have HPN : Hid (∀ i : Nat, i < j + 1 → s ≠ wordB ((i : Int) + 1)) := Lib.hid (fun i hi => by
          rcases Nat.lt_or_ge i j with h | h
          · exact HP.out i h
          · obtain rfl : i = j := by omega
            exact hh)
        obtain ⟨T, hT⟩ : ∃ T, strB (wordB ((j : Int) + 1)) = T := ⟨_, rfl⟩
        rw [hT] at HL h1 h2
        clear hh hT hat
        go_wp2_with (go_at_call 30; refine (HW.out _).mono ?_; rintro e w' ⟨rfl, rfl⟩; have c1 := HL.out wr; have HF1 := Lib.hid (HF.out.alloc (.cells wordV 9)))
        go_roundg (gk - 1)
        case measure => omega
        case rel => exact ⟨j + 1, by simp, by omega, by omega, HF1.out, HPN⟩
    · have hle : ¬ (j : Int) < 4 := by omega
      obtain rfl : j = 4 := by omega
      have HR := Lib.hid (HM.out HP.out)
      clear HP
      go_wp2_with fail
      (try simp only [Exit.inBlock, Exit.then])
      go_ret
      exact ⟨by rw [HR.out]; rfl, HF.out.below (fun _ _ e => e)⟩
end Go.Proofs.YtnnafiajfapenaaGreatDoor

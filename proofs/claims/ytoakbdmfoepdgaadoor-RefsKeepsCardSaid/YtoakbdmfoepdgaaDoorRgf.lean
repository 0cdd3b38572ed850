/- What is proved: where a name stands in a table, by the program; a ref is set, dropped, by the program. Conditions: the list's cells are there. -/
import Derived.Test.YtoakbdmfoepdgaaDoorRfe
import Derived.WalkMore
namespace Go.Proofs.YtoakbdmfoepdgaaDoor
open Go.RowKit Go.Sort Go.Shelf
set_option linter.unusedVariables false

theorem cmp_cases : ∀ (x y : List UInt8), (ltB x y = true ∧ Lib.compareBytes x y = -1) ∨ (x = y ∧ Lib.compareBytes x y = 0) ∨ (ltB x y = false ∧ x ≠ y ∧ Lib.compareBytes x y = 1)
  | [], [] => .inr (.inl ⟨rfl, rfl⟩)
  | [], b :: y => .inl ⟨by rw [ltB_eq]; simp, by simp [Lib.compareBytes]⟩
  | a :: x, [] => .inr (.inr ⟨ltB_nil _, by simp, by simp [Lib.compareBytes]⟩)
  | a :: x, b :: y => by
    rw [Lib.compareBytes, ltB_cons]
    by_cases h1 : a < b
    · simp [h1]
    · rw [if_neg h1]
      by_cases h2 : b < a
      · have h3 : ¬ a = b := fun e => by subst e; exact h1 h2
        simp [h1, h2, h3]
      · have h3 : a = b := UInt8.le_antisymm (UInt8.not_lt.1 h2) (UInt8.not_lt.1 h1)
        subst h3
        rw [if_neg h2]
        rcases cmp_cases x y with ⟨h4, h5⟩ | ⟨h4, h5⟩ | ⟨h4, h5, h6⟩
        · exact .inl ⟨by simp [h4], h5⟩
        · exact .inr (.inl ⟨by rw [h4], h5⟩)
        · exact .inr (.inr ⟨by simp [h1, h4], by simpa using h5, h6⟩)
theorem hasR_at {l : List Rf} {n : List UInt8} {k : Nat} (h : plcR l n = k) (hk : k < l.length) : hasR l n = (l[k]!.name == n) := by
  rw [hasR, h, rf_drop l k hk]; rfl
theorem hasR_end {l : List Rf} {n : List UInt8} (h : plcR l n = l.length) : hasR l n = false := by
  rw [hasR, h, List.drop_length]; rfl

set_option maxHeartbeats 3200000 in
set_option maxRecDepth 100000 in
theorem RfPlace_any (A : Option Addr) (cap : Nat) (l : List Rf) (hn : l.length ≤ 100000) (x : List UInt8) (w : World) (h : Lies w A (flatR l)) :
    Calls Tryd.prog 39 #[.slice A l.length cap, .string (strB x)] w fun e w' => e = .returned (.tuple #[.int .i64 (plcR l x), .bool (hasR l x)]) ∧ Below w.heap.size w w' := by
  have HLI := Lib.hid h
  have HD := Lib.hid (plcR_step l x)
  have HH := Lib.hid (fun k => hasR_at (l := l) (n := x) (k := k))
  have HE := Lib.hid (hasR_end (l := l) (n := x))
  obtain ⟨L, hL⟩ : ∃ L, l.length = L := ⟨_, rfl⟩
  have HLn := Lib.hid hL
  obtain ⟨X, hX⟩ : ∃ S, strB x = S := ⟨_, rfl⟩
  have HX := Lib.hid hX
  rw [hL] at hn HD HH HE ⊢
  rw [hX]
  clear h hL hX
  go_enter Tryd.func39, Tryd.ntmps39
  go_wp2
  go_step3
  go_wp2
  go_step3
  go_wp2
  go_loopg [4, 5] L (fun kx s4 s5 wr => ∃ k : Nat, s4 = .int .i64 k ∧ s5 = .bool false ∧ k ≤ L ∧ L - k ≤ kx ∧ Fr (fun _ => False) w wr ∧ Hid (plcR l x = k + plcR (l.drop k) x))
  case atStart => exact ⟨0, rfl, rfl, by omega, by omega, Fr.refl _ _, Lib.hid (by simp)⟩
  case round =>
    obtain ⟨k, rfl, rfl, hk, hkx, hf, HB⟩ := hrel
    obtain ⟨wo, rfl⟩ : ∃ wo, wo = wr := ⟨wr, rfl⟩
    have HFo := Lib.hid hf
    clear hf
    have wk := wrap_nat k (by omega)
    by_cases hlt : k < L
    · have hltz : (k : Int) < L := by omega
      obtain ⟨b, o, hB⟩ := HLI.out.someR (by rw [HLn.out]; omega)
      subst hB
      have c0 : wo.cell? ⟨b, o + k * 33, none⟩ = some (.string (strB l[k]!.name)) := rname_at HLI.out (rf_some (by rw [HLn.out]; omega)) HFo.out
      have HDk := Lib.hid (HD.out k hlt)
      have HHk : Hid (plcR l x = k → hasR l x = (l[k]!.name == x)) := Lib.hid (fun e => HH.out k e hlt)
      obtain ⟨y, hy⟩ : ∃ y, l[k]! = y := ⟨_, rfl⟩
      rw [hy] at c0 HDk HHk
      have hcc := cmp_cases y.name x
      have hc := fun w => GsCompare_any y.name x w
      obtain ⟨S, hS⟩ : ∃ S, strB y.name = S := ⟨_, rfl⟩
      rw [hS] at c0 hc
      rw [HX.out] at hc
      obtain ⟨r, hr⟩ : ∃ r, Lib.compareBytes y.name x = r := ⟨_, rfl⟩
      rw [hr] at hcc hc
      have HC := Lib.hid hc
      clear hy hS hr hc
      rcases hcc with ⟨h1, rfl⟩ | ⟨h1, rfl⟩ | ⟨h1, h2, rfl⟩
      · have HQ := Lib.hid h1
        clear h1
        go_wp2_with (go_at_call 54; refine (HC.out _).mono ?_; rintro e w' ⟨rfl, rfl⟩)
        go_roundg (L - (k + 1))
        case measure => omega
        case rel => exact ⟨k + 1, by go_num, rfl, by omega, Nat.le_refl _, HFo.out, Lib.hid (by rw [HB.out, HDk.out, if_pos HQ.out]; omega)⟩
      · have HQ := Lib.hid h1
        clear h1
        have HP : Hid (plcR l x = k) := Lib.hid (by rw [HB.out, HDk.out, HQ.out, ltB_irrefl]; simp)
        go_wp2_with (go_at_call 54; refine (HC.out _).mono ?_; rintro e w' ⟨rfl, rfl⟩)
        (try simp only [Exit.inBlock, Exit.then])
        go_wp2_with fail
        (try rw [Exit.noGoto_ret])
        go_ret2
        exact ⟨by rw [HP.out, HHk.out HP.out, HQ.out, beq_self_eq_true]; rfl, HFo.out.below (fun _ _ e => e)⟩
      · have HQ := Lib.hid h1
        have HQ2 := Lib.hid h2
        clear h1 h2
        have HP : Hid (plcR l x = k) := Lib.hid (by rw [HB.out, HDk.out, HQ.out]; simp)
        go_wp2_with (go_at_call 54; refine (HC.out _).mono ?_; rintro e w' ⟨rfl, rfl⟩)
        (try simp only [Exit.inBlock, Exit.then])
        go_wp2_with fail
        (try rw [Exit.noGoto_ret])
        go_ret2
        exact ⟨by rw [HP.out, HHk.out HP.out, show (y.name == x) = false by simpa using HQ2.out]; rfl, HFo.out.below (fun _ _ e => e)⟩
    · have hltz : ¬ ((k : Int) < L) := by omega
      obtain rfl : k = L := by omega
      have HP : Hid (plcR l x = k) := Lib.hid (by rw [HB.out, List.drop_of_length_le (by rw [HLn.out]; omega)]; rfl)
      go_wp2_with fail
      (try rw [Exit.noGoto_ret])
      go_ret2
      exact ⟨by rw [HP.out, HE.out HP.out]; rfl, HFo.out.below (fun _ _ e => e)⟩
end Go.Proofs.YtoakbdmfoepdgaaDoor

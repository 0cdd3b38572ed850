/- What is proved: that the program works at the examples; how long a text is; one list is itself. Conditions: none beyond each lemma's own premises. -/
import Derived.Test.YtnekddpnajgmdaaDoorRtr
namespace Go.Proofs.YtnekddpnajgmdaaDoor
open Go.RowKit
set_option linter.unusedVariables false

def eg1 : List UInt8 := [115, 114, 99, 47, 42, 46, 103, 111]
def eg2 : List UInt8 := [115, 114, 99, 47, 97, 46, 103, 111]
def eg3 : List UInt8 := [100, 111, 99, 47, 97, 46, 103, 111]
def eg4 : List UInt8 := [115, 114, 99]
theorem eg_fits : fitB eg1 eg2 = true := by kernel_rfl
theorem eg_not : fitB eg1 eg3 = false := by kernel_rfl
theorem eg_touch : touchB [eg1] eg4 = true := by kernel_rfl
theorem eg_small : ∀ i, i < [eg1].length → ([eg1].getD i []).length ≤ 300000 := by
  intro i hi
  have : i = 0 := by simpa using hi
  subst this
  decide
set_option maxHeartbeats 3200000 in
theorem works_any (w : World) : Calls Tryd.prog 10 #[] w fun e w' => e = .returned (.bool true) ∧ Below w.heap.size w w' := by
  have c1 : Hid (∀ w, Calls Tryd.prog 28 #[.string (ByteArray.mk #[115, 114, 99, 47, 42, 46, 103, 111]), .string (ByteArray.mk #[115, 114, 99, 47, 97, 46, 103, 111])] w fun e w' => e = .returned (.bool true) ∧ Below w.heap.size w w') :=
    Lib.hid (fun w => by have := RtFits_any eg1 eg2 (by decide) (by decide) w; rw [eg_fits] at this; exact this)
  have c2 : Hid (∀ w, Calls Tryd.prog 28 #[.string (ByteArray.mk #[115, 114, 99, 47, 42, 46, 103, 111]), .string (ByteArray.mk #[100, 111, 99, 47, 97, 46, 103, 111])] w fun e w' => e = .returned (.bool false) ∧ Below w.heap.size w w') :=
    Lib.hid (fun w => by have := RtFits_any eg1 eg3 (by decide) (by decide) w; rw [eg_not] at this; exact this)
  have c3 : Hid (∀ A w (hl : Lies w A [.string (ByteArray.mk #[115, 114, 99, 47, 42, 46, 103, 111])]), Calls Tryd.prog 32 #[.slice A 1 1, .string (ByteArray.mk #[115, 114, 99])] w fun e w' => e = .returned (.bool true) ∧ Below w.heap.size w w') :=
    Lib.hid (fun A w hl => by have := RtTouch_any [eg1] eg4 (by decide) eg_small (by decide) A 1 w hl; rw [eg_touch] at this; exact this)
  go_enter Tryd.func10, Tryd.ntmps10
  go_wp2_with (first
    | (have HL := Lib.hid (Lies.of_whole (xs := [.string (ByteArray.mk #[115, 114, 99, 47, 42, 46, 103, 111])]) (Whole.new w2 9 #[.string (ByteArray.mk #[115, 114, 99, 47, 42, 46, 103, 111])]))
       go_at_call 32; refine (c3.out _ _ HL.out).mono ?_; rintro e w3 ⟨rfl, g3⟩)
    | (have M := g1
       go_at_call 28; refine (c2.out _).mono ?_; rintro e w2 ⟨rfl, g2⟩)
    | (go_at_call 28; refine (c1.out _).mono ?_; rintro e w1 ⟨rfl, g1⟩))
  go_ret
  exact ⟨rfl, ((((Fr.of_below (S := fun _ => False) g1).then_below g2).alloc _).then_below g3).below (fun _ _ e => e)⟩

set_option maxHeartbeats 1600000 in
theorem long_any (l : List UInt8) (w : World) : Calls Tryd.prog 9 #[.string (strB l)] w fun e w' => e = .returned (.bool (decide (300 < l.length))) ∧ w = w' := by
  have hsz := strB_size l
  obtain ⟨S, hS⟩ : ∃ S, strB l = S := ⟨_, rfl⟩
  obtain ⟨n, hn⟩ : ∃ n, l.length = n := ⟨_, rfl⟩
  rw [hS, hn] at hsz
  rw [hS, hn]
  clear hS hn
  go_enter Tryd.func9, Tryd.ntmps9
  go_wp2
  go_ret
  refine ⟨?_, rfl⟩
  show Ending.returned (.bool (decide ((300 : Int) < (n : Int)))) = _
  congr 2
  rw [decide_eq_decide]
  omega

set_option maxHeartbeats 3200000 in
theorem QrSame_any (ps : List (List UInt8)) (hps : ps.length ≤ 1000000) (A B : Option Addr) (c d : Nat) (w : World) (ha : Lies w A (strV ps)) (hb : Lies w B (strV ps)) :
    Calls Tryd.prog 17 #[.slice A ps.length c, .slice B ps.length d] w fun e w' => e = .returned (.bool true) ∧ Below w.heap.size w w' := by
  have HA := Lib.hid (fun w' (f : Fr (fun _ => False) w w') => lies_str ha f)
  have HB := Lib.hid (fun w' (f : Fr (fun _ => False) w w') => lies_str hb f)
  obtain ⟨n, hn⟩ : ∃ n, ps.length = n := ⟨_, rfl⟩
  rw [hn] at HA HB hps ⊢
  clear ha hb hn
  go_enter Tryd.func17, Tryd.ntmps17
  go_wp2
  go_loopw [5] (fun i wr => ∃ k : Nat, k ≤ n ∧ i = .int .i64 k ∧ Fr (fun _ => False) w wr) (fun i _ => n - (intOf i).toNat)
  case atStart => exact ⟨0, by omega, rfl, Fr.refl _ _⟩
  case round =>
    obtain ⟨k, hk, rfl, hfr⟩ := hrel
    have HFr := Lib.hid hfr
    by_cases hlt : k < n
    · obtain ⟨b1, o1, rfl, hc1⟩ := HA.out wr hfr k hlt
      obtain ⟨b2, o2, rfl, hc2⟩ := HB.out wr hfr k hlt
      have hki : (k : Int) < n := by omega
      obtain ⟨S, hS⟩ : ∃ S, strB (ps.getD k []) = S := ⟨_, rfl⟩
      rw [hS] at hc1 hc2
      clear hS hfr
      go_wp2_with fail
      go_quiet (fail)
      go_wp2
      go_roundw
      case rel => exact ⟨k + 1, by omega, by go_num, HFr.out.drewN nq⟩
      case measure => simp [intOf]; omega
    · obtain rfl : k = n := by omega
      clear hfr
      go_wp2_with fail
      go_ret
      exact ⟨rfl, HFr.out.below (fun _ _ e => e)⟩

/-! A text that is too long for a path. -/
theorem right_long {l : List UInt8} (h : 120 < l.length) : rightB l = false := by
  rw [← Bool.not_eq_true, right_iff]
  intro hp
  have := hp.len
  omega
set_option maxHeartbeats 1600000 in
theorem QrRight_long (l : List UInt8) (h : 120 < l.length) (w : World) : Calls Tryd.prog 14 #[.string (strB l)] w fun e w' => e = .returned (.bool false) ∧ w = w' := by
  have hsz := strB_size l
  obtain ⟨S, hS⟩ : ∃ S, strB l = S := ⟨_, rfl⟩
  obtain ⟨n, hn⟩ : ∃ n, l.length = n := ⟨_, rfl⟩
  rw [hS, hn] at hsz
  rw [hn] at h
  rw [hS]
  have hi : (120 : Int) < n := by omega
  clear hS hn
  go_enter Tryd.func14, Tryd.ntmps14
  go_wp2
  go_ret
  exact ⟨rfl, rfl⟩
set_option maxHeartbeats 1600000 in
theorem RtRight_long (l : List UInt8) (h : 120 < l.length) (w : World) : Calls Tryd.prog 13 #[.string (strB l)] w fun e w' => e = .returned (.bool false) ∧ w = w' := by
  have hsz := strB_size l
  have hL := strB_list l
  have hne : l.isEmpty = false := by cases l with
    | nil => simp at h
    | cons x l => rfl
  have hne' : ¬ l = [] := by intro e; rw [e] at h; simp at h
  obtain ⟨S, hS⟩ : ∃ S, strB l = S := ⟨_, rfl⟩
  obtain ⟨n, hn⟩ : ∃ n, l.length = n := ⟨_, rfl⟩
  rw [hS, hn] at hsz
  rw [hS] at hL
  rw [hn] at h
  rw [hS]
  have hi : (120 : Int) < n := by omega
  clear hS hn
  go_enter Tryd.func13, Tryd.ntmps13
  go_wp2
  go_ret
  exact ⟨rfl, rfl⟩
end Go.Proofs.YtnekddpnajgmdaaDoor

/- What is proved: the walk of the law ObjectBack, for every kind and body and all bytes. Conditions: the library's table lies as its text lays it; the arguments' cells are there. -/
import Derived.Test.YtnnafiajfapenaaDoorObl
import Derived.Test.YtnnafiajfapenaaDoorObf
import Derived.Test.YtnnafiajfapenaaDoorObi
namespace Go.Proofs.YtnnafiajfapenaaDoor
open Go.RowKit Go.Sort Go.Shelf
set_option linter.unusedVariables false

theorem objB_len (k : Int) (l : List UInt8) : (objB k l).length ≤ 4040 := by
  by_cases h : chkO k l = 0
  · have h2 := (chkO_small h).2.2
    have h3 := headB_len k l.length (by omega)
    rw [objB, if_pos h, List.length_append]; omega
  · rw [objB, if_neg h]; exact Nat.zero_le _

set_option maxHeartbeats 6400000 in
set_option maxRecDepth 100000 in
theorem back_walk (k : Int) (A : Option Addr) (c : Nat) (l : List UInt8) (hcap : l.length ≤ c) (B : Option Addr) (d : Nat) (b : List UInt8) (hcapb : b.length ≤ d) (w : World) (hl : Lies w A (bytesV l)) (hb : Lies w B (bytesV b)) (hTab : Tab10 w) :
    Calls Tryd.prog 3 #[.int .i64 k, .slice A l.length c, .slice B b.length d] w fun e w' => e = .returned (.bool true) ∧ Below w.heap.size w w' := by
  have HLl := Lib.hid (fun w' (f : Fr (fun _ => False) w w') => hl.fr f (fun _ _ e => e))
  have HLb := Lib.hid (fun w' (f : Fr (fun _ => False) w w') => hb.fr f (fun _ _ e => e))
  have C9 := Lib.hid (fun w' (f : Fr (fun _ => False) w w') => works8_any w' (hTab.fr f))
  by_cases hbig : 5000 < l.length
  · have hgt : (5000 : Int) < (l.length : Int) := by omega
    obtain ⟨L, hL⟩ : ∃ L, l.length = L := ⟨_, rfl⟩
    obtain ⟨M, hM⟩ : ∃ L, b.length = L := ⟨_, rfl⟩
    rw [hL] at hgt ⊢
    rw [hM]
    clear hL hM hl hb hbig HLl HLb hcap hcapb hTab
    go_enter Tryd.func3, Tryd.ntmps3
    go_wp2_with (go_at_call 4; refine (C9.out _ (Fr.refl _ _)).mono ?_; rintro e w2 ⟨rfl, f2⟩)
    go_ret
    exact ⟨rfl, f2.below (fun _ _ e => e)⟩
  by_cases hbig2 : 5000 < b.length
  · have hgt : ¬ (5000 : Int) < (l.length : Int) := by omega
    have hgt2 : (5000 : Int) < (b.length : Int) := by omega
    obtain ⟨L, hL⟩ : ∃ L, l.length = L := ⟨_, rfl⟩
    obtain ⟨M, hM⟩ : ∃ L, b.length = L := ⟨_, rfl⟩
    rw [hL] at hgt ⊢
    rw [hM] at hgt2 ⊢
    clear hL hM hl hb hbig hbig2 HLl HLb hcap hcapb hTab
    go_enter Tryd.func3, Tryd.ntmps3
    go_wp2_with (go_at_call 4; refine (C9.out _ (Fr.refl _ _)).mono ?_; rintro e w2 ⟨rfl, f2⟩)
    go_ret
    exact ⟨rfl, f2.below (fun _ _ e => e)⟩
  have C1 := Lib.hid (ObBytes_any k A c l hcap (by omega) w hl hTab)
  have hol := objB_len k l
  have C2 := Lib.hid (fun w' A c (hc : (objB k l).length ≤ c) (h : Lies w' A (bytesV (objB k l))) => ObSplit_any A c (objB k l) hc (by omega) w' h)
  have HSO := Lib.hid (fun h => split_obj (k := k) (l := l) h)
  have C3 := Lib.hid (fun w' A B c d (h : Lies w' A (bytesV l)) (h2 : Lies w' B (bytesV l)) => Same_any A B c d l l w' h h2)
  rw [beq_self_eq_true] at C3
  have C4 := Lib.hid (fun w' (f : Fr (fun _ => False) w w') => ObSplit_any B d b hcapb (by omega) w' (HLb.out w' f))
  have hos := obj_split (b := b)
  have hsb := split_bad (b := b)
  have C6 := Lib.hid (fun w' A B c d (h : Lies w' A (bytesV b)) (h2 : Lies w' B (bytesV b)) => Same_any A B c d b b w' h h2)
  rw [beq_self_eq_true] at C6
  obtain ⟨Y, hY⟩ : ∃ Y, splitB b = Y := ⟨_, rfl⟩
  rw [hY] at C4 hos hsb
  obtain ⟨q, R, y⟩ := Y
  simp only [] at C4 hos hsb
  have HOS := Lib.hid hos
  have HSB := Lib.hid hsb
  have HRl : y = 0 → R.length ≤ 4000 := fun e => (chkO_small (hos e).1).2.2
  have C5 := Lib.hid (fun w' A c (hc : R.length ≤ c) (h : Lies w' A (bytesV R)) (f : Fr (fun _ => False) w w') (hy : y = 0) => ObBytes_any q A c R hc (by have := HRl hy; omega) w' h (hTab.fr f))
  obtain ⟨P, hP⟩ : ∃ P, objB k l = P := ⟨_, rfl⟩
  rw [hP] at C1 C2 HSO
  obtain ⟨r, hr⟩ : ∃ r, chkO k l = r := ⟨_, rfl⟩
  rw [hr] at C1 HSO
  obtain ⟨L, hL⟩ : ∃ L, l.length = L := ⟨_, rfl⟩
  have HLn := Lib.hid hL
  rw [hL] at C1 C3 hbig ⊢
  obtain ⟨M, hM⟩ : ∃ M, b.length = M := ⟨_, rfl⟩
  have HMn := Lib.hid hM
  rw [hM] at C4 C6 hbig2 ⊢
  have hle : ¬ ((5000 : Int) < (L : Int)) := by omega
  have hle2 : ¬ ((5000 : Int) < (M : Int)) := by omega
  clear hY hos hsb hP hr hL hM hl hb hcap hcapb hTab hol HRl
  by_cases hr0 : r = 0
  · subst hr0
    have hso := HSO.out (by first | rfl | trivial)
    rw [hso] at C2
    simp only [] at C2
    rw [HLn.out] at C2
    clear hso
    by_cases hy : y = 0
    · subst hy
      obtain ⟨h1, h2⟩ := HOS.out (by first | rfl | trivial)
      obtain ⟨RL, hRL⟩ : ∃ x, R.length = x := ⟨_, rfl⟩
      rw [h1, h2, HMn.out, hRL] at C5
      rw [hRL] at C4
      have D5 : Hid (∀ (w' : World) (A : Option Addr) (c : Nat), RL ≤ c → Lies w' A (bytesV R) → Fr (fun _ => False) w w' → Calls Tryd.prog 5 #[.int .i64 q, .slice A RL c] w' fun e w'_1 => ∃ A2 c2, e = .returned (.tuple #[.slice A2 M c2, .int .i64 0]) ∧ M ≤ c2 ∧ Lies w'_1 A2 (bytesV b) ∧ Fr (fun _ => False) w' w'_1) := Lib.hid (fun w' A c hc h f => C5.out w' A c hc h f rfl)
      clear h1 h2 hRL C5
      go_enter Tryd.func3, Tryd.ntmps3
      go_wp2_with (first
        | (
          (go_at_call 4; refine (C9.out _ F4.out).mono ?_; rintro e w5 ⟨rfl, f5⟩; have F5 := Lib.hid (F4.out.trans f5 (fun _ _ e => e)); clear f5))
        | (
          (have _ := M5; go_at_call 7; refine (C6.out w4 _ _ _ _ L4.out (HLb.out w4 F4.out)).mono ?_; rintro e w' ⟨rfl, rfl⟩))
        | (
          (have _ := M4; go_at_call 5; refine (D5.out w3 _ _ K3.out L3.out F3.out).mono ?_; rintro e w4 ⟨A4, c4, rfl, hc4, hl4, f4⟩; have L4 := Lib.hid hl4; have F4 := Lib.hid (F3.out.trans f4 (fun _ _ e => e)); have M5 := True.intro; clear hc4 hl4 f4))
        | (have _ := M3; (
          (go_at_call 6; refine (C4.out w2 F2.out).mono ?_; rintro e w3 ⟨A3, c3, rfl, hc3, hl3, hb3, f3⟩; have L3 := Lib.hid hl3; have K3 := Lib.hid hc3; have F3 := Lib.hid (F2.out.trans f3 (fun _ _ e => e)); have M4 := True.intro; clear hc3 hl3 hb3 f3)))
        | (
          (go_at_call 7; refine (C3.out w2 _ _ _ _ L2.out (HLl.out w2 F2.out)).mono ?_; rintro e w' ⟨rfl, rfl⟩; have M3 := True.intro))
        | (
          (go_at_call 6; refine (C2.out w1 _ _ K1.out L1.out).mono ?_; rintro e w2 ⟨A2, c2, rfl, hc2, hl2, hb2, f2⟩; have L2 := Lib.hid hl2; have F2 := Lib.hid (F1.out.trans f2 (fun _ _ e => e)); have M2 := True.intro; clear hc2 hl2 hb2 f2))
        | (
          (go_at_call 5; refine C1.out.mono ?_; rintro e w1 ⟨A1, c1, rfl, hc1, hl1, f1⟩; have L1 := Lib.hid hl1; have K1 := Lib.hid hc1; have F1 := Lib.hid f1; clear hc1 hl1 f1)))
      go_ret
      exact ⟨rfl, F5.out.below (fun _ _ e => e)⟩
    · have hyz : (y == 0) = false := by simp [hy]
      obtain ⟨rfl, rfl⟩ := HSB.out hy
      have C4 : Hid (∀ w', Fr (fun _ => False) w w' → Calls Tryd.prog 6 #[.slice B M d] w' fun e w'_1 => ∃ A2 c2, e = .returned (.tuple #[.int .i64 0, .slice A2 0 c2, .int .i64 y]) ∧ 0 ≤ c2 ∧ Lies w'_1 A2 (bytesV []) ∧ (∀ ad, A2 = some ad → w'.heap.size ≤ ad.block) ∧ Fr (fun _ => False) w' w'_1) := C4
      go_enter Tryd.func3, Tryd.ntmps3
      go_wp2_with (first
        | (
          (go_at_call 4; refine (C9.out _ F3.out).mono ?_; rintro e w5 ⟨rfl, f5⟩; have F5 := Lib.hid (F3.out.trans f5 (fun _ _ e => e)); clear f5))
        | (have _ := M3; (
          (go_at_call 6; refine (C4.out w2 F2.out).mono ?_; rintro e w3 ⟨A3, c3, rfl, hc3, hl3, hb3, f3⟩; have L3 := Lib.hid hl3; have K3 := Lib.hid hc3; have F3 := Lib.hid (F2.out.trans f3 (fun _ _ e => e)); have M4 := True.intro; clear hc3 hl3 hb3 f3)))
        | (
          (go_at_call 7; refine (C3.out w2 _ _ _ _ L2.out (HLl.out w2 F2.out)).mono ?_; rintro e w' ⟨rfl, rfl⟩; have M3 := True.intro))
        | (
          (go_at_call 6; refine (C2.out w1 _ _ K1.out L1.out).mono ?_; rintro e w2 ⟨A2, c2, rfl, hc2, hl2, hb2, f2⟩; have L2 := Lib.hid hl2; have F2 := Lib.hid (F1.out.trans f2 (fun _ _ e => e)); have M2 := True.intro; clear hc2 hl2 hb2 f2))
        | (
          (go_at_call 5; refine C1.out.mono ?_; rintro e w1 ⟨A1, c1, rfl, hc1, hl1, f1⟩; have L1 := Lib.hid hl1; have K1 := Lib.hid hc1; have F1 := Lib.hid f1; clear hc1 hl1 f1)))
      go_ret
      exact ⟨rfl, F5.out.below (fun _ _ e => e)⟩
  · have hrz : (r == 0) = false := by simp [hr0]
    by_cases hy : y = 0
    · subst hy
      obtain ⟨h1, h2⟩ := HOS.out (by first | rfl | trivial)
      obtain ⟨RL, hRL⟩ : ∃ x, R.length = x := ⟨_, rfl⟩
      rw [h1, h2, HMn.out, hRL] at C5
      rw [hRL] at C4
      have D5 : Hid (∀ (w' : World) (A : Option Addr) (c : Nat), RL ≤ c → Lies w' A (bytesV R) → Fr (fun _ => False) w w' → Calls Tryd.prog 5 #[.int .i64 q, .slice A RL c] w' fun e w'_1 => ∃ A2 c2, e = .returned (.tuple #[.slice A2 M c2, .int .i64 0]) ∧ M ≤ c2 ∧ Lies w'_1 A2 (bytesV b) ∧ Fr (fun _ => False) w' w'_1) := Lib.hid (fun w' A c hc h f => C5.out w' A c hc h f rfl)
      clear h1 h2 hRL C5
      go_enter Tryd.func3, Tryd.ntmps3
      go_wp2_with (first
        | (
          (go_at_call 4; refine (C9.out _ F4.out).mono ?_; rintro e w5 ⟨rfl, f5⟩; have F5 := Lib.hid (F4.out.trans f5 (fun _ _ e => e)); clear f5))
        | (
          (have _ := M5; go_at_call 7; refine (C6.out w4 _ _ _ _ L4.out (HLb.out w4 F4.out)).mono ?_; rintro e w' ⟨rfl, rfl⟩))
        | (
          (have _ := M4; go_at_call 5; refine (D5.out w3 _ _ K3.out L3.out F3.out).mono ?_; rintro e w4 ⟨A4, c4, rfl, hc4, hl4, f4⟩; have L4 := Lib.hid hl4; have F4 := Lib.hid (F3.out.trans f4 (fun _ _ e => e)); have M5 := True.intro; clear hc4 hl4 f4))
        | (
          (go_at_call 6; refine (C4.out w1 F1.out).mono ?_; rintro e w3 ⟨A3, c3, rfl, hc3, hl3, hb3, f3⟩; have L3 := Lib.hid hl3; have K3 := Lib.hid hc3; have F3 := Lib.hid (F1.out.trans f3 (fun _ _ e => e)); have M4 := True.intro; clear hc3 hl3 hb3 f3))
        | (
          (go_at_call 5; refine C1.out.mono ?_; rintro e w1 ⟨A1, c1, rfl, hc1, hl1, f1⟩; have L1 := Lib.hid hl1; have K1 := Lib.hid hc1; have F1 := Lib.hid f1; clear hc1 hl1 f1)))
      go_ret
      exact ⟨rfl, F5.out.below (fun _ _ e => e)⟩
    · have hyz : (y == 0) = false := by simp [hy]
      obtain ⟨rfl, rfl⟩ := HSB.out hy
      have C4 : Hid (∀ w', Fr (fun _ => False) w w' → Calls Tryd.prog 6 #[.slice B M d] w' fun e w'_1 => ∃ A2 c2, e = .returned (.tuple #[.int .i64 0, .slice A2 0 c2, .int .i64 y]) ∧ 0 ≤ c2 ∧ Lies w'_1 A2 (bytesV []) ∧ (∀ ad, A2 = some ad → w'.heap.size ≤ ad.block) ∧ Fr (fun _ => False) w' w'_1) := C4
      go_enter Tryd.func3, Tryd.ntmps3
      go_wp2_with (first
        | (
          (go_at_call 4; refine (C9.out _ F3.out).mono ?_; rintro e w5 ⟨rfl, f5⟩; have F5 := Lib.hid (F3.out.trans f5 (fun _ _ e => e)); clear f5))
        | (
          (go_at_call 6; refine (C4.out w1 F1.out).mono ?_; rintro e w3 ⟨A3, c3, rfl, hc3, hl3, hb3, f3⟩; have L3 := Lib.hid hl3; have K3 := Lib.hid hc3; have F3 := Lib.hid (F1.out.trans f3 (fun _ _ e => e)); have M4 := True.intro; clear hc3 hl3 hb3 f3))
        | (
          (go_at_call 5; refine C1.out.mono ?_; rintro e w1 ⟨A1, c1, rfl, hc1, hl1, f1⟩; have L1 := Lib.hid hl1; have K1 := Lib.hid hc1; have F1 := Lib.hid f1; clear hc1 hl1 f1)))
      go_ret
      exact ⟨rfl, F5.out.below (fun _ _ e => e)⟩
end Go.Proofs.YtnnafiajfapenaaDoor

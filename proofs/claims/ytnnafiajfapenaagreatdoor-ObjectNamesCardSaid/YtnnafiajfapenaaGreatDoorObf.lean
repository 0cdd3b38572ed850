/- What is proved: the walk of the law ObjectBytes, for every kind, body and word. Conditions: the library's table lies as its text lays it; the body's cells are there. -/
import Derived.Test.YtnnafiajfapenaaGreatDoorObe
import Derived.Lib.SlBytesConst
namespace Go.Proofs.YtnnafiajfapenaaGreatDoor
open Go.RowKit Go.Sort Go.Shelf
set_option linter.unusedVariables false

theorem ex_dig2 : digS 2 = [50] := by
  rw [digS, if_neg (by decide), show (2 : Int).toNat = 2 from rfl, Lib.decDigits_one (by decide)]
  rfl
theorem ex_chk8 : chkO 1 [104, 105] = 0 := chkO_1 (by decide)
theorem ex_obj : objB 1 [104, 105] = [98, 108, 111, 98, 32, 50, 0, 104, 105] := by
  rw [objB, if_pos ex_chk8, headB]
  show wordB 1 ++ [32] ++ digS 2 ++ [0] ++ [104, 105] = _
  rw [ex_dig2]
  rfl
set_option maxHeartbeats 3200000 in
set_option maxRecDepth 100000 in
theorem works8_any (w : World) (hT : Tab10 w) : Calls Tryz.prog 7 #[] w fun e w' => e = .returned (.bool true) ∧ Fr (fun _ => False) w w' := by
  have hcv0 := Lib.run_convert_bytes_const (P := Tryz.prog) w 22 5 #[.int .u8 104, .int .u8 105] 2 2 Tryz.underlying22 Tryz.underlying5
  have ho := ownF_new w w [104, 105] 2 #[.int .u8 104, .int .u8 105] (2, 3) (Fr.refl _ w) rfl (by decide) (by decide) (.inl (by decide)) (fun j u hu => by simpa [bytesV, byteV] using hu)
  rw [show (#[Value.int .u8 104, Value.int .u8 105] : Array Value).size = 2 from rfl, show 2 + 1 = 3 from rfl] at hcv0
  obtain ⟨w1, hw1⟩ : ∃ w1, w.alloc (.cells #[.int .u8 104, .int .u8 105] 5 (2, 3)) = w1 := ⟨_, rfl⟩
  rw [hw1] at hcv0 ho
  have hF := ho.fr2
  obtain ⟨_, _, hv, _, hL⟩ := ho.slice
  injection hv with hv1 hv2 hv3
  subst hv1
  have hp := ObBytes_any 1 (some ⟨w.heap.size, 0, none⟩) 2 [104, 105] (by decide) (by decide) w1 hL (hT.fr hF)
  rw [ex_chk8, ex_obj] at hp
  have HP := Lib.hid hp
  have HF := Lib.hid hF
  obtain ⟨P, hP⟩ : ∃ P, ([98, 108, 111, 98, 32, 50, 0, 104, 105] : List UInt8) = P := ⟨_, rfl⟩
  obtain ⟨S, hS⟩ : ∃ S, strB P = S := ⟨_, rfl⟩
  have hSc : ByteArray.mk #[98, 108, 111, 98, 32, 50, 0, 104, 105] = S := by rw [← hS, ← hP]; rfl
  have hle : P.length = 9 := by rw [← hP]; rfl
  rw [hP, hle] at HP
  have HCV := Lib.hid (fun (w2 : World) (A : Option Addr) (c : Nat) (h : Lies w2 A (bytesV P)) => run_convert_lies 22 9 5 Tryz.underlying22 Tryz.underlying5 Tryz.underlying9 h c)
  rw [hS, hle] at HCV
  clear hp hS hP hL hF hle ho hv2 hv3 hw1
  go_enter Tryz.func7, Tryz.ntmps7
  go_wp2_with (go_at_call 8; refine HP.out.mono ?_; rintro e w2 ⟨A2, c2, rfl, hc2, hl2, f2⟩; have e2 := HCV.out w2 A2 c2 hl2; have F2 := Lib.hid f2; clear hc2 hl2 f2)
  go_ret
  exact ⟨rfl, HF.out.trans F2.out (fun _ _ e => e)⟩

set_option maxHeartbeats 6400000 in
set_option maxRecDepth 100000 in
theorem bytes_walk (k : Int) (A : Option Addr) (c : Nat) (l : List UInt8) (hcap : l.length ≤ c) (s : List UInt8) (w : World) (hl : Lies w A (bytesV l)) (hTab : Tab10 w) :
    Calls Tryz.prog 3 #[.int .i64 k, .slice A l.length c, .string (strB s)] w fun e w' => e = .returned (.bool true) ∧ Below w.heap.size w w' := by
  have HL := Lib.hid (fun w' (f : Fr (fun _ => False) w w') => hl.fr f (fun _ _ e => e))
  have C9 := Lib.hid (fun w' (f : Fr (fun _ => False) w w') => works8_any w' (hTab.fr f))
  by_cases hbig : 5000 < l.length
  · have hgt : (5000 : Int) < (l.length : Int) := by omega
    obtain ⟨L, hL⟩ : ∃ L, l.length = L := ⟨_, rfl⟩
    rw [hL] at hgt ⊢
    clear hL hl hbig HL hcap hTab
    go_enter Tryz.func3, Tryz.ntmps3
    go_wp2_with (go_at_call 7; refine (C9.out _ (Fr.refl _ _)).mono ?_; rintro e w2 ⟨rfl, f2⟩)
    go_ret
    exact ⟨rfl, f2.below (fun _ _ e => e)⟩
  · have C1 := Lib.hid (ObBytes_any k A c l hcap (by omega) w hl hTab)
    have C2 := Lib.hid (fun w' (f : Fr (fun _ => False) w w') => QbBytes_any k A c l hcap (by omega) w' (HL.out w' f))
    have C3 := Lib.hid (fun w' A B c d ha hb => Same_any A B c d (objB k l) (objB k l) w' ha hb)
    rw [beq_self_eq_true] at C3
    have C4 := Lib.hid (fun w' (f : Fr (fun _ => False) w w') => ObCheck_any k A c l hcap w' (HL.out w' f))
    have C5 := Lib.hid (fun w' (f : Fr (fun _ => False) w w') => QbCheck_any k A c l hcap w' (HL.out w' f))
    have C6 := Lib.hid (fun w' => ObWord_any k w')
    have C7 := Lib.hid (fun w' => QbWord_any k w')
    have C8 := Lib.hid (fun w' => ObKind_any s w')
    have D8 := Lib.hid (fun w' => QbKind_any s w')
    obtain ⟨r, hr⟩ : ∃ r, chkO k l = r := ⟨_, rfl⟩
    obtain ⟨P, hP⟩ : ∃ P, objB k l = P := ⟨_, rfl⟩
    obtain ⟨W, hW⟩ : ∃ W, strB (wordB k) = W := ⟨_, rfl⟩
    obtain ⟨q, hq⟩ : ∃ q, kindB s = q := ⟨_, rfl⟩
    obtain ⟨S, hS⟩ : ∃ S, strB s = S := ⟨_, rfl⟩
    obtain ⟨L, hL⟩ : ∃ L, l.length = L := ⟨_, rfl⟩
    rw [hr, hP, hL] at C1 C2
    rw [hP] at C3
    rw [hr, hL] at C4 C5
    rw [hW] at C6 C7
    rw [hq, hS] at C8 D8
    rw [hS, hL]
    have hle : ¬ ((5000 : Int) < (L : Int)) := by omega
    clear hr hP hW hq hS hL hl hTab hcap hbig HL
    go_enter Tryz.func3, Tryz.ntmps3
    go_wp2_with (first
      | (go_at_call 8; refine C1.out.mono ?_; rintro e w1 ⟨A1, c1, rfl, hc1, hl1, f1⟩; have L1 := Lib.hid hl1; have F1 := Lib.hid f1; clear hc1 hl1 f1)
      | (go_at_call 9; refine (C2.out _ F1.out).mono ?_; rintro e w2 ⟨A2, c2, rfl, hc2, hl2, f2⟩; have L2 := Lib.hid hl2; have L1' := Lib.hid (L1.out.fr f2 (fun _ _ e => e)); have F2 := Lib.hid (F1.out.trans f2 (fun _ _ e => e)); clear hc2 hl2 f2)
      | (go_at_call 10; refine (C3.out _ _ _ _ _ L1'.out L2.out).mono ?_; rintro e w' ⟨rfl, rfl⟩)
      | (go_at_call 11; refine (C4.out _ F2.out).mono ?_; rintro e w3 ⟨rfl, f3⟩; have F3 := Lib.hid (F2.out.trans f3 (fun _ _ e => e)); clear f3)
      | (go_at_call 12; refine (C5.out _ F3.out).mono ?_; rintro e w4 ⟨rfl, f4⟩; have F4 := Lib.hid (F3.out.trans f4 (fun _ _ e => e)); clear f4)
      | (go_at_call 13; refine (C6.out _).mono ?_; rintro e w' ⟨rfl, rfl⟩)
      | (go_at_call 14; refine (C7.out _).mono ?_; rintro e w5 ⟨rfl, b5⟩; have F5 := Lib.hid (F4.out.then_below b5); clear b5)
      | (go_at_call 15; refine (C8.out _).mono ?_; rintro e w' ⟨rfl, rfl⟩)
      | (go_at_call 16; refine (D8.out _).mono ?_; rintro e w6 ⟨rfl, b6⟩; have F6 := Lib.hid (F5.out.then_below b6); clear b6)
      | (go_at_call 7; refine (C9.out _ F6.out).mono ?_; rintro e w7 ⟨rfl, f7⟩; have F7 := Lib.hid (F6.out.trans f7 (fun _ _ e => e)); clear f7))
    go_ret
    exact ⟨rfl, F7.out.below (fun _ _ e => e)⟩
end Go.Proofs.YtnnafiajfapenaaGreatDoor

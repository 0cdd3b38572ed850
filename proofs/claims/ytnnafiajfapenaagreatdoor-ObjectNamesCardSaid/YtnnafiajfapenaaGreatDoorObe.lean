/- What is proved: what stands ahead of an object's body, and an object as bytes, by the program and by the document. Conditions: the library's table lies as its text lays it; the body's cells are there. -/
import Derived.Test.YtnnafiajfapenaaGreatDoorObc
import Derived.Test.YtnnafiajfapenaaGreatDoorObd
namespace Go.Proofs.YtnnafiajfapenaaGreatDoor
open Go.RowKit Go.Sort Go.Shelf
set_option linter.unusedVariables false

theorem digO_len (n : Int) (hn : n ≤ 9223372036854775807) : (digS n).length ≤ 21 := by
  unfold digS
  split
  · exact Nat.zero_le _
  · have := Lib.itoa_length_le n (by omega) hn
    rwa [Lib.itoa, if_neg (by omega)] at this
/-- What stands ahead of a body. -/
def headB (k n : Int) : List UInt8 := wordB k ++ [32] ++ digS n ++ [0]
theorem headB_len (k n : Int) (hn : n ≤ 9223372036854775807) : (headB k n).length ≤ 40 := by
  have h1 := wordB_len k
  have h2 := digO_len n hn
  simp only [headB, List.length_append, List.length_cons, List.length_nil]
  omega
/-- An object as bytes. -/
def objB (k : Int) (l : List UInt8) : List UInt8 := if chkO k l = 0 then headB k l.length ++ l else []

set_option maxHeartbeats 3200000 in
set_option maxRecDepth 100000 in
theorem Obhead_any (k n : Int) (hn : n ≤ 9223372036854775807) (w : World) (hTab : Tab10 w) :
    Calls Tryz.prog 24 #[.int .i64 k, .int .i64 n] w fun e w' => ∃ v, e = .returned v ∧ OwnF w w' v (headB k n) := by
  have hwl := wordB_len k
  have hdl := digO_len n hn
  have HW := Lib.hid (fun w => ObWord_any k w)
  have HD := Lib.hid (VDigits_any n hn w hTab)
  have a1 : ∀ w, (Op.stringOp .add (strB (wordB k)) (ByteArray.mk #[32])).run Tryz.prog w = .ok (.string (strB (wordB k ++ [32]))) w := fun w => add_str (wordB k) [32] (by simp; omega) w
  have a2 : ∀ w, (Op.stringOp .add (strB (wordB k ++ [32])) (strB (digS n))).run Tryz.prog w = .ok (.string (strB (wordB k ++ [32] ++ digS n))) w := fun w => add_str (wordB k ++ [32]) (digS n) (by simp; omega) w
  have hlen : (wordB k ++ [32] ++ digS n).length ≤ 40 := by simp only [List.length_append, List.length_cons, List.length_nil]; omega
  have HC := Lib.hid (fun w => conv_own w (wordB k ++ [32] ++ digS n) (by omega))
  have HH : Hid (headB k n = (wordB k ++ [32] ++ digS n) ++ [0]) := Lib.hid rfl
  obtain ⟨X, hX⟩ : ∃ X, wordB k ++ [32] ++ digS n = X := ⟨_, rfl⟩
  rw [hX] at a2 HC HH hlen
  obtain ⟨S1, hS1⟩ : ∃ S, strB (wordB k) = S := ⟨_, rfl⟩
  obtain ⟨S2, hS2⟩ : ∃ S, strB (wordB k ++ [32]) = S := ⟨_, rfl⟩
  obtain ⟨S3, hS3⟩ : ∃ S, strB (digS n) = S := ⟨_, rfl⟩
  obtain ⟨S4, hS4⟩ : ∃ S, strB X = S := ⟨_, rfl⟩
  rw [hS1] at HW a1
  rw [hS2] at a1 a2
  rw [hS3] at HD a2
  rw [hS4] at a2 HC
  clear hX hS1 hS2 hS3 hS4 hwl hdl hn hTab
  go_enter Tryz.func24, Tryz.ntmps24
  go_wp2_with (first
    | (go_at_call 13; refine (HW.out _).mono ?_; rintro e w' ⟨rfl, rfl⟩)
    | (go_at_call 39; refine HD.out.mono ?_; rintro e w2 ⟨rfl, b2⟩; obtain ⟨v3, w3, hcv, o3⟩ := HC.out w2; have O3 := Lib.hid (o3.weaken (Fr.of_below (S := fun _ => False) b2)); clear o3 b2)
    | (at_builtin; refine wpList_append_own rfl (.tmp 11) (.tmp 12) 22 rfl rfl rfl (O3.out.fr ((Fr.refl (fun _ => False) w3).alloc _)) [0] _ 1 rfl rfl (src_one Tryz.underlying22 w3 (.int .u8 0) rfl) (by omega) (by decide) ?_
       intro v4 w4 o4
       have O4 := Lib.hid o4
       clear o4))
  go_ret
  exact ⟨_, rfl, by rw [HH.out]; exact O4.out⟩

set_option maxHeartbeats 3200000 in
set_option maxRecDepth 100000 in
theorem ObBytes_any (k : Int) (A : Option Addr) (c : Nat) (l : List UInt8) (hcap : l.length ≤ c) (hm : l.length ≤ 9223372036854775807) (w : World) (h : Lies w A (bytesV l)) (hTab : Tab10 w) :
    Calls Tryz.prog 8 #[.int .i64 k, .slice A l.length c] w fun e w' => ∃ A2 c2, e = .returned (.tuple #[.slice A2 (objB k l).length c2, .int .i64 (chkO k l)]) ∧ (objB k l).length ≤ c2 ∧ Lies w' A2 (bytesV (objB k l)) ∧ Fr (fun _ => False) w w' := by
  have HC := Lib.hid (ObCheck_any k A c l hcap w h)
  have HL := Lib.hid (fun w' (f : Fr (fun _ => False) w w') => h.fr f (fun _ _ e => e))
  have HH := Lib.hid (fun w' (f : Fr (fun _ => False) w w') => Obhead_any k l.length (by omega) w' (hTab.fr f))
  have hhl := headB_len k l.length (by omega)
  have HB0 : Hid (chkO k l = 0 → objB k l = headB k l.length ++ l ∧ l.length ≤ 4000) := Lib.hid (fun e => ⟨by rw [objB, if_pos e], by
    by_cases hk : k < 1 ∨ 4 < k
    · rw [chkO_bad hk] at e; cases e
    · by_cases h2 : 4000 < l.length
      · rw [chkO_long hk h2] at e; cases e
      · omega⟩)
  have HB1 : Hid (chkO k l ≠ 0 → objB k l = []) := Lib.hid (fun e => by rw [objB, if_neg e])
  have HS := Lib.hid (fun w' (h : Lies w' A (bytesV l)) => Lies.srcB (n := l.length) h rfl c)
  obtain ⟨P, hP⟩ : ∃ P, objB k l = P := ⟨_, rfl⟩
  obtain ⟨Hd, hHd⟩ : ∃ P, headB k l.length = P := ⟨_, rfl⟩
  rw [hP] at HB0 HB1 ⊢
  rw [hHd] at HH hhl HB0
  obtain ⟨r, hr⟩ : ∃ r, chkO k l = r := ⟨_, rfl⟩
  rw [hr] at HC HB0 HB1 ⊢
  obtain ⟨n, hn⟩ : ∃ n, l.length = n := ⟨_, rfl⟩
  have HNn := Lib.hid hn
  rw [hn] at HC HH HB0 HS hm ⊢
  clear hP hHd hr hn h hTab hcap
  by_cases hr0 : r = 0
  · subst hr0
    obtain ⟨hpe, hn4⟩ := HB0.out rfl
    have HPE := Lib.hid hpe
    clear hpe
    go_enter Tryz.func8, Tryz.ntmps8
    go_wp2_with (first
      | (go_at_call 11; refine HC.out.mono ?_; rintro e w2 ⟨rfl, f2⟩; have F2 := Lib.hid f2; clear f2)
      | (go_at_call 24; refine (HH.out _ F2.out).mono ?_; rintro e w3 ⟨v3, rfl, o3⟩; have O3 := Lib.hid (o3.weaken F2.out); clear o3)
      | (at_builtin; refine wpList_append_own rfl (.tmp 16) (.tmp 17) 22 rfl rfl rfl O3.out l _ n rfl HNn.out.symm (HS.out w3 (HL.out w3 O3.out.fr2)) (by omega) (by rw [HNn.out]; omega) ?_
         intro v4 w4 o4
         rw [← HPE.out] at o4
         obtain ⟨A4, c4, rfl, hc4, hl4⟩ := o4.slice
         have F4 := Lib.hid o4.fr2
         have L4 := Lib.hid hl4
         have C4 := Lib.hid hc4
         clear o4 hl4 hc4))
    go_ret2
    exact ⟨_, _, rfl, C4.out, L4.out, F4.out⟩
  · have hrz : (r == 0) = false := by simp [hr0]
    go_enter Tryz.func8, Tryz.ntmps8
    go_wp2_with (go_at_call 11; refine HC.out.mono ?_; rintro e w2 ⟨rfl, f2⟩; have F2 := Lib.hid f2; clear f2)
    go_ret2
    exact ⟨none, 0, by rw [HB1.out hr0]; rfl, by rw [HB1.out hr0]; exact Nat.le_refl _, by rw [HB1.out hr0]; exact .inl rfl, F2.out⟩

set_option maxHeartbeats 3200000 in
set_option maxRecDepth 100000 in
theorem QbBytes_any (k : Int) (A : Option Addr) (c : Nat) (l : List UInt8) (hcap : l.length ≤ c) (hm : l.length ≤ 9223372036854775807) (w : World) (h : Lies w A (bytesV l)) :
    Calls Tryz.prog 9 #[.int .i64 k, .slice A l.length c] w fun e w' => ∃ A2 c2, e = .returned (.tuple #[.slice A2 (objB k l).length c2, .int .i64 (chkO k l)]) ∧ (objB k l).length ≤ c2 ∧ Lies w' A2 (bytesV (objB k l)) ∧ Fr (fun _ => False) w w' := by
  have HC := Lib.hid (QbCheck_any k A c l hcap w h)
  have HL := Lib.hid (fun w' (f : Fr (fun _ => False) w w') => h.fr f (fun _ _ e => e))
  have HW := Lib.hid (fun w => QbWord_any k w)
  have HD := Lib.hid (fun w => QvDigits_any l.length (by omega) w)
  have hwl := wordB_len k
  have hdl := digO_len l.length (by omega)
  have a1 : ∀ w, (Op.stringOp .add (strB (wordB k)) (ByteArray.mk #[32])).run Tryz.prog w = .ok (.string (strB (wordB k ++ [32]))) w := fun w => add_str (wordB k) [32] (by simp; omega) w
  have a2 : ∀ w, (Op.stringOp .add (strB (wordB k ++ [32])) (strB (digS l.length))).run Tryz.prog w = .ok (.string (strB (wordB k ++ [32] ++ digS l.length))) w := fun w => add_str (wordB k ++ [32]) (digS l.length) (by simp; omega) w
  have hlen : (wordB k ++ [32] ++ digS l.length).length ≤ 40 := by simp only [List.length_append, List.length_cons, List.length_nil]; omega
  have HV := Lib.hid (fun w => conv_own w (wordB k ++ [32] ++ digS l.length) (by omega))
  have HB0 : Hid (chkO k l = 0 → objB k l = ((wordB k ++ [32] ++ digS l.length) ++ [0]) ++ l ∧ l.length ≤ 4000) := Lib.hid (fun e => ⟨by rw [objB, if_pos e]; rfl, by
    by_cases hk : k < 1 ∨ 4 < k
    · rw [chkO_bad hk] at e; cases e
    · by_cases h2 : 4000 < l.length
      · rw [chkO_long hk h2] at e; cases e
      · omega⟩)
  have HB1 : Hid (chkO k l ≠ 0 → objB k l = []) := Lib.hid (fun e => by rw [objB, if_neg e])
  have HS := Lib.hid (fun w' (h : Lies w' A (bytesV l)) => Lies.srcB (n := l.length) h rfl c)
  obtain ⟨X, hX⟩ : ∃ X, wordB k ++ [32] ++ digS l.length = X := ⟨_, rfl⟩
  rw [hX] at a2 HV HB0 hlen
  obtain ⟨P, hP⟩ : ∃ P, objB k l = P := ⟨_, rfl⟩
  rw [hP] at HB0 HB1 ⊢
  obtain ⟨r, hr⟩ : ∃ r, chkO k l = r := ⟨_, rfl⟩
  rw [hr] at HC HB0 HB1 ⊢
  obtain ⟨S1, hS1⟩ : ∃ S, strB (wordB k) = S := ⟨_, rfl⟩
  obtain ⟨S2, hS2⟩ : ∃ S, strB (wordB k ++ [32]) = S := ⟨_, rfl⟩
  obtain ⟨S3, hS3⟩ : ∃ S, strB (digS l.length) = S := ⟨_, rfl⟩
  obtain ⟨S4, hS4⟩ : ∃ S, strB X = S := ⟨_, rfl⟩
  rw [hS1] at HW a1
  rw [hS2] at a1 a2
  rw [hS3] at HD a2
  rw [hS4] at a2 HV
  obtain ⟨n, hn⟩ : ∃ n, l.length = n := ⟨_, rfl⟩
  have HNn := Lib.hid hn
  rw [hn] at HC HD HB0 HS hm ⊢
  clear hX hP hr hS1 hS2 hS3 hS4 hn hwl hdl h hcap
  by_cases hr0 : r = 0
  · subst hr0
    obtain ⟨hpe, hn4⟩ := HB0.out rfl
    have HPE := Lib.hid hpe
    clear hpe
    go_enter Tryz.func9, Tryz.ntmps9
    go_wp2_with (first
      | (go_at_call 12; refine HC.out.mono ?_; rintro e w2 ⟨rfl, f2⟩; have F2 := Lib.hid f2; clear f2)
      | (go_at_call 14; refine (HW.out _).mono ?_; rintro e w3 ⟨rfl, b3⟩; have F3 := Lib.hid (F2.out.then_below b3); clear b3)
      | (go_at_call 25; refine (HD.out _).mono ?_; rintro e w4 ⟨rfl, b4⟩; obtain ⟨v5, w5, hcv, o5⟩ := HV.out w4; have O5 := Lib.hid (o5.weaken (F3.out.then_below b4)); clear b4 o5)
      | (have _ := M6
         at_builtin
         refine wpList_append_own rfl (.tmp 25) (.tmp 26) 22 rfl rfl rfl O6.out l _ n rfl HNn.out.symm (HS.out w6 (HL.out w6 O6.out.fr2)) (by rw [List.length_append, List.length_singleton]; omega) (by rw [HNn.out]; omega) ?_
         intro v7 w7 o7
         rw [← HPE.out] at o7
         obtain ⟨A7, c7, rfl, hc7, hl7⟩ := o7.slice
         have F7 := Lib.hid o7.fr2
         have L7 := Lib.hid hl7
         have C7 := Lib.hid hc7
         clear o7 hl7 hc7)
      | (at_builtin
         refine wpList_append_own rfl (.tmp 22) (.tmp 23) 22 rfl rfl rfl (O5.out.fr ((Fr.refl (fun _ => False) w5).alloc _)) [0] _ 1 rfl rfl (src_one Tryz.underlying22 w5 (.int .u8 0) rfl) (by omega) (by decide) ?_
         intro v6 w6 o6
         have O6 := Lib.hid o6
         have M6 := True.intro
         clear o6))
    go_ret2
    exact ⟨_, _, rfl, C7.out, L7.out, F7.out⟩
  · have hrz : (r == 0) = false := by simp [hr0]
    go_enter Tryz.func9, Tryz.ntmps9
    go_wp2_with (go_at_call 12; refine HC.out.mono ?_; rintro e w2 ⟨rfl, f2⟩; have F2 := Lib.hid f2; clear f2)
    go_ret2
    exact ⟨none, 0, by rw [HB1.out hr0]; rfl, by rw [HB1.out hr0]; exact Nat.le_refl _, by rw [HB1.out hr0]; exact .inl rfl, F2.out⟩
end Go.Proofs.YtnnafiajfapenaaGreatDoor

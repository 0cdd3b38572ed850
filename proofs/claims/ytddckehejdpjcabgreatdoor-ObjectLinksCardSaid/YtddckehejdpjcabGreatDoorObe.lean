/- What is proved: what the walks of this seat need of layers below, merged out of the texts Obe (of each just what is needed). Conditions: each theorem names its own. -/
import Derived.Test.YtddckehejdpjcabGreatDoorObc
import Derived.Test.YtddckehejdpjcabGreatDoorObd
/- What is proved: what stands ahead of an object's body, and an object as bytes, by the program and by the document. Conditions: the library's table lies as its text lays it; the body's cells are there. -/
namespace Go.Proofs.YtddckehejdpjcabGreatDoor
open Go.RowKit Go.Sort Go.Shelf
set_option linter.unusedVariables false
theorem digO_len (n : Int) (hn : n ≤ 9223372036854775807) : (digS n).length ≤ 21 := by
  unfold digS
  split
  · exact Nat.zero_le _
  · have := Lib.itoa_length_le n (by omega) hn
    rwa [Lib.itoa, if_neg (by omega)] at this
/-- What stands ahead of a body. -/
def headB (k n : Int) : List UInt8 := kwordB k ++ [32] ++ digS n ++ [0]
theorem headB_len (k n : Int) (hn : n ≤ 9223372036854775807) : (headB k n).length ≤ 40 := by
  have h1 := wordB_len k
  have h2 := digO_len n hn
  simp only [headB, List.length_append, List.length_cons, List.length_nil]
  omega
/-- An object as bytes. -/
def objB (k : Int) (l : List UInt8) : List UInt8 := if chkO k l = 0 then headB k l.length ++ l else []
set_option maxHeartbeats 3200000 in
set_option maxRecDepth 100000 in
theorem Obhead_any (k n : Int) (hn : n ≤ 9223372036854775807) (w : World) (hTab : Tab10 w) :
    Calls Tryz.prog 15 #[.int .i64 k, .int .i64 n] w fun e w' => ∃ v, e = .returned v ∧ OwnF w w' v (headB k n) := by
  have hwl := wordB_len k
  have hdl := digO_len n hn
  have HW := Lib.hid (fun w => ObWord_any k w)
  have HD := Lib.hid (VDigits_any n hn w hTab)
  have a1 : ∀ w, (Op.stringOp .add (strB (kwordB k)) (ByteArray.mk #[32])).run Tryz.prog w = .ok (.string (strB (kwordB k ++ [32]))) w := fun w => add_str (kwordB k) [32] (by simp; omega) w
  have a2 : ∀ w, (Op.stringOp .add (strB (kwordB k ++ [32])) (strB (digS n))).run Tryz.prog w = .ok (.string (strB (kwordB k ++ [32] ++ digS n))) w := fun w => add_str (kwordB k ++ [32]) (digS n) (by simp; omega) w
  have hlen : (kwordB k ++ [32] ++ digS n).length ≤ 40 := by simp only [List.length_append, List.length_cons, List.length_nil]; omega
  have HC := Lib.hid (fun w => conv_own w (kwordB k ++ [32] ++ digS n) (by omega))
  have HH : Hid (headB k n = (kwordB k ++ [32] ++ digS n) ++ [0]) := Lib.hid rfl
  obtain ⟨X, hX⟩ : ∃ X, kwordB k ++ [32] ++ digS n = X := ⟨_, rfl⟩
  rw [hX] at a2 HC HH hlen
  obtain ⟨S1, hS1⟩ : ∃ S, strB (kwordB k) = S := ⟨_, rfl⟩
  obtain ⟨S2, hS2⟩ : ∃ S, strB (kwordB k ++ [32]) = S := ⟨_, rfl⟩
  obtain ⟨S3, hS3⟩ : ∃ S, strB (digS n) = S := ⟨_, rfl⟩
  obtain ⟨S4, hS4⟩ : ∃ S, strB X = S := ⟨_, rfl⟩
  rw [hS1] at HW a1
  rw [hS2] at a1 a2
  rw [hS3] at HD a2
  rw [hS4] at a2 HC
  clear hX hS1 hS2 hS3 hS4 hwl hdl hn hTab
  go_enter Tryz.func15, Tryz.ntmps15
  go_wp2_with (first
    | (go_at_call 16; refine (HW.out _).mono ?_; rintro e w' ⟨rfl, rfl⟩)
    | (go_at_call 29; refine HD.out.mono ?_; rintro e w2 ⟨rfl, b2⟩; obtain ⟨v3, w3, hcv, o3⟩ := HC.out w2; have O3 := Lib.hid (o3.weaken (Fr.of_below (S := fun _ => False) b2)); clear o3 b2)
    | (at_builtin; refine wpList_append_own rfl (.tmp 11) (.tmp 12) 22 rfl rfl rfl (O3.out.fr ((Fr.refl (fun _ => False) w3).alloc _)) [0] _ 1 rfl rfl (src_one Tryz.underlying22 w3 (.int .u8 0) rfl) (by omega) (by decide) ?_
       intro v4 w4 o4
       have O4 := Lib.hid o4
       clear o4))
  go_ret
  exact ⟨_, rfl, by rw [HH.out]; exact O4.out⟩
set_option maxHeartbeats 3200000 in
set_option maxRecDepth 100000 in
theorem ObBytes_any (k : Int) (A : Option Addr) (c : Nat) (l : List UInt8) (hcap : l.length ≤ c) (hm : l.length ≤ 9223372036854775807) (w : World) (h : Lies w A (bytesV l)) (hTab : Tab10 w) :
    Calls Tryz.prog 7 #[.int .i64 k, .slice A l.length c] w fun e w' => ∃ A2 c2, e = .returned (.tuple #[.slice A2 (objB k l).length c2, .int .i64 (chkO k l)]) ∧ (objB k l).length ≤ c2 ∧ Lies w' A2 (bytesV (objB k l)) ∧ Fr (fun _ => False) w w' := by
  have HC := Lib.hid (ObCheck_any k A c l hcap w h)
  have HL := Lib.hid (fun w' (f : Fr (fun _ => False) w w') => h.fr f (fun _ _ e => e))
  have HH := Lib.hid (fun w' (f : Fr (fun _ => False) w w') => Obhead_any k l.length (by omega) w' (hTab.fr f))
  have hhl := headB_len k l.length (by omega)
  have HB0 : Hid (chkO k l = 0 → objB k l = headB k l.length ++ l ∧ l.length ≤ 4000) := Lib.hid (fun e => ⟨by rw [objB, if_pos e], by
    by_cases hk : k < 1 ∨ 4 < k
    · rw [chkO_bad hk] at e; cases e
    · by_cases h2 : 4000 < l.length
      · rw [chkO_long hk h2] at e; cases e
      · omega⟩)
  have HB1 : Hid (chkO k l ≠ 0 → objB k l = []) := Lib.hid (fun e => by rw [objB, if_neg e])
  have HS := Lib.hid (fun w' (h : Lies w' A (bytesV l)) => Lies.srcB (n := l.length) h rfl c)
  obtain ⟨P, hP⟩ : ∃ P, objB k l = P := ⟨_, rfl⟩
  obtain ⟨Hd, hHd⟩ : ∃ P, headB k l.length = P := ⟨_, rfl⟩
  rw [hP] at HB0 HB1 ⊢
  rw [hHd] at HH hhl HB0
  obtain ⟨r, hr⟩ : ∃ r, chkO k l = r := ⟨_, rfl⟩
  rw [hr] at HC HB0 HB1 ⊢
  obtain ⟨n, hn⟩ : ∃ n, l.length = n := ⟨_, rfl⟩
  have HNn := Lib.hid hn
  rw [hn] at HC HH HB0 HS hm ⊢
  clear hP hHd hr hn h hTab hcap
  by_cases hr0 : r = 0
  · subst hr0
    obtain ⟨hpe, hn4⟩ := HB0.out rfl
    have HPE := Lib.hid hpe
    clear hpe
    go_enter Tryz.func7, Tryz.ntmps7
    go_wp2_with (first
      | (go_at_call 14; refine HC.out.mono ?_; rintro e w2 ⟨rfl, f2⟩; have F2 := Lib.hid f2; clear f2)
      | (go_at_call 15; refine (HH.out _ F2.out).mono ?_; rintro e w3 ⟨v3, rfl, o3⟩; have O3 := Lib.hid (o3.weaken F2.out); clear o3)
      | (at_builtin; refine wpList_append_own rfl (.tmp 16) (.tmp 17) 22 rfl rfl rfl O3.out l _ n rfl HNn.out.symm (HS.out w3 (HL.out w3 O3.out.fr2)) (by omega) (by rw [HNn.out]; omega) ?_
         intro v4 w4 o4
         rw [← HPE.out] at o4
         obtain ⟨A4, c4, rfl, hc4, hl4⟩ := o4.slice
         have F4 := Lib.hid o4.fr2
         have L4 := Lib.hid hl4
         have C4 := Lib.hid hc4
         clear o4 hl4 hc4))
    go_ret2
    exact ⟨_, _, rfl, C4.out, L4.out, F4.out⟩
  · have hrz : (r == 0) = false := by simp [hr0]
    go_enter Tryz.func7, Tryz.ntmps7
    go_wp2_with (go_at_call 14; refine HC.out.mono ?_; rintro e w2 ⟨rfl, f2⟩; have F2 := Lib.hid f2; clear f2)
    go_ret2
    exact ⟨none, 0, by rw [HB1.out hr0]; rfl, by rw [HB1.out hr0]; exact Nat.le_refl _, by rw [HB1.out hr0]; exact .inl rfl, F2.out⟩
end Go.Proofs.YtddckehejdpjcabGreatDoor

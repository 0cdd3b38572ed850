/- What is proved: what the walks of this seat need of layers below, merged out of the texts Obc (of each just what is needed). Conditions: each theorem names its own. -/
import Derived.Test.YtddckehejdpjcabGreatDoorBh
import Derived.Test.YtddckehejdpjcabGreatDoorBo
import Derived.Test.YtddckehejdpjcabGreatDoorOba
/- What is proved: what a body of a kind tells, and whether it may be one, by the program and by the document. Conditions: the body's cells are there. -/
namespace Go.Proofs.YtddckehejdpjcabGreatDoor
open Go.RowKit Go.Sort Go.Shelf
open Ids (idC dgt big idC_size idC_get idC_one cellD zero32 size32 dgt_lt hexB)
set_option linter.unusedVariables false
/-- What a body of a kind is asked. -/
def chkO (k : Int) (l : List UInt8) : Int := if k < 1 ∨ 4 < k then 19 else if 4000 < l.length then 3 else if k = 2 then (getW l []).2 else if k = 3 then (getR l).2 else if k = 4 then (getM l).2 else 0
/-- What a body of a kind tells. -/
def Told (w w' : World) (k : Int) (l : List UInt8) (v : Value) : Prop :=
  (k = 2 → l.length ≤ 4000 → ∃ u, v = .iface 43 u ∧ OwnE w w' u (getW l []).1) ∧
  (k = 3 → l.length ≤ 4000 → ∃ u, v = .iface 50 (.agg (revC (getR l).1.T u (getR l).1.a (getR l).1.n (getR l).1.t)) ∧ OwnI w w' u (getR l).1.ps) ∧
  (k = 4 → l.length ≤ 4000 → v = .iface 54 (.agg (markC (getM l).1.T (getM l).1.k (getM l).1.a (getM l).1.n (getM l).1.t))) ∧
  (k = 1 → v = .nilIface)
theorem chkO_bad {k : Int} {l : List UInt8} (h : k < 1 ∨ 4 < k) : chkO k l = 19 := by rw [chkO, if_pos h]
theorem chkO_long {k : Int} {l : List UInt8} (h : ¬ (k < 1 ∨ 4 < k)) (h2 : 4000 < l.length) : chkO k l = 3 := by rw [chkO, if_neg h, if_pos h2]
theorem chkO_1 {l : List UInt8} (h2 : ¬ 4000 < l.length) : chkO 1 l = 0 := by rw [chkO, if_neg (by omega), if_neg h2, if_neg (by omega), if_neg (by omega), if_neg (by omega)]
theorem chkO_2 {l : List UInt8} (h2 : ¬ 4000 < l.length) : chkO 2 l = (getW l []).2 := by rw [chkO, if_neg (by omega), if_neg h2, if_pos rfl]
theorem chkO_3 {l : List UInt8} (h2 : ¬ 4000 < l.length) : chkO 3 l = (getR l).2 := by rw [chkO, if_neg (by omega), if_neg h2, if_neg (by omega), if_pos rfl]
theorem chkO_4 {l : List UInt8} (h2 : ¬ 4000 < l.length) : chkO 4 l = (getM l).2 := by rw [chkO, if_neg (by omega), if_neg h2, if_neg (by omega), if_neg (by omega), if_pos rfl]
set_option maxHeartbeats 3200000 in
set_option maxRecDepth 100000 in
theorem QbCheck_any (k : Int) (A : Option Addr) (c : Nat) (l : List UInt8) (hcap : l.length ≤ c) (w : World) (h : Lies w A (bytesV l)) :
    Calls Tryz.prog 10 #[.int .i64 k, .slice A l.length c] w fun e w' => e = .returned (.int .i64 (chkO k l)) ∧ Fr (fun _ => False) w w' := by
  by_cases hk : k < 1 ∨ 4 < k
  · rw [chkO_bad hk]
    obtain ⟨n, hn⟩ : ∃ n, l.length = n := ⟨_, rfl⟩
    rw [hn]
    clear hn h hcap
    by_cases hk1 : k < 1
    · go_enter Tryz.func10, Tryz.ntmps10
      go_wp2
      go_ret
      exact ⟨rfl, Fr.refl _ _⟩
    · have hk4 : 4 < k := by omega
      go_enter Tryz.func10, Tryz.ntmps10
      go_wp2
      go_ret
      exact ⟨rfl, Fr.refl _ _⟩
  · have hk1 : ¬ k < 1 := by omega
    have hk4 : ¬ 4 < k := by omega
    by_cases h2 : 4000 < l.length
    · rw [chkO_long hk h2]
      have hlt : (4000 : Int) < (l.length : Int) := by omega
      obtain ⟨n, hn⟩ : ∃ n, l.length = n := ⟨_, rfl⟩
      rw [hn] at hlt ⊢
      clear hn h hcap h2 hk
      go_enter Tryz.func10, Tryz.ntmps10
      go_wp2
      go_ret
      exact ⟨rfl, Fr.refl _ _⟩
    · have hlt : ¬ (4000 : Int) < (l.length : Int) := by omega
      have H2 := Lib.hid (QtGet_any A c l (by omega) hcap w h)
      have H3 := Lib.hid (QvGet_any A c l (by omega) w h)
      have H4 := Lib.hid (QvGetMark_any A c l (by omega) w h)
      unfold GetPost at H3
      unfold MarkIs at H4
      have E1 := Lib.hid (chkO_1 h2)
      have E2 := Lib.hid (chkO_2 h2)
      have E3 := Lib.hid (chkO_3 h2)
      have E4 := Lib.hid (chkO_4 h2)
      obtain ⟨n, hn⟩ : ∃ n, l.length = n := ⟨_, rfl⟩
      rw [hn] at hlt H2 H3 H4 ⊢
      clear hn h hcap h2
      rcases kind_cases k with rfl | rfl | rfl | rfl | ⟨hb, _⟩
      · rw [E1.out]
        go_enter Tryz.func10, Tryz.ntmps10
        go_wp2
        go_ret
        exact ⟨rfl, Fr.refl _ _⟩
      · rw [E2.out]
        obtain ⟨x, hx⟩ : ∃ x, (getW l []).2 = x := ⟨_, rfl⟩
        rw [hx] at H2 ⊢
        clear hx
        go_enter Tryz.func10, Tryz.ntmps10
        go_wp2_with (go_at_call 11; refine H2.out.mono ?_; rintro e w' ⟨v, rfl, o⟩; have F2 := Lib.hid o.2)
        go_ret
        exact ⟨rfl, F2.out⟩
      · rw [E3.out]
        obtain ⟨X, hX⟩ : ∃ X, getR l = X := ⟨_, rfl⟩
        rw [hX] at H3 ⊢
        obtain ⟨⟨T, ps, a, t, n'⟩, x⟩ := X
        simp only [] at H3 ⊢
        clear hX
        go_enter Tryz.func10, Tryz.ntmps10
        go_wp2_with (go_at_call 12; refine H3.out.mono ?_; rintro e w' ⟨v, rfl, o⟩; have F2 := Lib.hid o.2)
        go_ret
        exact ⟨rfl, F2.out⟩
      · rw [E4.out]
        obtain ⟨X, hX⟩ : ∃ X, getM l = X := ⟨_, rfl⟩
        rw [hX] at H4 ⊢
        obtain ⟨⟨T, kk, a, t, n'⟩, x⟩ := X
        simp only [] at H4 ⊢
        clear hX
        go_enter Tryz.func10, Tryz.ntmps10
        go_wp2_with (go_at_call 13; refine H4.out.mono ?_; rintro e w' ⟨rfl, f⟩; have F2 := Lib.hid f)
        go_ret
        exact ⟨rfl, F2.out⟩
      · omega
set_option maxHeartbeats 3200000 in
set_option maxRecDepth 100000 in
theorem Obread_any (k : Int) (A : Option Addr) (c : Nat) (l : List UInt8) (hcap : l.length ≤ c) (w : World) (h : Lies w A (bytesV l)) :
    Calls Tryz.prog 8 #[.int .i64 k, .slice A l.length c] w fun e w' => ∃ v, e = .returned (.tuple #[v, .int .i64 (chkO k l)]) ∧ Told w w' k l v ∧ Fr (fun _ => False) w w' := by
  have HW := Lib.hid (fun w => ObWord_any k w)
  by_cases hk : k < 1 ∨ 4 < k
  · rw [chkO_bad hk]
    rw [wordB_none hk] at HW
    have HT : Hid (∀ v, Told w w k l v) := Lib.hid (fun v => ⟨fun e => by omega, fun e => by omega, fun e => by omega, fun e => by omega⟩)
    obtain ⟨n, hn⟩ : ∃ n, l.length = n := ⟨_, rfl⟩
    rw [hn]
    have he2 : (strB []).toList = [] := strB_list []
    have he1 : (strB []).toList.isEmpty = true := by rw [he2]; rfl
    obtain ⟨W, hW⟩ : ∃ W, strB [] = W := ⟨_, rfl⟩
    rw [hW] at HW he1 he2
    clear hn h hcap hW
    go_enter Tryz.func8, Tryz.ntmps8
    go_wp2_with (go_at_call 16; refine (HW.out _).mono ?_; rintro e w' ⟨rfl, rfl⟩)
    go_ret2
    exact ⟨_, rfl, HT.out _, Fr.refl _ _⟩
  · have hwn : ¬ (strB (kwordB k)).toList = [] ∧ (strB (kwordB k)).toList.isEmpty = false := by
      rw [strB_list]
      rcases kind_cases k with rfl | rfl | rfl | rfl | ⟨hb, _⟩
      · decide
      · decide
      · decide
      · decide
      · omega
    obtain ⟨W, hW⟩ : ∃ W, strB (kwordB k) = W := ⟨_, rfl⟩
    rw [hW] at HW hwn
    obtain ⟨hw1, hw2⟩ := hwn
    clear hW
    by_cases h2 : 4000 < l.length
    · rw [chkO_long hk h2]
      have hlt : (4000 : Int) < (l.length : Int) := by omega
      have HT : Hid (∀ v, (k = 1 → v = Value.nilIface) → Told w w k l v) := Lib.hid (fun v hv => ⟨fun _ e => by omega, fun _ e => by omega, fun _ e => by omega, hv⟩)
      obtain ⟨n, hn⟩ : ∃ n, l.length = n := ⟨_, rfl⟩
      rw [hn] at hlt ⊢
      clear hn h hcap h2 hk
      go_enter Tryz.func8, Tryz.ntmps8
      go_wp2_with (go_at_call 16; refine (HW.out _).mono ?_; rintro e w' ⟨rfl, rfl⟩)
      go_ret2
      exact ⟨_, rfl, HT.out _ (fun _ => rfl), Fr.refl _ _⟩
    · have hlt : ¬ (4000 : Int) < (l.length : Int) := by omega
      have H2 := Lib.hid (TGet_all A c l (by omega) hcap w h)
      have H3 := Lib.hid (VGet_any A c l (by omega) w h)
      have H4 := Lib.hid (VGetMark_any A c l (by omega) w h)
      have E1 := Lib.hid (chkO_1 h2)
      have E2 := Lib.hid (chkO_2 h2)
      have E3 := Lib.hid (chkO_3 h2)
      have E4 := Lib.hid (chkO_4 h2)
      obtain ⟨n, hn⟩ : ∃ n, l.length = n := ⟨_, rfl⟩
      rw [hn] at hlt H2 H3 H4 ⊢
      clear hn h hcap h2
      rcases kind_cases k with rfl | rfl | rfl | rfl | ⟨hb, _⟩
      · rw [E1.out]
        have HT : Hid (Told w w 1 l .nilIface) := Lib.hid ⟨fun e => by omega, fun e => by omega, fun e => by omega, fun _ => rfl⟩
        go_enter Tryz.func8, Tryz.ntmps8
        go_wp2_with (go_at_call 16; refine (HW.out _).mono ?_; rintro e w' ⟨rfl, rfl⟩)
        go_ret2
        exact ⟨_, rfl, HT.out, Fr.refl _ _⟩
      · rw [E2.out]
        have HT : Hid (∀ w' u, OwnE w w' u (getW l []).1 → Told w w' 2 l (.iface 43 u)) := Lib.hid (fun w' u o => ⟨fun _ _ => ⟨u, rfl, o⟩, fun e => by omega, fun e => by omega, fun e => by omega⟩)
        obtain ⟨x, hx⟩ : ∃ x, (getW l []).2 = x := ⟨_, rfl⟩
        obtain ⟨es, hes⟩ : ∃ x, (getW l []).1 = x := ⟨_, rfl⟩
        rw [hx, hes] at H2
        rw [hes] at HT
        rw [hx]
        clear hx hes
        go_enter Tryz.func8, Tryz.ntmps8
        go_wp2_with (first
          | (go_at_call 16; refine (HW.out _).mono ?_; rintro e w' ⟨rfl, rfl⟩)
          | (go_at_call 17; refine H2.out.mono ?_; rintro e w' ⟨v, rfl, o⟩; have O2 := Lib.hid o; obtain ⟨A2, c2, rfl, _⟩ := o.slice))
        go_ret2
        exact ⟨_, rfl, HT.out _ _ O2.out, O2.out.2⟩
      · rw [E3.out]
        have HT : Hid (∀ w' u, OwnI w w' u (getR l).1.ps → Told w w' 3 l (.iface 50 (.agg (revC (getR l).1.T u (getR l).1.a (getR l).1.n (getR l).1.t)))) := Lib.hid (fun w' u o => ⟨fun e => by omega, fun _ _ => ⟨u, rfl, o⟩, fun e => by omega, fun e => by omega⟩)
        obtain ⟨X, hX⟩ : ∃ X, getR l = X := ⟨_, rfl⟩
        rw [hX] at H3 HT ⊢
        obtain ⟨⟨T, ps, a, t, n'⟩, x⟩ := X
        simp only [] at H3 HT ⊢
        clear hX
        go_enter Tryz.func8, Tryz.ntmps8
        go_wp2_with (first
          | (go_at_call 16; refine (HW.out _).mono ?_; rintro e w' ⟨rfl, rfl⟩)
          | (go_at_call 18; refine H3.out.mono ?_; rintro e w' ⟨v, rfl, o⟩; have O2 := Lib.hid o
             have HT2 := Lib.hid (HT.out _ _ o)
             obtain ⟨cr, hcr⟩ : ∃ c, revC T v a t n' = c := ⟨_, rfl⟩
             rw [hcr] at HT2 ⊢
             clear o hcr))
        go_ret2
        exact ⟨_, rfl, HT2.out, O2.out.2⟩
      · rw [E4.out]
        have HT : Hid (∀ w', Told w w' 4 l (.iface 54 (.agg (markC (getM l).1.T (getM l).1.k (getM l).1.a (getM l).1.n (getM l).1.t)))) := Lib.hid (fun w' => ⟨fun e => by omega, fun e => by omega, fun _ _ => rfl, fun e => by omega⟩)
        obtain ⟨X, hX⟩ : ∃ X, getM l = X := ⟨_, rfl⟩
        rw [hX] at H4 HT ⊢
        obtain ⟨⟨T, kk, a, t, n'⟩, x⟩ := X
        simp only [] at H4 HT ⊢
        obtain ⟨cr, hcr⟩ : ∃ c, markC T kk a t n' = c := ⟨_, rfl⟩
        rw [hcr] at H4 HT
        clear hX hcr
        go_enter Tryz.func8, Tryz.ntmps8
        go_wp2_with (first
          | (go_at_call 16; refine (HW.out _).mono ?_; rintro e w' ⟨rfl, rfl⟩)
          | (go_at_call 19; refine H4.out.mono ?_; rintro e w' ⟨rfl, f⟩; have F2 := Lib.hid f))
        go_ret2
        exact ⟨_, rfl, HT.out _, F2.out⟩
      · omega
theorem ObCheck_any (k : Int) (A : Option Addr) (c : Nat) (l : List UInt8) (hcap : l.length ≤ c) (w : World) (h : Lies w A (bytesV l)) :
    Calls Tryz.prog 14 #[.int .i64 k, .slice A l.length c] w fun e w' => e = .returned (.int .i64 (chkO k l)) ∧ Fr (fun _ => False) w w' := by
  have H := Lib.hid (Obread_any k A c l hcap w h)
  obtain ⟨n, hn⟩ : ∃ n, l.length = n := ⟨_, rfl⟩
  obtain ⟨x, hx⟩ : ∃ x, chkO k l = x := ⟨_, rfl⟩
  rw [hn, hx] at H
  rw [hn, hx]
  clear hn hx h hcap
  go_enter Tryz.func14, Tryz.ntmps14
  go_wp2_with (go_at_call 8; refine H.out.mono ?_; rintro e w' ⟨v, rfl, ht, f⟩; have F2 := Lib.hid f; clear ht f)
  go_ret
  exact ⟨rfl, F2.out⟩
end Go.Proofs.YtddckehejdpjcabGreatDoor

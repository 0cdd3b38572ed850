/- What is proved: texts that stand one behind the other: Iya Iyb. Conditions: each theorem names its own. -/
import Derived.Test.YtgbhdjncccmabaaGreatDoorIxh
import Derived.Test.YtgbhdjncccmabaaGreatDoorIf
import Derived.Deep.RegionLaw
/- What is proved: the document's bytes of an id, and bytes with their sum behind them. Conditions: the bytes are there. -/
namespace Go.Proofs.YtgbhdjncccmabaaGreatDoor
open Go.RowKit
set_option linter.unusedVariables false

theorem idL_at (n k : Nat) (h : k < 32) : (idL n)[k]? = some ((idL n).getD k 0) := by
  rw [List.getD_eq_getElem?_getD, List.getElem?_eq_getElem (by rw [idL_len]; exact h)]; rfl
theorem take_next (l : List UInt8) (k : Nat) (h : k < l.length) : l.take (k + 1) = l.take k ++ [l.getD k 0] := by
  rw [List.take_add_one, List.getElem?_eq_getElem h, List.getD_eq_getElem?_getD, List.getElem?_eq_getElem h]; rfl
theorem src_oneB (w : World) (b : UInt8) : Src Tryz.prog 1 28 (.slice (some ⟨w.heap.size, 0, none⟩) 1 1) 1 (bytesV [b]) (w.alloc (.cells #[.int .u8 b.toNat] 5)) := src_oneS w b.toNat

set_option maxHeartbeats 1600000 in
set_option maxRecDepth 100000 in
theorem QIbytes_any (n : Nat) (w : World) : Calls Tryz.prog 21 #[.agg (idC (dgt n))] w (OwnPost w (idL n)) := by
  unfold OwnPost
  obtain ⟨i0, hi, hz0, hz1, hz2⟩ := info_parts info_u8
  obtain ⟨w1, hw1⟩ : ∃ w1, w.alloc (.cells (idC (dgt n)) 24) = w1 := ⟨_, rfl⟩
  have hF1 : Fr (fun _ => False) w w1 := by subst hw1; exact (Fr.refl _ w).alloc _
  have hA : Whole w1 w.heap.size 24 (bytesV (idL n)).toArray := by subst hw1; rw [← idC_idL]; exact Whole.new w 24 _
  have hs : w1.heap.size = w.heap.size + 1 := by subst hw1; simp
  have HF1 := Lib.hid hF1
  have HA := Lib.hid hA
  have HS := Lib.hid hs
  have HIL := Lib.hid (idL_len n)
  have HTN := Lib.hid (take_next (idL n))
  obtain ⟨ca, hca⟩ : ∃ c, idC (dgt n) = c := ⟨_, rfl⟩
  rw [hca] at hw1 ⊢
  obtain ⟨I, hI⟩ : ∃ I, idL n = I := ⟨_, rfl⟩
  rw [hI] at HA HIL HTN ⊢
  clear hF1 hA hs hca hI
  go_enter Tryz.func21, Tryz.ntmps21
  go_wp2_with fail
  go_loopw [3, 4] (fun v s wr => ∃ k : Nat, k ≤ 32 ∧ s = .int .i64 k ∧ Hid (wr.ownsRow w1.heap.size 5 1 v k (bytesV (I.take k))) ∧ Hid (Fr (fun _ => False) w1 wr) ∧ ∃ A c, v = .slice A k c) (fun _ s _ => 32 - (intOf s).toNat)
  case atStart => exact ⟨0, by omega, rfl, Lib.hid (World.ownsRow_nil _ _ _ _), Lib.hid (Fr.refl _ _), _, _, rfl⟩
  case round =>
    obtain ⟨k, hk, rfl, HO, HF, A, c, rfl⟩ := hrel
    have wk := wrap_nat k (by omega)
    by_cases hlt : k < 32
    · have hltz : (k : Int) < 32 := by omega
      have hk0 : (0 : Int) ≤ k := by omega
      have hnx := HTN.out k (by rw [HIL.out]; exact hlt)
      obtain ⟨b, hb⟩ : ∃ b, I.getD k 0 = b := ⟨_, rfl⟩
      rw [hb] at hnx
      have c0 : wr.cell? ⟨w.heap.size, k, none⟩ = some (.int .u8 b.toNat) := by
        rw [(HA.out.fr HF.out (fun e => e)).cell, List.getElem?_toArray, bytesV, List.getElem?_map, List.getElem?_eq_getElem (by rw [HIL.out]; exact hlt)]
        rw [List.getD_eq_getElem?_getD, List.getElem?_eq_getElem (by rw [HIL.out]; exact hlt)] at hb
        simp at hb
        rw [Option.map_some, hb]; rfl
      have HNX := Lib.hid hnx
      clear hb hnx
      go_wp2_with (at_builtin; refine wpList_append_row _ rfl (.tmp 9) (.tmp 13) 28 28 rfl w1.heap.size 5 i0 (.int .u8 0) 1 1 Tryz.underlying28 hi hz0 hz1 hz2 rfl _ k (bytesV (I.take k)) rfl (own_fr (S := fun _ => False) HO.out ((Fr.refl _ wr).alloc _) (fun _ _ e => e)) (.slice (some ⟨wr.heap.size, 0, none⟩) 1 1) 1 (bytesV [b]) rfl (src_oneB wr b) (by unfold maxLen; omega) (by omega) (by have := HF.out.size; simp; omega) ?_; intro v2 w2 o2 g2 a2; have HF2 := Lib.hid (fr_append (own_fr (S := fun _ => False) HO.out ((Fr.refl _ wr).alloc (.cells #[.int .u8 b.toNat] 5)) (fun _ _ e => e)) (HF.out.alloc _) g2); obtain ⟨A2, c2, hv2, -, -⟩ := own_slice o2; have HO2 := Lib.hid o2; clear o2 g2 a2; subst hv2)
      go_roundw
      case rel => exact ⟨k + 1, by omega, by go_num, Lib.hid (by have := HO2.out; rw [← bytesV_append, ← HNX.out] at this; exact this), HF2, _, _, rfl⟩
      case measure => simp [intOf]; omega
    · have hltz : ¬ ((k : Int) < 32) := by omega
      obtain rfl : 32 = k := by omega
      go_wp2_with fail
      go_ret
      have ho := HO.out
      rw [List.take_of_length_le (by rw [HIL.out]; exact Nat.le_refl _)] at ho
      exact ⟨_, rfl, by rw [HIL.out]; exact own_weaken ho (by have := HS.out; omega), (HF1.out.trans HF.out (fun _ _ e => e)).below (fun _ _ e => e)⟩
end Go.Proofs.YtgbhdjncccmabaaGreatDoor
/- What is proved: the document's bytes with their sum behind them. Conditions: the bytes are there, at most a million. -/
namespace Go.Proofs.YtgbhdjncccmabaaGreatDoor
open Go.RowKit
set_option linter.unusedVariables false

theorem parts2I (w : World) (p q : List UInt8) (A B : Option Addr) (c d N M : Nat) (hp : p.length = N) (hq : q.length = M) (h1 : N ≤ c) (h2 : M ≤ d) (ha : Lies w A (bytesV p)) (hb : Lies w B (bytesV q)) :
    Parts (w.alloc (.cells #[.slice A N c, .slice B M d] 28)) (some ⟨w.heap.size, 0, none⟩) [p, q] := by
  refine .inr ⟨w.heap.size, 0, rfl, fun i x hi => ?_⟩
  have hf : Fr (fun _ => False) w (w.alloc (.cells #[.slice A N c, .slice B M d] 28)) := (Fr.refl _ w).alloc _
  rw [Nat.zero_add, (Whole.new w 28 #[.slice A N c, .slice B M d]).cell]
  match i, hi with
  | 0, hi => injection hi with hi; subst hi; exact ⟨_, _, by rw [hp]; rfl, by rw [hp]; exact h1, ha.fr hf (fun _ _ e => e)⟩
  | 1, hi => injection hi with hi; subst hi; exact ⟨_, _, by rw [hq]; rfl, by rw [hq]; exact h2, hb.fr hf (fun _ _ e => e)⟩

set_option maxHeartbeats 1600000 in
set_option maxRecDepth 100000 in
theorem QPClosed_any (A : Option Addr) (c : Nat) (l : List UInt8) (hc : l.length ≤ c) (hl : l.length ≤ 1000000) (w : World) (h : Lies w A (bytesV l)) :
    Calls Tryz.prog 22 #[.slice A l.length c] w (OwnPost w (l ++ sumL l)) := by
  unfold OwnPost
  obtain ⟨i0, hi, hz0, hz1, hz2⟩ := info_parts info_u8
  have hq := QOf_any A c l w h (by omega)
  rw [sumV_sumL] at hq
  have HQ := Lib.hid hq
  have HLI := Lib.hid h
  have HIL := Lib.hid (sumL_len l)
  have HTN := Lib.hid (take_next (sumL l))
  have HSO := Lib.hid (show (bytesV (sumL l)).toArray.all (·.oneCell') = true from Array.all_eq_true_iff_forall_mem.2 (fun u hu => bytesV_one (sumL l) u (by simpa using hu)))
  have HSS := Lib.hid (show (bytesV (sumL l)).toArray.size = 32 from by rw [List.size_toArray, bytesV_length, sumL_len])
  have HJ := Lib.hid (fun w' (P : Option Addr) (hp : Parts w' P [l, sumL l]) => refJoin_any P 2 [l, sumL l] (by simp) (by simp [sumL_len]; omega) w' hp)
  unfold OwnPost at HJ
  rw [show [l, sumL l].flatten = l ++ sumL l by simp, show ([l, sumL l] : List (List UInt8)).length = 2 from rfl] at HJ
  have HLn : Hid ((l ++ sumL l).length = l.length + 32) := Lib.hid (by rw [List.length_append, sumL_len])
  obtain ⟨V, hV⟩ : ∃ V, (bytesV (sumL l)).toArray = V := ⟨_, rfl⟩
  rw [hV] at HQ HSO HSS
  have HVd := Lib.hid hV
  obtain ⟨I, hI⟩ : ∃ I, sumL l = I := ⟨_, rfl⟩
  rw [hI] at HVd HIL HTN HJ HLn ⊢
  obtain ⟨L, hL⟩ : ∃ L, l.length = L := ⟨_, rfl⟩
  have HLd := Lib.hid hL
  rw [hL] at hc hl HQ ⊢
  clear hq h hV hI hL
  go_enter Tryz.func22, Tryz.ntmps22
  go_upto_region 2 with (first
    | (go_at_call 32
       refine HQ.out.mono ?_
       rintro e w1 ⟨rfl, b1⟩
       have HFa := Lib.hid (Fr.of_below (S := fun _ => False) b1)
       clear b1
       obtain ⟨wz, hwz⟩ : ∃ wz, w1.alloc (.cells zero32 24) = wz := ⟨_, rfl⟩
       have HZ := Lib.hid (show Whole wz w1.heap.size 24 zero32 from by subst hwz; exact Whole.new w1 24 zero32)
       have HFz := Lib.hid (show Fr (fun _ => False) w1 wz from by subst hwz; exact (Fr.refl _ w1).alloc _)
       unfold zero32 at hwz
       simp [List.replicate] at hwz)
    | (refine wpList_store_at rfl 24 _ _ rfl w1.heap.size 0 24 zero32 V rfl rfl HZ.out (by rw [HSS.out]; decide) (by rw [HSS.out]; exact size_IDs) HSO.out ?_
       intro w2 hw2 hf2
       rw [laidAt_all _ _ (by rw [HSS.out]; rfl)] at hw2
       have HA := Lib.hid (show Whole w2 w1.heap.size 24 (bytesV I).toArray from by rw [HVd.out]; exact hw2)
       have HF2 := Lib.hid ((HFa.out.trans HFz.out (fun _ _ e => e)).trans hf2 (fun i hi e => by have := HFa.out.size; omega))
       have HS2 := Lib.hid (show w1.heap.size < w2.heap.size from hw2.lt)
       clear hw2 hf2))
  obtain ⟨G, hG⟩ : ∃ G, w1.heap.size = G := ⟨_, rfl⟩
  rw [hG] at HA HS2 ⊢
  clear hG
  go_wp2_with fail
  go_loopw [4, 5] (fun v s wr => ∃ k : Nat, k ≤ 32 ∧ s = .int .i64 k ∧ Hid (wr.ownsRow w2.heap.size 5 1 v k (bytesV (I.take k))) ∧ Hid (Fr (fun _ => False) w2 wr) ∧ ∃ A c, v = .slice A k c ∧ k ≤ c) (fun _ s _ => 32 - (intOf s).toNat)
  case atStart => exact ⟨0, by omega, rfl, Lib.hid (World.ownsRow_nil _ _ _ _), Lib.hid (Fr.refl _ _), _, _, rfl, Nat.le_refl _⟩
  case round =>
    obtain ⟨k, hk, rfl, HO, HF, A1, c1, rfl, hkc⟩ := hrel
    have wk := wrap_nat k (by omega)
    by_cases hlt : k < 32
    · have hltz : (k : Int) < 32 := by omega
      have hk0 : (0 : Int) ≤ k := by omega
      have hnx := HTN.out k (by rw [HIL.out]; exact hlt)
      obtain ⟨b, hb⟩ : ∃ b, I.getD k 0 = b := ⟨_, rfl⟩
      rw [hb] at hnx
      have c0 : wr.cell? ⟨G, k, none⟩ = some (.int .u8 b.toNat) := by
        rw [(HA.out.fr HF.out (fun e => e)).cell, List.getElem?_toArray, bytesV, List.getElem?_map, List.getElem?_eq_getElem (by rw [HIL.out]; exact hlt)]
        rw [List.getD_eq_getElem?_getD, List.getElem?_eq_getElem (by rw [HIL.out]; exact hlt)] at hb
        simp at hb
        rw [Option.map_some, hb]; rfl
      have HNX := Lib.hid hnx
      clear hb hnx
      go_wp2_with (at_builtin; refine wpList_append_row _ rfl (.tmp 12) (.tmp 16) 28 28 rfl w2.heap.size 5 i0 (.int .u8 0) 1 1 Tryz.underlying28 hi hz0 hz1 hz2 rfl _ k (bytesV (I.take k)) rfl (own_fr (S := fun _ => False) HO.out ((Fr.refl _ wr).alloc _) (fun _ _ e => e)) (.slice (some ⟨wr.heap.size, 0, none⟩) 1 1) 1 (bytesV [b]) rfl (src_oneB wr b) (by unfold maxLen; omega) (by omega) (by have := HF.out.size; simp; omega) ?_; intro v2 w3 o2 g2 a2; have HF3 := Lib.hid (fr_append (own_fr (S := fun _ => False) HO.out ((Fr.refl _ wr).alloc (.cells #[.int .u8 b.toNat] 5)) (fun _ _ e => e)) (HF.out.alloc _) g2); obtain ⟨A2, c2, hv2, hk2, -⟩ := own_slice o2; have HO2 := Lib.hid o2; clear o2 g2 a2; subst hv2)
      go_roundw
      case rel => exact ⟨k + 1, by omega, by go_num, Lib.hid (by have := HO2.out; rw [← bytesV_append, ← HNX.out] at this; exact this), HF3, _, _, rfl, hk2⟩
      case measure => simp [intOf]; omega
    · have hltz : ¬ ((k : Int) < 32) := by omega
      obtain rfl : 32 = k := by omega
      have ho := HO.out
      rw [List.take_of_length_le (by rw [HIL.out]; exact Nat.le_refl _)] at ho
      have HLI2 := Lib.hid (Lies.of_own ho)
      have HFt := Lib.hid (HF2.out.trans HF.out (fun _ _ e => e))
      clear ho
      go_wp2_with (go_at_call 19; refine (HJ.out _ _ (parts2I wr l I A A1 c c1 L 32 HLd.out HIL.out hc hkc (HLI.out.fr HFt.out (fun _ _ e => e)) HLI2.out)).mono ?_; rintro e w5 ⟨v5, rfl, o5, b5⟩; have HO5 := Lib.hid o5; have HB5 := Lib.hid b5; clear o5 b5)
      go_ret
      exact ⟨_, rfl, own_weaken HO5.out (by have := HFt.out.size; simp; omega), ((HFt.out.alloc _).then_below HB5.out).below (fun _ _ e => e)⟩
end Go.Proofs.YtgbhdjncccmabaaGreatDoor

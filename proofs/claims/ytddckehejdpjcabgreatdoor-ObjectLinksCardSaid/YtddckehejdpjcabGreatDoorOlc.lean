/- What is proved: what a commit names, by the program. Conditions: the lists' cells are there. -/
import Derived.Test.YtddckehejdpjcabGreatDoorOlb
namespace Go.Proofs.YtddckehejdpjcabGreatDoor
open Go.RowKit Go.Sort Go.Shelf
open Ids (idC dgt big idC_size idC_get idC_one cellD zero32 size32 dgt_lt)
set_option linter.unusedVariables false

set_option maxHeartbeats 3200000 in
set_option maxRecDepth 100000 in
theorem ObnamedC_any (T : Nat) (A : Option Addr) (c : Nat) (ps : List Nat) (a : List UInt8) (n : Int) (t : List UInt8) (hn : ps.length ≤ 100000) (w : World) (h : Lies w A (flatI ps)) :
    Calls Tryz.prog 21 #[.agg (revC T (.slice A ps.length c) a n t)] w fun e w' => ∃ v, e = .returned v ∧ OwnL 34 w w' v (lnkI T 2 :: ps.map (fun n => lnkI n 3)) := by
  obtain ⟨i0, hi0, hz0, hz1, hz2⟩ := info_parts info_lnk
  have hz3 := zeroL_cells
  obtain ⟨Z, hZ⟩ : ∃ Z, zeroL = Z := ⟨_, rfl⟩
  rw [hZ] at hz0 hz3
  obtain ⟨w1, hw1⟩ : ∃ w1, w.alloc (.cells (revC T (.slice A ps.length c) a n t) 50) = w1 := ⟨_, rfl⟩
  have hF : Fr (fun _ => False) w w1 := by subst hw1; exact (Fr.refl _ w).alloc _
  have hS : RevAt w1 w.heap.size T (.slice A ps.length c) a n t := by subst hw1; exact RevAt.new w
  obtain ⟨y0, hy0⟩ : ∃ y, lnkI T 2 = y := ⟨_, rfl⟩
  have HK0 := Lib.hid (show y0.k = 2 from by rw [← hy0]; rfl)
  have HI0 := Lib.hid (show idV y0 = idC (dgt T) from by rw [← hy0]; exact idV_I T 2)
  have hR0 := hS.id
  have hs0 := idC_size (dgt T)
  obtain ⟨ci0, hci0⟩ : ∃ ci, idC (dgt T) = ci := ⟨_, rfl⟩
  rw [hci0] at HI0 hR0 hs0
  have HR0 := Lib.hid hR0
  obtain ⟨cx0, hcx0⟩ : ∃ c, (lnkC y0).toArray = c := ⟨_, rfl⟩
  have HCX0 := Lib.hid hcx0
  obtain ⟨w2, hw2⟩ : ∃ w2, w1.alloc (.cells cx0 34) = w2 := ⟨_, rfl⟩
  have hF2 : Fr (fun _ => False) w1 w2 := by subst hw2; exact (Fr.refl _ w1).alloc _
  have hO2 : OwnL 34 w w2 (.slice (some ⟨w1.heap.size, 0, none⟩) 1 1) [y0] := by
    subst hw2; rw [← hcx0]; exact OwnL.laid hF y0
  have HO2 := Lib.hid hO2
  have hv2 := (hS.fr hF2).cv
  have HLI := Lib.hid h
  obtain ⟨cs, hcs⟩ : ∃ cs, revC T (.slice A ps.length c) a n t = cs := ⟨_, rfl⟩
  rw [hcs] at hw1 ⊢
  obtain ⟨L, hL⟩ : ∃ L, ps.length = L := ⟨_, rfl⟩
  have HLn := Lib.hid hL
  rw [hL] at hn hv2
  rw [hy0]
  clear h hL hZ hS hF hF2 hO2 hcs hcx0 hy0 hci0 hR0
  go_enter Tryz.func21, Tryz.ntmps21
  go_wp2_with (first
    | (refine wpList_load_id rfl (.tmp 6) rfl w.heap.size 0 rfl ci0 hs0 HR0.out ?_)
    | (refine wpList_lnk rfl 34 build_lnk _ _ rfl y0 cx0 HCX0.out ci0 HI0.out _ HK0.out rfl rfl ?_)
    | (refine wpList_lnks rfl 24 34 slice_lnk _ rfl y0 cx0 HCX0.out rfl ?_; rw [hw2]))
  go_loopg [3, 13] L (fun kx u3 s9 wr => ∃ k : Nat, s9 = .int .i64 k ∧ k ≤ L ∧ L - k ≤ kx ∧ OwnL 34 w wr u3 (y0 :: (ps.take k).map (fun n => lnkI n 3)) )
  case atStart => exact ⟨0, rfl, by omega, by omega, HO2.out⟩
  case round =>
    obtain ⟨k, rfl, hk, hkx, ho⟩ := hrel
    obtain ⟨wo, rfl⟩ : ∃ wo, wo = wr := ⟨wr, rfl⟩
    have wk := wrap_nat k (by omega)
    by_cases hlt : k < L
    · have hltz : (k : Int) < L := by omega
      obtain ⟨b, o, hB⟩ := HLI.out.some_of (by rw [HLn.out]; omega)
      subst hB
      have hka := gt_some ps k (by rw [HLn.out]; exact hlt)
      obtain ⟨x, hx⟩ : ∃ x, gt ps k = x := ⟨_, rfl⟩
      rw [hx] at hka
      have HT : Hid (y0 :: (ps.take (k + 1)).map (fun n => lnkI n 3) = (y0 :: (ps.take k).map (fun n => lnkI n 3)) ++ [lnkI x 3]) := Lib.hid (by rw [List.take_add_one, hka]; simp)
      have HAl : Hid ((y0 :: (ps.take k).map (fun n => lnkI n 3)).length = k + 1) := Lib.hid (by rw [List.length_cons, List.length_map, List.length_take, HLn.out]; omega)
      obtain ⟨acc, hacc⟩ : ∃ acc, y0 :: (ps.take k).map (fun n => lnkI n 3) = acc := ⟨_, rfl⟩
      rw [hacc] at HT HAl ho
      have HO := Lib.hid ho
      have hl1 := range_at HLI.out hka ho.2
      obtain ⟨y, hy⟩ : ∃ y, lnkI x 3 = y := ⟨_, rfl⟩
      have HK := Lib.hid (show y.k = 3 from by rw [← hy]; rfl)
      have HCI := Lib.hid (show idV y = idC (dgt x) from by rw [← hy]; exact idV_I x 3)
      have hcis := idC_size (dgt x)
      have hca := idC_one (dgt x)
      rw [hy] at HT
      obtain ⟨ci, hci⟩ : ∃ c, idC (dgt x) = c := ⟨_, rfl⟩
      rw [hci] at HCI hcis hl1 hca
      have HL1 := Lib.hid hl1
      have HCA := Lib.hid hca
      obtain ⟨cx, hcx⟩ : ∃ c, (lnkC y).toArray = c := ⟨_, rfl⟩
      have HCX := Lib.hid hcx
      clear hx hacc ho hl1 hy hci hcx hka hca hv2
      go_wp2_with (first
        | (refine wpList_load_id rfl (.tmp 15) rfl b (o + k * 32) rfl ci hcis HL1.out ?_)
        | (
          (refine wpList_store_at rfl 32 _ _ rfl wo.heap.size 0 32 zero32 ci rfl rfl (Whole.new wo 32 zero32) (by rw [hcis]; decide) (by rw [hcis]; exact size32) HCA.out ?_
           intro w4 hw4 hf4
           rw [laidAt_all _ _ (by rw [hcis]; rfl)] at hw4
           have R4 := Lib.hid hw4.all_range
           have N0 := Lib.hid (HO.out.fr (((Fr.refl (fun _ => False) wo).alloc (.cells zero32 32)).trans hf4 (fun i hi e => by omega)))
           clear hw4 hf4))
        | (refine wpList_load_id rfl (.tmp 5) rfl wo.heap.size 0 rfl ci hcis R4.out ?_)
        | (refine wpList_lnk rfl 34 build_lnk _ _ rfl y cx HCX.out ci HCI.out _ HK.out rfl rfl ?_)
        | (refine wpList_lnks rfl 24 34 slice_lnk _ rfl y cx HCX.out rfl ?_)
        | (
          (at_builtin; refine wpList_append_row _ rfl (.tmp 17) (.tmp 20) 24 24 rfl w.heap.size 34 i0 (.agg Z) 33 40 Tryz.underlying24 hi0 hz0 hz1 hz2 hz3 _ (k + 1) _ rfl ((by have := N0.out.1; rw [HAl.out] at this; exact this : w4.ownsRow w.heap.size 34 33 u3 (k + 1) (flatL acc)).alloc _) _ 1 (flatL [y]) rfl (src_lnk 24 34 Tryz.underlying24 _ y cx HCX.out) (by unfold maxLen; omega) (by omega) (by have := N0.out.2.size; simp; omega) ?_
           intro v2 w7 o2 g2 at2
           have N2 := Lib.hid (OwnL.grow (N0.out.fr ((Fr.refl _ w4).alloc (.cells cx 34))) rfl HAl.out.symm rfl o2 g2)
           clear o2 g2 at2)))
      go_roundg (L - (k + 1))
      case measure => omega
      case rel => exact ⟨k + 1, by go_num, by omega, Nat.le_refl _, by rw [HT.out]; exact N2.out⟩
    · obtain rfl : k = L := by omega
      have HO := Lib.hid (show OwnL 34 w wo u3 (y0 :: ps.map (fun n => lnkI n 3)) from by rw [List.take_of_length_le (by rw [HLn.out]; exact Nat.le_refl _)] at ho; exact ho)
      clear ho
      go_wp2_with fail
      go_ret
      exact ⟨_, rfl, HO.out⟩
end Go.Proofs.YtddckehejdpjcabGreatDoor

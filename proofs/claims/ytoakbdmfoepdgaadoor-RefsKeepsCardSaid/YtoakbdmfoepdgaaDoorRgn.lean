/- What is proved: text as a table, by the program. Conditions: the bytes are there, and not too many. -/
import Derived.Test.YtoakbdmfoepdgaaDoorRgm
import Derived.Test.YtoakbdmfoepdgaaDoorRfg
namespace Go.Proofs.YtoakbdmfoepdgaaDoor
open Go.RowKit Go.Sort Go.Shelf
set_option linter.unusedVariables false

theorem build_rfG (e : Rf) (w : World) : (Instr.build 50 #[(0, .string (strB e.name)), (1, .agg (Ids.idC (Ids.dgt e.id)))]).run Tryd.prog w = .ok (.agg (refV e).toArray) w := by kernel_rfl
theorem load_whole3 {w : World} {g : Nat} {t : TypeId} {cs : Array Value} (h : Whole w g t cs) (n : Nat) (hn : n = cs.size) : (loadCellsFrom ⟨g, 0, none⟩ 0 n #[]).run Tryd.prog w = .ok cs w := by
  have h2 := run_loadCells_list (P := Tryd.prog) w ⟨g, 0, none⟩ cs.toList (fun j v hv => by rw [add_off, Nat.zero_add, h.cell]; simpa using hv)
  rw [Array.length_toList] at h2
  rw [hn]
  simpa [loadCells] using h2

set_option maxHeartbeats 3200000 in
set_option maxRecDepth 100000 in
theorem RfTake_any (t : List UInt8) (ht : t.length ≤ 1000000) (w : World) :
    Calls Tryd.prog 37 #[.string (strB t)] w fun e w' => e = .returned (.tuple #[.agg (refV (mkT t)).toArray, .bool (okT t)]) ∧ Below w.heap.size w w' := by
  have HCt := Lib.hid (fun w => GstrCut32_any t (by omega) w)
  have HRd := Lib.hid (fun w => Ids.ORead_any (strB (fsA t)) (by rw [strB_size]; have := fsA_len t; omega) w)
  have hbr := fun w => build_rfG (mkT t) w
  rw [mkT_name (by omega), mkT_id (by omega)] at hbr
  have hk : okT t = (has32 t && decide (Ids.rdE (strB (fsA t)) = 0)) := rfl
  have hIS : (Tryd.prog.info? 41).map (·.size) = some (Ids.idC (Ids.rdA (strB (fsA t)))).size := by rw [Ids.idC_size]; exact Ids.size32
  have HIA := Lib.hid (Ids.idC_one (Ids.rdA (strB (fsA t))))
  have HIS := Lib.hid hIS
  have hci := Ids.idC_size (Ids.rdA (strB (fsA t)))
  have hcs := refV_size (mkT t)
  have HO := Lib.hid (refV_all (mkT t))
  obtain ⟨ci, hcI⟩ : ∃ c, Ids.idC (Ids.rdA (strB (fsA t))) = c := ⟨_, rfl⟩
  obtain ⟨cx, hcx⟩ : ∃ c, (refV (mkT t)).toArray = c := ⟨_, rfl⟩
  obtain ⟨E, hE⟩ : ∃ E, Ids.rdE (strB (fsA t)) = E := ⟨_, rfl⟩
  obtain ⟨hb, hhb⟩ : ∃ b, has32 t = b := ⟨_, rfl⟩
  obtain ⟨D, hD⟩ : ∃ S, strB (fsA t) = S := ⟨_, rfl⟩
  obtain ⟨X, hX⟩ : ∃ S, strB (fsB t) = S := ⟨_, rfl⟩
  obtain ⟨L0, hL0⟩ : ∃ S, strB t = S := ⟨_, rfl⟩
  rw [hE, hhb] at hk
  rw [hL0, hD, hX, hhb] at HCt
  rw [show strB [32] = { data := #[32] } from rfl] at HCt
  rw [hcI, hE, hD] at HRd
  rw [hX, hcI, hcx] at hbr
  rw [hcI] at hci HIS HIA
  rw [hcx] at hcs HO
  rw [hcx, hL0, hk]
  have HBr := Lib.hid hbr
  clear hcI hcx hE hhb hD hX hL0 hbr hIS hk ht
  obtain ⟨w1, hw1⟩ : ∃ w1, w.alloc (.cells zeroR 50) = w1 := ⟨_, rfl⟩
  have HZ1 := Lib.hid (show Whole w1 w.heap.size 50 zeroR from by subst hw1; exact Whole.new w 50 zeroR)
  have F1 := Lib.hid (show Fr (fun _ => False) w w1 from by subst hw1; exact (Fr.refl (fun _ => False) w).alloc _)
  unfold zeroR at hw1
  simp [List.replicate] at hw1
  obtain ⟨T, hT⟩ : ∃ T : TypeId, T = 41 := ⟨_, rfl⟩
  obtain ⟨n32, h32⟩ : ∃ n : Nat, n = 32 := ⟨_, rfl⟩
  have ag32 : ∀ w, (isAgg T).run Tryd.prog w = .ok true w := by rw [hT]; exact fun _ => by kernel_rfl
  have sz32 : ∀ w, (sizeOf T).run Tryd.prog w = .ok n32 w := by rw [hT, h32]; exact fun _ => by kernel_rfl
  have HN := Lib.hid h32
  clear h32
  go_enter Tryd.func37, Tryd.ntmps37
  rw [show Op.load 41 (.tmp 7) = Op.load T (.tmp 7) by rw [hT]]
  clear hT
  cases hb
  · (
    go_wp2_with (first
      | (have _ := M1
         refine wpList_store_at rfl 50 _ _ rfl w.heap.size 0 50 zeroR cx rfl rfl (HZ1.out.fr F4.out (fun e => e)) (by rw [zeroR_size, hcs]; exact Nat.le_refl _) (by rw [hcs]; exact size_ref) HO.out ?_
         intro w5 hw5 hf5)
      | (refine wpList_build_to rfl 50 _ rfl #[(0, .string X), (1, .agg ci)] (by first | rfl | simp [Act.eval]) (.agg cx) (HBr.out _) ?_)
      | (go_at_call 58; refine (HRd.out w2).mono ?_; rintro e w3 ⟨rfl, b3⟩; have F3 := Lib.hid (F2.out.then_below b3); clear b3)
      | (go_at_call 36; refine (HCt.out w1).mono ?_; rintro e w2 ⟨rfl, b2⟩; have F2 := Lib.hid (Fr.of_below (S := fun _ => False) b2); clear b2)
      | (refine wpList_store_at rfl 41 _ _ rfl w3.heap.size 0 41 Ids.zero32 ci rfl rfl (Whole.new w3 41 Ids.zero32) (by rw [hci]; decide) HIS.out HIA.out ?_
         intro w4 hw4 hf4
         rw [laidAt_all _ _ (by rw [hci]; rfl)] at hw4
         have l4 := load_whole3 hw4 n32 (by rw [HN.out, hci])
         have F4 := Lib.hid (F3.out.trans (((Fr.refl (fun _ => False) w3).alloc _).trans hf4 (fun i hi e => by omega)) (fun _ _ e => e))
         have M1 := True.intro
         clear hw4 hf4))
    rw [laidAt_all _ _ (by rw [zeroR_size, hcs])] at hw5)
    refine bodyPost_ret (v := .tuple #[.agg cx, .bool false]) (results_cell_slot (p := 2) (u := 3) rfl _ _ _ _ _ _ rfl hw5 Tryd.underlying50 rfl (by rw [hcs]; exact size_ref)) rfl ?_
    exact ⟨rfl, ((F1.out.trans F4.out (fun _ _ e => e)).trans hf5 (fun i hi e => by omega)).below (fun _ _ e => e)⟩
  · by_cases hE0 : E = 0
    · subst hE0
      (
        go_wp2_with (first
          | (have _ := M1
             refine wpList_store_at rfl 50 _ _ rfl w.heap.size 0 50 zeroR cx rfl rfl (HZ1.out.fr F4.out (fun e => e)) (by rw [zeroR_size, hcs]; exact Nat.le_refl _) (by rw [hcs]; exact size_ref) HO.out ?_
             intro w5 hw5 hf5)
          | (refine wpList_build_to rfl 50 _ rfl #[(0, .string X), (1, .agg ci)] (by first | rfl | simp [Act.eval]) (.agg cx) (HBr.out _) ?_)
          | (go_at_call 58; refine (HRd.out w2).mono ?_; rintro e w3 ⟨rfl, b3⟩; have F3 := Lib.hid (F2.out.then_below b3); clear b3)
          | (go_at_call 36; refine (HCt.out w1).mono ?_; rintro e w2 ⟨rfl, b2⟩; have F2 := Lib.hid (Fr.of_below (S := fun _ => False) b2); clear b2)
          | (refine wpList_store_at rfl 41 _ _ rfl w3.heap.size 0 41 Ids.zero32 ci rfl rfl (Whole.new w3 41 Ids.zero32) (by rw [hci]; decide) HIS.out HIA.out ?_
             intro w4 hw4 hf4
             rw [laidAt_all _ _ (by rw [hci]; rfl)] at hw4
             have l4 := load_whole3 hw4 n32 (by rw [HN.out, hci])
             have F4 := Lib.hid (F3.out.trans (((Fr.refl (fun _ => False) w3).alloc _).trans hf4 (fun i hi e => by omega)) (fun _ _ e => e))
             have M1 := True.intro
             clear hw4 hf4))
        rw [laidAt_all _ _ (by rw [zeroR_size, hcs])] at hw5)
      refine bodyPost_ret (v := .tuple #[.agg cx, .bool true]) (results_cell_slot (p := 2) (u := 3) rfl _ _ _ _ _ _ rfl hw5 Tryd.underlying50 rfl (by rw [hcs]; exact size_ref)) rfl ?_
      exact ⟨rfl, ((F1.out.trans F4.out (fun _ _ e => e)).trans hf5 (fun i hi e => by omega)).below (fun _ _ e => e)⟩
    · have hEb : (E == 0) = false := by simpa using hE0
      (
        go_wp2_with (first
          | (have _ := M1
             refine wpList_store_at rfl 50 _ _ rfl w.heap.size 0 50 zeroR cx rfl rfl (HZ1.out.fr F4.out (fun e => e)) (by rw [zeroR_size, hcs]; exact Nat.le_refl _) (by rw [hcs]; exact size_ref) HO.out ?_
             intro w5 hw5 hf5)
          | (refine wpList_build_to rfl 50 _ rfl #[(0, .string X), (1, .agg ci)] (by first | rfl | simp [Act.eval]) (.agg cx) (HBr.out _) ?_)
          | (go_at_call 58; refine (HRd.out w2).mono ?_; rintro e w3 ⟨rfl, b3⟩; have F3 := Lib.hid (F2.out.then_below b3); clear b3)
          | (go_at_call 36; refine (HCt.out w1).mono ?_; rintro e w2 ⟨rfl, b2⟩; have F2 := Lib.hid (Fr.of_below (S := fun _ => False) b2); clear b2)
          | (refine wpList_store_at rfl 41 _ _ rfl w3.heap.size 0 41 Ids.zero32 ci rfl rfl (Whole.new w3 41 Ids.zero32) (by rw [hci]; decide) HIS.out HIA.out ?_
             intro w4 hw4 hf4
             rw [laidAt_all _ _ (by rw [hci]; rfl)] at hw4
             have l4 := load_whole3 hw4 n32 (by rw [HN.out, hci])
             have F4 := Lib.hid (F3.out.trans (((Fr.refl (fun _ => False) w3).alloc _).trans hf4 (fun i hi e => by omega)) (fun _ _ e => e))
             have M1 := True.intro
             clear hw4 hf4))
        rw [laidAt_all _ _ (by rw [zeroR_size, hcs])] at hw5)
      refine bodyPost_ret (v := .tuple #[.agg cx, .bool false]) (results_cell_slot (p := 2) (u := 3) rfl _ _ _ _ _ _ rfl hw5 Tryd.underlying50 rfl (by rw [hcs]; exact size_ref)) rfl ?_
      exact ⟨by rw [decide_eq_false hE0]; rfl, ((F1.out.trans F4.out (fun _ _ e => e)).trans hf5 (fun i hi e => by omega)).below (fun _ _ e => e)⟩
end Go.Proofs.YtoakbdmfoepdgaaDoor

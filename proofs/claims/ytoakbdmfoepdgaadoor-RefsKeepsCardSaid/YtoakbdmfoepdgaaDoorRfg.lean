/- What is proved: which refs lie under a directory, by the program; the example of the laws. Conditions: the list's cells are there. -/
import Derived.Test.YtoakbdmfoepdgaaDoorRff
namespace Go.Proofs.YtoakbdmfoepdgaaDoor
open Go.RowKit Go.Sort Go.Shelf
set_option linter.unusedVariables false

theorem build_ref (e : Rf) (w : World) : (Instr.buildSlice 22 1 #[(0, .agg (refV e).toArray)]).run Tryd.prog w = .ok (.slice (some ⟨w.heap.size, 0, none⟩) 1 1) (w.alloc (.cells (refV e).toArray 50)) := by kernel_rfl
theorem src_ref (w : World) (e : Rf) (ca : Array Value) (hc : (refV e).toArray = ca) : Src Tryd.prog 33 22 (.slice (some ⟨w.heap.size, 0, none⟩) 1 1) 1 (flatR [e]) (w.alloc (.cells ca 50)) := by
  subst hc
  refine Lies.src33 (l := [e]) ?_ rfl 1
  rw [flatR_one1]
  exact Lies.of_whole (Whole.new w 50 _)
theorem undR_len (l : List Rf) (d : List UInt8) (k : Nat) : (undR (l.take k) d).length ≤ k := by
  have h1 := (List.filter_sublist (p := fun r : Rf => underB r.name d) (l := l.take k)).length_le
  rw [List.length_take] at h1
  unfold undR
  omega

set_option maxHeartbeats 3200000 in
set_option maxRecDepth 100000 in
theorem RfUnder_any (A : Option Addr) (cap : Nat) (l : List Rf) (hn : l.length ≤ 100000) (d : List UInt8) (hd : d.length ≤ 9223372036854775806) (w : World) (h : Lies w A (flatR l)) :
    Calls Tryd.prog 25 #[.slice A l.length cap, .string (strB d)] w fun e w' => ∃ v, e = .returned v ∧ OwnR w w' v (undR l d) := by
  obtain ⟨i0, hi, hz0, hz1, hz2⟩ := info_parts info_ref
  have hz3 := zeroR_cells
  obtain ⟨Z, hZ⟩ : ∃ Z, (refV default).toArray = Z := ⟨_, rfl⟩
  rw [hZ] at hz0 hz3
  have HLI := Lib.hid h
  have HSn := Lib.hid (undR_snoc l d)
  have HUl := Lib.hid (undR_len l d)
  have HUn := Lib.hid (fun (y : Rf) w => RtUnder_any y.name d (by have := y.hn; omega) hd w)
  obtain ⟨D, hD⟩ : ∃ D, strB d = D := ⟨_, rfl⟩
  rw [hD] at HUn ⊢
  obtain ⟨L, hL⟩ : ∃ L, l.length = L := ⟨_, rfl⟩
  have HLn := Lib.hid hL
  obtain ⟨T, hT⟩ : ∃ T : TypeId, T = 50 := ⟨_, rfl⟩
  obtain ⟨n33, h33⟩ : ∃ n : Nat, n = 33 := ⟨_, rfl⟩
  have ag33 : ∀ w, (isAgg T).run Tryd.prog w = .ok true w := by rw [hT]; exact fun _ => by kernel_rfl
  have sz33 : ∀ w, (sizeOf T).run Tryd.prog w = .ok n33 w := by rw [hT, h33]; exact fun _ => by kernel_rfl
  have HN := Lib.hid h33
  rw [hL] at hn HSn ⊢
  clear h hL h33 hZ hD
  go_enter Tryd.func25, Tryd.ntmps25
  rw [show Op.load 50 (.tmp 12) = Op.load T (.tmp 12) by rw [hT], show Op.load 50 (.tmp 7) = Op.load T (.tmp 7) by rw [hT]]
  clear hT
  go_wp2
  go_loopg [5, 10] L (fun kx s5 s10 wr => ∃ (k : Nat) (v : Value), v = s5 ∧ s10 = .int .i64 k ∧ k ≤ L ∧ L - k ≤ kx ∧ Hid (OwnR w wr v (undR (l.take k) d)))
  case atStart => exact ⟨0, _, rfl, rfl, by omega, by omega, Lib.hid (OwnR.nil (Fr.refl _ _))⟩
  case round =>
    obtain ⟨k, v, rfl, rfl, hk, hkx, HOw⟩ := hrel
    obtain ⟨wo, rfl⟩ : ∃ wo, wo = wr := ⟨wr, rfl⟩
    have HFo := Lib.hid HOw.out.2
    have wk := wrap_nat k (by omega)
    by_cases hlt : k < L
    · have hltz : (k : Int) < L := by omega
      obtain ⟨b, o, hB⟩ := HLI.out.someR (by rw [HLn.out]; omega)
      subst hB
      have l1 : (loadCellsFrom ⟨b, o + k * 33, none⟩ 0 n33 #[]).run Tryd.prog wo = .ok (refV l[k]!).toArray wo := load_ref HLI.out (rf_some (by rw [HLn.out]; omega)) HFo.out n33 HN.out
      have HSk := Lib.hid (HSn.out k hlt)
      have hul := HUl.out k
      obtain ⟨y, hy⟩ : ∃ y, l[k]! = y := ⟨_, rfl⟩
      rw [hy] at l1 HSk
      have hcs := refV_size y
      have HO := Lib.hid (refV_all y)
      have HN0 := Lib.hid (refV_name y)
      have hbl := fun w => build_ref y w
      have hUc := Lib.hid (fun w => HUn.out y w)
      obtain ⟨ul, hule⟩ : ∃ ul, undR (l.take k) d = ul := ⟨_, rfl⟩
      rw [hule] at hul HOw HSk
      obtain ⟨m, hm⟩ : ∃ m, ul.length = m := ⟨_, rfl⟩
      have HM := Lib.hid hm
      rw [hm] at hul
      obtain ⟨ca, hca⟩ : ∃ c, (refV y).toArray = c := ⟨_, rfl⟩
      have HCA := Lib.hid hca
      rw [hca] at l1 hcs HO HN0 hbl
      have HBl := Lib.hid hbl
      obtain ⟨S, hS⟩ : ∃ S, strB y.name = S := ⟨_, rfl⟩
      rw [hS] at HN0 hUc
      obtain ⟨bu, hbu⟩ : ∃ b, underB y.name d = b := ⟨_, rfl⟩
      rw [hbu] at hUc HSk
      clear hy hS hca hule hm hbu hbl
      obtain ⟨w2, hw2⟩ : ∃ w2, wo.alloc (.cells zeroR 50) = w2 := ⟨_, rfl⟩
      have HZ2 := Lib.hid (show Whole w2 wo.heap.size 50 zeroR from by subst hw2; exact Whole.new wo 50 zeroR)
      have HF2 := Lib.hid (show Fr (fun _ => False) wo w2 from by subst hw2; exact (Fr.refl (fun _ => False) wo).alloc _)
      unfold zeroR at hw2
      simp [List.replicate] at hw2
      cases bu
      · (
        go_wp2_with (first
          | (at_builtin; refine wpList_append_row _ rfl (.tmp 18) (.tmp 20) 22 22 rfl w.heap.size 50 i0 (.agg Z) 33 48 Tryd.underlying22 hi hz0 hz1 hz2 hz3 v m (flatR ul) rfl (by have := ((HOw.out.fr HF3.out).fr ((Fr.refl (fun _ => False) w3).alloc (.cells ca 50))).1; rw [HM.out] at this; exact this) (.slice (some ⟨w3.heap.size, 0, none⟩) 1 1) 1 (flatR [y]) rfl (src_ref w3 y ca HCA.out) (by unfold maxLen; omega) (by omega) (by have := HFo.out.size; have := HF3.out.size; simp; omega) ?_
             intro v' w4 o1 g1 at1
             have HO4 := Lib.hid (((HOw.out.fr HF3.out).fr ((Fr.refl (fun _ => False) w3).alloc (.cells ca 50))).grow (ks := ul ++ [y]) rfl HM.out.symm rfl o1 g1)
             obtain ⟨AO, cO, hvO, -⟩ := own_slice o1
             subst hvO
             clear o1 g1 at1)
          | (refine wpList_buildSlice_to rfl 22 1 _ rfl #[(0, .agg ca)] (by first | rfl | simp [Act.eval]) _ _ (HBl.out _) ?_)
          | (go_at_call 46; refine (hUc.out _).mono ?_; rintro e w9 ⟨rfl, rfl⟩)
          | (refine wpList_store_at rfl 50 _ _ rfl wo.heap.size 0 50 zeroR ca rfl rfl HZ2.out (by rw [zeroR_size, hcs]; exact Nat.le_refl _) (by rw [hcs]; exact size_ref) HO.out ?_
             intro w3 hw3 hf3
             rw [laidAt_all _ _ (by rw [zeroR_size, hcs])] at hw3
             have c0 : w3.cell? ⟨wo.heap.size, 0, none⟩ = some (.string S) := (by rw [hw3.cell]; exact HN0.out)
             have l3 : (loadCellsFrom ⟨wo.heap.size, 0, none⟩ 0 n33 #[]).run Tryd.prog w3 = .ok ca w3 := (by
               have h2 := run_loadCells_list (P := Tryd.prog) w3 ⟨wo.heap.size, 0, none⟩ ca.toList (fun j v hv => by rw [add_off, Nat.zero_add, hw3.cell]; simpa using hv)
               rw [Array.length_toList, hcs] at h2
               rw [HN.out]
               simpa [loadCells] using h2)
             have HF3 := Lib.hid (show Fr (fun _ => False) wo w3 from HF2.out.trans hf3 (fun i hi e => by omega))
             clear hw3 hf3)))
        go_roundg (L - (k + 1))
        case measure => omega
        case rel => exact ⟨k + 1, _, rfl, by go_num, by omega, Nat.le_refl _, Lib.hid (by rw [HSk.out]; simpa using HOw.out.fr HF3.out)⟩
      · (
        go_wp2_with (first
          | (at_builtin; refine wpList_append_row _ rfl (.tmp 18) (.tmp 20) 22 22 rfl w.heap.size 50 i0 (.agg Z) 33 48 Tryd.underlying22 hi hz0 hz1 hz2 hz3 v m (flatR ul) rfl (by have := ((HOw.out.fr HF3.out).fr ((Fr.refl (fun _ => False) w3).alloc (.cells ca 50))).1; rw [HM.out] at this; exact this) (.slice (some ⟨w3.heap.size, 0, none⟩) 1 1) 1 (flatR [y]) rfl (src_ref w3 y ca HCA.out) (by unfold maxLen; omega) (by omega) (by have := HFo.out.size; have := HF3.out.size; simp; omega) ?_
             intro v' w4 o1 g1 at1
             have HO4 := Lib.hid (((HOw.out.fr HF3.out).fr ((Fr.refl (fun _ => False) w3).alloc (.cells ca 50))).grow (ks := ul ++ [y]) rfl HM.out.symm rfl o1 g1)
             obtain ⟨AO, cO, hvO, -⟩ := own_slice o1
             subst hvO
             clear o1 g1 at1)
          | (refine wpList_buildSlice_to rfl 22 1 _ rfl #[(0, .agg ca)] (by first | rfl | simp [Act.eval]) _ _ (HBl.out _) ?_)
          | (go_at_call 46; refine (hUc.out _).mono ?_; rintro e w9 ⟨rfl, rfl⟩)
          | (refine wpList_store_at rfl 50 _ _ rfl wo.heap.size 0 50 zeroR ca rfl rfl HZ2.out (by rw [zeroR_size, hcs]; exact Nat.le_refl _) (by rw [hcs]; exact size_ref) HO.out ?_
             intro w3 hw3 hf3
             rw [laidAt_all _ _ (by rw [zeroR_size, hcs])] at hw3
             have c0 : w3.cell? ⟨wo.heap.size, 0, none⟩ = some (.string S) := (by rw [hw3.cell]; exact HN0.out)
             have l3 : (loadCellsFrom ⟨wo.heap.size, 0, none⟩ 0 n33 #[]).run Tryd.prog w3 = .ok ca w3 := (by
               have h2 := run_loadCells_list (P := Tryd.prog) w3 ⟨wo.heap.size, 0, none⟩ ca.toList (fun j v hv => by rw [add_off, Nat.zero_add, hw3.cell]; simpa using hv)
               rw [Array.length_toList, hcs] at h2
               rw [HN.out]
               simpa [loadCells] using h2)
             have HF3 := Lib.hid (show Fr (fun _ => False) wo w3 from HF2.out.trans hf3 (fun i hi e => by omega))
             clear hw3 hf3)))
        go_roundg (L - (k + 1))
        case measure => omega
        case rel => exact ⟨k + 1, _, rfl, by go_num, by omega, Nat.le_refl _, Lib.hid (by rw [HSk.out]; exact HO4.out)⟩
    · have hltz : ¬ ((k : Int) < L) := by omega
      obtain rfl : k = L := by omega
      have hfin : l.take k = l := List.take_of_length_le (by rw [HLn.out]; omega)
      rw [hfin] at HOw
      clear hfin
      obtain ⟨AO, cO, hvO, -⟩ := own_slice HOw.out.1
      subst hvO
      go_wp2_with fail
      go_ret
      exact ⟨_, rfl, HOw.out⟩
end Go.Proofs.YtoakbdmfoepdgaaDoor

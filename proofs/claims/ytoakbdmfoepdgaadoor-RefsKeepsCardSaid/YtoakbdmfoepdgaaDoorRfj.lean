/- What is proved: an id of a name, which refs lie under a directory, whether two tables are one, by the document. Conditions: the lists' cells are there. -/
import Derived.Test.YtoakbdmfoepdgaaDoorRfg
namespace Go.Proofs.YtoakbdmfoepdgaaDoor
open Go.RowKit Go.Sort Go.Shelf
set_option linter.unusedVariables false

set_option maxHeartbeats 3200000 in
set_option maxRecDepth 100000 in
theorem QfFind_any (A : Option Addr) (cap : Nat) (l : List Rf) (hn : l.length ≤ 100000) (x : List UInt8) (w : World) (h : Lies w A (flatR l)) :
    Calls Tryd.prog 22 #[.slice A l.length cap, .string (strB x)] w fun e w' => e = .returned (.tuple #[.agg (Ids.idC (Ids.dgt (optR (findR l x)).id)), .bool (findR l x).isSome]) ∧ Below w.heap.size w w' := by
  have HLI := Lib.hid h
  have HD := Lib.hid (findR_drop l x)
  obtain ⟨L, hL⟩ : ∃ L, l.length = L := ⟨_, rfl⟩
  have HLn := Lib.hid hL
  obtain ⟨X, hX⟩ : ∃ S, strB x = S := ⟨_, rfl⟩
  have HX := Lib.hid hX
  rw [hL] at hn HD ⊢
  rw [hX]
  clear h hL hX
  obtain ⟨w1, hw1⟩ : ∃ w1, w.alloc (.cells Ids.zero32 41) = w1 := ⟨_, rfl⟩
  have HZ1 := Lib.hid (show Whole w1 w.heap.size 41 Ids.zero32 from by subst hw1; exact Whole.new w 41 Ids.zero32)
  have HF1 := Lib.hid (show Fr (fun _ => False) w w1 from by subst hw1; exact (Fr.refl (fun _ => False) w).alloc _)
  unfold Ids.zero32 at hw1
  simp [List.replicate] at hw1
  obtain ⟨T, hT⟩ : ∃ T : TypeId, T = 41 := ⟨_, rfl⟩
  obtain ⟨n32, h32⟩ : ∃ n : Nat, n = 32 := ⟨_, rfl⟩
  have ag32 : ∀ w, (isAgg T).run Tryd.prog w = .ok true w := by rw [hT]; exact fun _ => by kernel_rfl
  have sz32 : ∀ w, (sizeOf T).run Tryd.prog w = .ok n32 w := by rw [hT, h32]; exact fun _ => by kernel_rfl
  have HN := Lib.hid h32
  clear h32
  go_enter Tryd.func22, Tryd.ntmps22
  rw [show Op.load 41 (.tmp 23) = Op.load T (.tmp 23) by rw [hT]]
  clear hT
  go_wp2
  go_loopg [6] L (fun kx s6 wr => ∃ j : Nat, s6 = .int .i64 j ∧ j ≤ L ∧ L - j ≤ kx ∧ Fr (fun _ => False) w1 wr ∧ Hid (findR l x = findR (l.drop j) x))
  case atStart => exact ⟨0, rfl, by omega, by omega, Fr.refl _ _, Lib.hid rfl⟩
  case round =>
    obtain ⟨j, rfl, hj, hjx, hf, HJ⟩ := hrel
    obtain ⟨wi, rfl⟩ : ∃ wi, wi = wr := ⟨wr, rfl⟩
    have HFi := Lib.hid hf
    clear hf
    have wj := wrap_nat j (by omega)
    by_cases hjl : j < L
    · have hjz : (j : Int) < L := by omega
      obtain ⟨b, o, hB⟩ := HLI.out.someR (by rw [HLn.out]; omega)
      subst hB
      have HW := Lib.hid (HF1.out.trans HFi.out (fun _ _ e => e))
      have c0 : wi.cell? ⟨b, o + j * 33, none⟩ = some (.string (strB l[j]!.name)) := rname_at HLI.out (rf_some (by rw [HLn.out]; omega)) HW.out
      have l1 : (loadCellsFrom ⟨b, o + j * 33 + 1, none⟩ 0 n32 #[]).run Tryd.prog wi = .ok (Ids.idC (Ids.dgt l[j]!.id)) wi := load_rid HLI.out (rf_some (by rw [HLn.out]; omega)) HW.out n32 HN.out
      have HDj := Lib.hid (HD.out j hjl)
      obtain ⟨y, hy⟩ : ∃ y, l[j]! = y := ⟨_, rfl⟩
      rw [hy] at c0 l1 HDj
      have HIS := Lib.hid (idC_sz y.id)
      have HIA := Lib.hid (idC_al y.id)
      have hci := Ids.idC_size (Ids.dgt y.id)
      have heq := str_eq y.name x
      rw [HX.out] at heq
      obtain ⟨ci, hcI⟩ : ∃ c, Ids.idC (Ids.dgt y.id) = c := ⟨_, rfl⟩
      have HCI := Lib.hid hcI
      rw [hcI] at l1 hci HIS HIA
      obtain ⟨S, hS⟩ : ∃ S, strB y.name = S := ⟨_, rfl⟩
      rw [hS] at c0 heq
      clear hy hS hcI
      cases hq : (y.name == x) with
      | true =>
        rw [hq] at heq
        have HQ := Lib.hid hq
        clear hq
        go_wp2_with (first
          | (refine wpList_store_at rfl 41 _ _ rfl w.heap.size 0 41 Ids.zero32 ci rfl rfl (HZ1.out.fr HFi.out (fun e => e)) (by rw [hci]; decide) HIS.out HIA.out ?_
             intro w5 hw5 hf5))
        (try simp only [Exit.inBlock, Exit.then])
        rw [laidAt_all _ _ (by rw [hci]; rfl)] at hw5
        refine bodyPost_ret (v := .tuple #[.agg ci, .bool true]) (results_cell_slot (p := 4) (u := 5) rfl _ _ _ _ _ _ rfl hw5 Tryd.underlying41 rfl HIS.out) rfl ?_
        have hfin : findR l x = some y := by rw [HJ.out, HDj.out, if_pos HQ.out]
        exact ⟨by rw [hfin]; show _ = Ending.returned (.tuple #[.agg (Ids.idC (Ids.dgt y.id)), .bool true]); rw [HCI.out], ((HF1.out.trans HFi.out (fun _ _ e => e)).trans hf5 (fun i hi e => by omega)).below (fun _ _ e => e)⟩
      | false =>
        rw [hq] at heq
        have HQ := Lib.hid hq
        clear hq
        go_wp2_with fail
        go_roundg (L - (j + 1))
        case measure => omega
        case rel => exact ⟨j + 1, by go_num, by omega, Nat.le_refl _, HFi.out, Lib.hid (by rw [HJ.out, HDj.out, if_neg (by rw [HQ.out]; decide)])⟩
    · have hjz : ¬ ((j : Int) < L) := by omega
      have HFin : Hid (findR l x = none) := Lib.hid (by rw [HJ.out, List.drop_of_length_le (by rw [HLn.out]; omega)]; rfl)
      have HZS : Hid ((Tryd.prog.info? 41).map (·.size) = some Ids.zero32.size) := Lib.hid Ids.size32
      go_wp2_with (first
        | (refine wpList_store_at rfl 41 _ _ rfl w.heap.size 0 41 Ids.zero32 Ids.zero32 rfl rfl (HZ1.out.fr HFi.out (fun e => e)) (Nat.le_refl _) HZS.out Ids.zero32_one ?_
           intro w5 hw5 hf5))
      rw [laidAt_all _ _ rfl] at hw5
      refine bodyPost_ret (v := .tuple #[.agg Ids.zero32, .bool false]) (results_cell_slot (p := 4) (u := 5) rfl _ _ _ _ _ _ rfl hw5 Tryd.underlying41 rfl HZS.out) rfl ?_
      refine ⟨?_, ((HF1.out.trans HFi.out (fun _ _ e => e)).trans hf5 (fun i hi e => by omega)).below (fun _ _ e => e)⟩
      rw [HFin.out]
      show _ = Ending.returned (.tuple #[.agg (Ids.idC (Ids.dgt 0)), .bool false])
      rw [show Ids.idC (Ids.dgt 0) = Ids.zero32 from Ids.idC_zero]

set_option maxHeartbeats 3200000 in
set_option maxRecDepth 100000 in
theorem QfUnder_any (A : Option Addr) (cap : Nat) (l : List Rf) (hn : l.length ≤ 100000) (d : List UInt8) (hd : d.length ≤ 9223372036854775806) (w : World) (h : Lies w A (flatR l)) :
    Calls Tryd.prog 26 #[.slice A l.length cap, .string (strB d)] w fun e w' => ∃ v, e = .returned v ∧ OwnR w w' v (undR l d) := by
  obtain ⟨i0, hi, hz0, hz1, hz2⟩ := info_parts info_ref
  have hz3 := zeroR_cells
  obtain ⟨Z, hZ⟩ : ∃ Z, (refV default).toArray = Z := ⟨_, rfl⟩
  rw [hZ] at hz0 hz3
  have HLI := Lib.hid h
  have HSn := Lib.hid (undR_snoc l d)
  have HUl := Lib.hid (undR_len l d)
  have HUn := Lib.hid (fun (y : Rf) w => QrUnder_any y.name d (by have := y.hn; omega) hd w)
  obtain ⟨D, hD⟩ : ∃ D, strB d = D := ⟨_, rfl⟩
  rw [hD] at HUn ⊢
  obtain ⟨L, hL⟩ : ∃ L, l.length = L := ⟨_, rfl⟩
  have HLn := Lib.hid hL
  obtain ⟨T, hT⟩ : ∃ T : TypeId, T = 50 := ⟨_, rfl⟩
  obtain ⟨n33, h33⟩ : ∃ n : Nat, n = 33 := ⟨_, rfl⟩
  have ag33 : ∀ w, (isAgg T).run Tryd.prog w = .ok true w := by rw [hT]; exact fun _ => by kernel_rfl
  have sz33 : ∀ w, (sizeOf T).run Tryd.prog w = .ok n33 w := by rw [hT, h33]; exact fun _ => by kernel_rfl
  have HN := Lib.hid h33
  rw [hL] at hn HSn ⊢
  clear h hL h33 hZ hD
  go_enter Tryd.func26, Tryd.ntmps26
  rw [show Op.load 50 (.tmp 23) = Op.load T (.tmp 23) by rw [hT]]
  clear hT
  go_wp2
  go_loopg [5, 6] L (fun kx s5 s6 wr => ∃ (k : Nat) (v : Value), v = s5 ∧ s6 = .int .i64 k ∧ k ≤ L ∧ L - k ≤ kx ∧ Hid (OwnR w wr v (undR (l.take k) d)))
  case atStart => exact ⟨0, _, rfl, rfl, by omega, by omega, Lib.hid (OwnR.nil (Fr.refl _ _))⟩
  case round =>
    obtain ⟨k, v, rfl, rfl, hk, hkx, HOw⟩ := hrel
    obtain ⟨wo, rfl⟩ : ∃ wo, wo = wr := ⟨wr, rfl⟩
    have HFo := Lib.hid HOw.out.2
    have wk := wrap_nat k (by omega)
    by_cases hlt : k < L
    · have hltz : (k : Int) < L := by omega
      obtain ⟨b, o, hB⟩ := HLI.out.someR (by rw [HLn.out]; omega)
      subst hB
      have l1 : (loadCellsFrom ⟨b, o + k * 33, none⟩ 0 n33 #[]).run Tryd.prog wo = .ok (refV l[k]!).toArray wo := load_ref HLI.out (rf_some (by rw [HLn.out]; omega)) HFo.out n33 HN.out
      have c0 : wo.cell? ⟨b, o + k * 33, none⟩ = some (.string (strB l[k]!.name)) := rname_at HLI.out (rf_some (by rw [HLn.out]; omega)) HFo.out
      have HSk := Lib.hid (HSn.out k hlt)
      have hul := HUl.out k
      obtain ⟨y, hy⟩ : ∃ y, l[k]! = y := ⟨_, rfl⟩
      rw [hy] at l1 c0 HSk
      have hbl := fun w => build_ref y w
      have hUc := Lib.hid (fun w => HUn.out y w)
      obtain ⟨ul, hule⟩ : ∃ ul, undR (l.take k) d = ul := ⟨_, rfl⟩
      rw [hule] at hul HOw HSk
      obtain ⟨m, hm⟩ : ∃ m, ul.length = m := ⟨_, rfl⟩
      have HM := Lib.hid hm
      rw [hm] at hul
      obtain ⟨ca, hca⟩ : ∃ c, (refV y).toArray = c := ⟨_, rfl⟩
      have HCA := Lib.hid hca
      rw [hca] at l1 hbl
      have HBl := Lib.hid hbl
      obtain ⟨S, hS⟩ : ∃ S, strB y.name = S := ⟨_, rfl⟩
      rw [hS] at c0 hUc
      obtain ⟨bu, hbu⟩ : ∃ b, underB y.name d = b := ⟨_, rfl⟩
      rw [hbu] at hUc HSk
      clear hy hS hca hule hm hbu hbl
      cases bu
      · (
        go_wp2_with (first
          | (at_builtin; refine wpList_append_row _ rfl (.tmp 20) (.tmp 25) 22 22 rfl w.heap.size 50 i0 (.agg Z) 33 48 Tryd.underlying22 hi hz0 hz1 hz2 hz3 v m (flatR ul) rfl (by have := (HOw.out.fr ((Fr.refl (fun _ => False) wo).alloc (.cells ca 50))).1; rw [HM.out] at this; exact this) (.slice (some ⟨wo.heap.size, 0, none⟩) 1 1) 1 (flatR [y]) rfl (src_ref wo y ca HCA.out) (by unfold maxLen; omega) (by omega) (by have := HFo.out.size; simp; omega) ?_
             intro v' w4 o1 g1 at1
             have HO4 := Lib.hid ((HOw.out.fr ((Fr.refl (fun _ => False) wo).alloc (.cells ca 50))).grow (ks := ul ++ [y]) rfl HM.out.symm rfl o1 g1)
             obtain ⟨AO, cO, hvO, -⟩ := own_slice o1
             subst hvO
             clear o1 g1 at1)
          | (refine wpList_buildSlice_to rfl 22 1 _ rfl #[(0, .agg ca)] (by first | rfl | simp [Act.eval]) _ _ (HBl.out _) ?_)
          | (go_at_call 47; refine (hUc.out _).mono ?_; rintro e w9 ⟨rfl, rfl⟩)))
        go_roundg (L - (k + 1))
        case measure => omega
        case rel => exact ⟨k + 1, _, rfl, by go_num, by omega, Nat.le_refl _, Lib.hid (by rw [HSk.out]; simpa using HOw.out)⟩
      · (
        go_wp2_with (first
          | (at_builtin; refine wpList_append_row _ rfl (.tmp 20) (.tmp 25) 22 22 rfl w.heap.size 50 i0 (.agg Z) 33 48 Tryd.underlying22 hi hz0 hz1 hz2 hz3 v m (flatR ul) rfl (by have := (HOw.out.fr ((Fr.refl (fun _ => False) wo).alloc (.cells ca 50))).1; rw [HM.out] at this; exact this) (.slice (some ⟨wo.heap.size, 0, none⟩) 1 1) 1 (flatR [y]) rfl (src_ref wo y ca HCA.out) (by unfold maxLen; omega) (by omega) (by have := HFo.out.size; simp; omega) ?_
             intro v' w4 o1 g1 at1
             have HO4 := Lib.hid ((HOw.out.fr ((Fr.refl (fun _ => False) wo).alloc (.cells ca 50))).grow (ks := ul ++ [y]) rfl HM.out.symm rfl o1 g1)
             obtain ⟨AO, cO, hvO, -⟩ := own_slice o1
             subst hvO
             clear o1 g1 at1)
          | (refine wpList_buildSlice_to rfl 22 1 _ rfl #[(0, .agg ca)] (by first | rfl | simp [Act.eval]) _ _ (HBl.out _) ?_)
          | (go_at_call 47; refine (hUc.out _).mono ?_; rintro e w9 ⟨rfl, rfl⟩)))
        go_roundg (L - (k + 1))
        case measure => omega
        case rel => exact ⟨k + 1, _, rfl, by go_num, by omega, Nat.le_refl _, Lib.hid (by rw [HSk.out]; exact HO4.out)⟩
    · have hltz : ¬ ((k : Int) < L) := by omega
      obtain rfl : k = L := by omega
      have hfin : l.take k = l := List.take_of_length_le (by rw [HLn.out]; omega)
      rw [hfin] at HOw
      clear hfin
      obtain ⟨AO, cO, hvO, -⟩ := own_slice HOw.out.1
      subst hvO
      go_wp2_with fail
      go_ret
      exact ⟨_, rfl, HOw.out⟩

theorem rfEq_self (e : Rf) : rfEq e e = true := (rfEq_iff e e).2 rfl
set_option maxHeartbeats 3200000 in
set_option maxRecDepth 100000 in
theorem QfSame_same (A B : Option Addr) (ca cb : Nat) (l : List Rf) (hn : l.length ≤ 100000) (w : World) (h1 : Lies w A (flatR l)) (h2 : Lies w B (flatR l)) :
    Calls Tryd.prog 16 #[.slice A l.length ca, .slice B l.length cb] w fun e w' => e = .returned (.bool true) ∧ Below w.heap.size w w' := by
  have HL1 := Lib.hid h1
  have HL2 := Lib.hid h2
  obtain ⟨L, hL⟩ : ∃ L, l.length = L := ⟨_, rfl⟩
  have HLn := Lib.hid hL
  obtain ⟨T, hT⟩ : ∃ T : TypeId, T = 50 := ⟨_, rfl⟩
  obtain ⟨n33, h33⟩ : ∃ n : Nat, n = 33 := ⟨_, rfl⟩
  have ag33 : ∀ w, (isAgg T).run Tryd.prog w = .ok true w := by rw [hT]; exact fun _ => by kernel_rfl
  have sz33 : ∀ w, (sizeOf T).run Tryd.prog w = .ok n33 w := by rw [hT, h33]; exact fun _ => by kernel_rfl
  have hgi := guardR
  have HN := Lib.hid h33
  rw [hL] at hn ⊢
  clear h1 h2 hL h33
  go_enter Tryd.func16, Tryd.ntmps16
  rw [show Op.load 50 (.tmp 19) = Op.load T (.tmp 19) by rw [hT], show Op.load 50 (.tmp 23) = Op.load T (.tmp 23) by rw [hT]]
  clear hT
  go_wp2
  go_loopg [5] L (fun kx s5 wr => ∃ k : Nat, k ≤ L ∧ s5 = .int .i64 k ∧ L - k ≤ kx ∧ Fr (fun _ => False) w wr)
  case atStart => exact ⟨0, by omega, rfl, by omega, Fr.refl _ _⟩
  case round =>
    obtain ⟨k, hk, rfl, hkx, hf⟩ := hrel
    obtain ⟨wo, rfl⟩ : ∃ wo, wo = wr := ⟨wr, rfl⟩
    have HFr := Lib.hid hf
    clear hf
    by_cases hlt : k < L
    · obtain ⟨b, o, hA⟩ := HL1.out.someR (by rw [HLn.out]; omega)
      subst hA
      obtain ⟨b2, o2, hA⟩ := HL2.out.someR (by rw [HLn.out]; omega)
      subst hA
      have hka := rf_some (l := l) (i := k) (by rw [HLn.out]; exact hlt)
      have l1 : ∀ q : Later wo, (loadCellsFrom ⟨b, o + k * 33, none⟩ 0 n33 #[]).run Tryd.prog q.w' = .ok (refV l[k]!).toArray q.w' := fun q => load_ref HL1.out hka (HFr.out.trans q.fr (fun _ _ e => e)) n33 HN.out
      have l2 : ∀ q : Later wo, (loadCellsFrom ⟨b2, o2 + k * 33, none⟩ 0 n33 #[]).run Tryd.prog q.w' = .ok (refV l[k]!).toArray q.w' := fun q => load_ref HL2.out hka (HFr.out.trans q.fr (fun _ _ e => e)) n33 HN.out
      have heq := fun w => eq_refs l[k]! l[k]! 10000 (by decide) w
      rw [rfEq_self] at heq
      obtain ⟨c1, hc1⟩ : ∃ c, (refV l[k]!).toArray = c := ⟨_, rfl⟩
      rw [hc1] at l1 l2 heq
      have hk0 : (k : Int) < L := by omega
      have wk := wrap_nat k (by omega)
      clear hka hc1
      (
        go_wp2_with fail
        refine wp_region_later (w0 := wo) (Fr.refl _ _) (by kernel_rfl) (by kernel_rfl) ?_
        repeat (quiet_step (fail))
        refine wpQuiet_nil ?_
        intro _ hw'
        obtain ⟨q, hw''⟩ := hw'
        subst hw''
        go_wp2_with fail)
      go_roundg (L - (k + 1))
      case measure => omega
      case rel => exact ⟨k + 1, by omega, by go_num, Nat.le_refl _, HFr.out.trans q.fr (fun _ _ e => e)⟩
    · obtain rfl : k = L := by omega
      go_wp2_with fail
      go_ret
      exact ⟨rfl, HFr.out.below (fun _ _ e => e)⟩
end Go.Proofs.YtoakbdmfoepdgaaDoor

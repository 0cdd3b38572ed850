/- What is proved: a table without a name; a ref is set, dropped, by the document. Conditions: the list's cells are there. -/
import Derived.Test.YtoakbdmfoepdgaaDoorRgh
import Derived.Test.YtoakbdmfoepdgaaDoorRfi
import Derived.Test.YtoakbdmfoepdgaaDoorRfj
namespace Go.Proofs.YtoakbdmfoepdgaaDoor
open Go.RowKit Go.Sort Go.Shelf
set_option linter.unusedVariables false

theorem witR_len (l : List Rf) (d : List UInt8) (k : Nat) : (witR (l.take k) d).length ≤ k := by
  have h1 := (List.filter_sublist (p := fun r : Rf => !(r.name == d)) (l := l.take k)).length_le
  rw [List.length_take] at h1
  unfold witR
  omega

set_option maxHeartbeats 3200000 in
set_option maxRecDepth 100000 in
theorem QfWithout_any (A : Option Addr) (cap : Nat) (l : List Rf) (hn : l.length ≤ 100000) (d : List UInt8) (w : World) (h : Lies w A (flatR l)) :
    Calls Tryd.prog 42 #[.slice A l.length cap, .string (strB d)] w fun e w' => ∃ v, e = .returned v ∧ OwnR w w' v (witR l d) := by
  obtain ⟨i0, hi, hz0, hz1, hz2⟩ := info_parts info_ref
  have hz3 := zeroR_cells
  obtain ⟨Z, hZ⟩ : ∃ Z, (refV default).toArray = Z := ⟨_, rfl⟩
  rw [hZ] at hz0 hz3
  have HLI := Lib.hid h
  have HSn := Lib.hid (witR_snoc l d)
  have HUl := Lib.hid (witR_len l d)
  obtain ⟨D, hD⟩ : ∃ D, strB d = D := ⟨_, rfl⟩
  have HD := Lib.hid hD
  rw [hD]
  obtain ⟨L, hL⟩ : ∃ L, l.length = L := ⟨_, rfl⟩
  have HLn := Lib.hid hL
  obtain ⟨T, hT⟩ : ∃ T : TypeId, T = 50 := ⟨_, rfl⟩
  obtain ⟨n33, h33⟩ : ∃ n : Nat, n = 33 := ⟨_, rfl⟩
  have ag33 : ∀ w, (isAgg T).run Tryd.prog w = .ok true w := by rw [hT]; exact fun _ => by kernel_rfl
  have sz33 : ∀ w, (sizeOf T).run Tryd.prog w = .ok n33 w := by rw [hT, h33]; exact fun _ => by kernel_rfl
  have HN := Lib.hid h33
  rw [hL] at hn HSn ⊢
  clear h hL h33 hZ hD
  go_enter Tryd.func42, Tryd.ntmps42
  rw [show Op.load 50 (.tmp 23) = Op.load T (.tmp 23) by rw [hT]]
  clear hT
  go_wp2
  go_loopg [5, 6] L (fun kx s5 s6 wr => ∃ (k : Nat) (v : Value), v = s5 ∧ s6 = .int .i64 k ∧ k ≤ L ∧ L - k ≤ kx ∧ Hid (OwnR w wr v (witR (l.take k) d)))
  case atStart => exact ⟨0, _, rfl, rfl, by omega, by omega, Lib.hid (OwnR.nil (Fr.refl _ _))⟩
  case round =>
    obtain ⟨k, v, rfl, rfl, hk, hkx, HOw⟩ := hrel
    obtain ⟨wo, rfl⟩ : ∃ wo, wo = wr := ⟨wr, rfl⟩
    have HFo := Lib.hid HOw.out.2
    have wk := wrap_nat k (by omega)
    by_cases hlt : k < L
    · have hltz : (k : Int) < L := by omega
      obtain ⟨b, o, hB⟩ := HLI.out.someR (by rw [HLn.out]; omega)
      subst hB
      have l1 : (loadCellsFrom ⟨b, o + k * 33, none⟩ 0 n33 #[]).run Tryd.prog wo = .ok (refV l[k]!).toArray wo := load_ref HLI.out (rf_some (by rw [HLn.out]; omega)) HFo.out n33 HN.out
      have c0 : wo.cell? ⟨b, o + k * 33, none⟩ = some (.string (strB l[k]!.name)) := rname_at HLI.out (rf_some (by rw [HLn.out]; omega)) HFo.out
      have HSk := Lib.hid (HSn.out k hlt)
      have hul := HUl.out k
      obtain ⟨y, hy⟩ : ∃ y, l[k]! = y := ⟨_, rfl⟩
      rw [hy] at l1 c0 HSk
      have hbl := fun w => build_ref y w
      have heq := str_eq y.name d
      rw [HD.out] at heq
      obtain ⟨ul, hule⟩ : ∃ ul, witR (l.take k) d = ul := ⟨_, rfl⟩
      rw [hule] at hul HOw HSk
      obtain ⟨m, hm⟩ : ∃ m, ul.length = m := ⟨_, rfl⟩
      have HM := Lib.hid hm
      rw [hm] at hul
      obtain ⟨ca, hca⟩ : ∃ c, (refV y).toArray = c := ⟨_, rfl⟩
      have HCA := Lib.hid hca
      rw [hca] at l1 hbl
      have HBl := Lib.hid hbl
      obtain ⟨S, hS⟩ : ∃ S, strB y.name = S := ⟨_, rfl⟩
      rw [hS] at c0 heq
      obtain ⟨bu, hbu⟩ : ∃ b, (y.name == d) = b := ⟨_, rfl⟩
      rw [hbu] at heq HSk
      clear hy hS hca hule hm hbu hbl
      cases bu
      · have hne : ¬ S.toList = D.toList := by simpa using heq
        (
          go_wp2_with (first
            | (at_builtin; refine wpList_append_row _ rfl (.tmp 20) (.tmp 25) 22 22 rfl w.heap.size 50 i0 (.agg Z) 33 48 Tryd.underlying22 hi hz0 hz1 hz2 hz3 v m (flatR ul) rfl (by have := (HOw.out.fr ((Fr.refl (fun _ => False) wo).alloc (.cells ca 50))).1; rw [HM.out] at this; exact this) (.slice (some ⟨wo.heap.size, 0, none⟩) 1 1) 1 (flatR [y]) rfl (src_ref wo y ca HCA.out) (by unfold maxLen; omega) (by omega) (by have := HFo.out.size; simp; omega) ?_
               intro v' w4 o1 g1 at1
               have HO4 := Lib.hid ((HOw.out.fr ((Fr.refl (fun _ => False) wo).alloc (.cells ca 50))).grow (ks := ul ++ [y]) rfl HM.out.symm rfl o1 g1)
               obtain ⟨AO, cO, hvO, -⟩ := own_slice o1
               subst hvO
               clear o1 g1 at1)
            | (refine wpList_buildSlice_to rfl 22 1 _ rfl #[(0, .agg ca)] (by first | rfl | simp [Act.eval]) _ _ (HBl.out _) ?_)))
        go_roundg (L - (k + 1))
        case measure => omega
        case rel => exact ⟨k + 1, _, rfl, by go_num, by omega, Nat.le_refl _, Lib.hid (by rw [HSk.out]; simpa using HO4.out)⟩
      · (
        go_wp2_with (first
          | (at_builtin; refine wpList_append_row _ rfl (.tmp 20) (.tmp 25) 22 22 rfl w.heap.size 50 i0 (.agg Z) 33 48 Tryd.underlying22 hi hz0 hz1 hz2 hz3 v m (flatR ul) rfl (by have := (HOw.out.fr ((Fr.refl (fun _ => False) wo).alloc (.cells ca 50))).1; rw [HM.out] at this; exact this) (.slice (some ⟨wo.heap.size, 0, none⟩) 1 1) 1 (flatR [y]) rfl (src_ref wo y ca HCA.out) (by unfold maxLen; omega) (by omega) (by have := HFo.out.size; simp; omega) ?_
             intro v' w4 o1 g1 at1
             have HO4 := Lib.hid ((HOw.out.fr ((Fr.refl (fun _ => False) wo).alloc (.cells ca 50))).grow (ks := ul ++ [y]) rfl HM.out.symm rfl o1 g1)
             obtain ⟨AO, cO, hvO, -⟩ := own_slice o1
             subst hvO
             clear o1 g1 at1)
          | (refine wpList_buildSlice_to rfl 22 1 _ rfl #[(0, .agg ca)] (by first | rfl | simp [Act.eval]) _ _ (HBl.out _) ?_)))
        go_roundg (L - (k + 1))
        case measure => omega
        case rel => exact ⟨k + 1, _, rfl, by go_num, by omega, Nat.le_refl _, Lib.hid (by rw [HSk.out]; simpa using HOw.out)⟩
    · have hltz : ¬ ((k : Int) < L) := by omega
      obtain rfl : k = L := by omega
      have hfin : l.take k = l := List.take_of_length_le (by rw [HLn.out]; omega)
      rw [hfin] at HOw
      clear hfin
      obtain ⟨AO, cO, hvO, -⟩ := own_slice HOw.out.1
      subst hvO
      go_wp2_with fail
      go_ret
      exact ⟨_, rfl, HOw.out⟩

set_option maxHeartbeats 3200000 in
set_option maxRecDepth 100000 in
theorem QfDrop_any (A : Option Addr) (cap : Nat) (l : List Rf) (hn : l.length ≤ 100000) (x : List UInt8) (w : World) (h : Lies w A (flatR l)) :
    Calls Tryd.prog 20 #[.slice A l.length cap, .string (strB x)] w fun e w' => ∃ v, e = .returned (.tuple #[v, .int .i64 (dropO l x).2]) ∧ OwnR w w' v (dropO l x).1 := by
  have HCk := Lib.hid (QfCheck_any A cap l hn w h)
  have HFi := Lib.hid (fun (w' : World) (f : Fr (fun _ => False) w w') => QfFind_any A cap l hn x w' (h.fr f (fun _ _ e => e)))
  have HWi := Lib.hid (fun (w' : World) (f : Fr (fun _ => False) w w') => QfWithout_any A cap l hn x w' (h.fr f (fun _ _ e => e)))
  have HT : Hid (chkR l = 0 → TabR l) := Lib.hid (chkR_tab l).1
  have HS : Hid (dropO l x = if chkR l = 0 then (if hasR l x = true then (witR l x, 0) else ([], 35)) else ([], chkR l)) := Lib.hid rfl
  have HHf : Hid (TabR l → hasR l x = (findR l x).isSome) := Lib.hid (fun t => has_find t.rise)
  obtain ⟨c, hc⟩ : ∃ c, chkR l = c := ⟨_, rfl⟩
  have HIS := Lib.hid (idC_sz (optR (findR l x)).id)
  have HIA := Lib.hid (idC_al (optR (findR l x)).id)
  have hci := Ids.idC_size (Ids.dgt (optR (findR l x)).id)
  obtain ⟨ci, hcI⟩ : ∃ c, Ids.idC (Ids.dgt (optR (findR l x)).id) = c := ⟨_, rfl⟩
  obtain ⟨fb, hfb⟩ : ∃ b, (findR l x).isSome = b := ⟨_, rfl⟩
  rw [hcI] at hci HIS HIA HFi
  rw [hfb] at HFi HHf
  obtain ⟨L, hL⟩ : ∃ L, l.length = L := ⟨_, rfl⟩
  obtain ⟨X, hX⟩ : ∃ S, strB x = S := ⟨_, rfl⟩
  rw [hc, hL] at HCk
  rw [hL, hX] at HFi HWi
  rw [hc] at HT HS
  rw [hL, hX]
  clear h hc hL hX hn hcI hfb
  go_enter Tryd.func20, Tryd.ntmps20
  by_cases hc0 : c = 0
  · subst hc0
    have hh := HHf.out (HT.out rfl)
    rw [hh] at HS
    clear hh
    cases fb
    · go_wp2_with (first
        | (go_at_call 22; refine (HFi.out w2 F2.out).mono ?_; rintro e w4 ⟨rfl, b4⟩; have F4 := Lib.hid (F2.out.then_below b4); clear b4)
        | (refine wpList_store_at rfl 41 _ _ rfl w4.heap.size 0 41 Ids.zero32 ci rfl rfl (Whole.new w4 41 Ids.zero32) (by rw [hci]; decide) HIS.out HIA.out ?_
           intro w5 hw5 hf5
           have F5 := Lib.hid (F4.out.trans (((Fr.refl (fun _ => False) w4).alloc _).trans hf5 (fun i hi e => by omega)) (fun _ _ e => e))
           clear hw5 hf5)
        | (go_at_call 13; refine HCk.out.mono ?_; rintro e w2 ⟨rfl, b2⟩; have F2 := Lib.hid (Fr.of_below (S := fun _ => False) b2); clear b2))
      go_ret2
      have e : dropO l x = ([], 35) := by rw [HS.out]; simp
      rw [e]
      exact ⟨_, rfl, OwnR.nil F5.out⟩
    · go_wp2_with (first
        | (go_at_call 42; refine (HWi.out w5 F5.out).mono ?_; rintro e w6 ⟨vR, rfl, hoR⟩; have HoR := Lib.hid hoR; clear hoR)
        | (go_at_call 22; refine (HFi.out w2 F2.out).mono ?_; rintro e w4 ⟨rfl, b4⟩; have F4 := Lib.hid (F2.out.then_below b4); clear b4)
        | (refine wpList_store_at rfl 41 _ _ rfl w4.heap.size 0 41 Ids.zero32 ci rfl rfl (Whole.new w4 41 Ids.zero32) (by rw [hci]; decide) HIS.out HIA.out ?_
           intro w5 hw5 hf5
           have F5 := Lib.hid (F4.out.trans (((Fr.refl (fun _ => False) w4).alloc _).trans hf5 (fun i hi e => by omega)) (fun _ _ e => e))
           clear hw5 hf5)
        | (go_at_call 13; refine HCk.out.mono ?_; rintro e w2 ⟨rfl, b2⟩; have F2 := Lib.hid (Fr.of_below (S := fun _ => False) b2); clear b2))
      go_ret2
      have e : dropO l x = (witR l x, 0) := by rw [HS.out]; simp
      rw [e]
      exact ⟨_, rfl, HoR.out.down F5.out⟩
  · go_wp2_with (go_at_call 13; refine HCk.out.mono ?_; rintro e w2 ⟨rfl, b2⟩; have F2 := Lib.hid (Fr.of_below (S := fun _ => False) b2); clear b2)
    go_ret2
    have e : dropO l x = ([], c) := by rw [HS.out, if_neg hc0]
    rw [e]
    exact ⟨_, rfl, OwnR.nil F2.out⟩
end Go.Proofs.YtoakbdmfoepdgaaDoor

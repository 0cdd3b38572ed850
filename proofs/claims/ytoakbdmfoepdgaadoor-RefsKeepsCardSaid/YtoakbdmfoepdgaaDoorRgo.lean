/- What is proved: text as a table, by the program: whole. Conditions: the bytes are there, and not too many. -/
import Derived.Test.YtoakbdmfoepdgaaDoorRgn
namespace Go.Proofs.YtoakbdmfoepdgaaDoor
open Go.RowKit Go.Sort Go.Shelf
set_option linter.unusedVariables false

set_option maxHeartbeats 3200000 in
set_option maxRecDepth 100000 in
theorem RfGet_any (A : Option Addr) (cap : Nat) (b : List UInt8) (hn : b.length ≤ 50000) (w : World) (h : Lies w A (bytesV b)) :
    Calls Tryd.prog 14 #[.slice A b.length cap] w fun e w' => ∃ v, e = .returned (.tuple #[v, .int .i64 (getO b).2]) ∧ OwnR w w' v (getO b).1 := by
  obtain ⟨i0, hi, hz0, hz1, hz2⟩ := info_parts info_ref
  have hz3 := zeroR_cells
  obtain ⟨Z, hZ⟩ : ∃ Z, (refV default).toArray = Z := ⟨_, rfl⟩
  rw [hZ] at hz0 hz3
  have hcv := run_convert_lies (P := Tryd.prog) 24 9 5 Tryd.underlying24 Tryd.underlying5 Tryd.underlying9 h cap
  have HG : Hid (getO b = match getW b [] with | none => ([], 12) | some l => if chkR l = 0 then (l, 0) else ([], chkR l)) := Lib.hid rfl
  obtain ⟨S, hS⟩ : ∃ S, strB b = S := ⟨_, rfl⟩
  have HS := Lib.hid hS
  rw [hS] at hcv
  obtain ⟨L, hL⟩ : ∃ L, b.length = L := ⟨_, rfl⟩
  have HLn := Lib.hid hL
  rw [hL] at hn hcv ⊢
  obtain ⟨T, hT⟩ : ∃ T : TypeId, T = 50 := ⟨_, rfl⟩
  obtain ⟨n33, h33⟩ : ∃ n : Nat, n = 33 := ⟨_, rfl⟩
  have ag33 : ∀ w, (isAgg T).run Tryd.prog w = .ok true w := by rw [hT]; exact fun _ => by kernel_rfl
  have sz33 : ∀ w, (sizeOf T).run Tryd.prog w = .ok n33 w := by rw [hT, h33]; exact fun _ => by kernel_rfl
  have HN := Lib.hid h33
  clear h hL h33 hZ hS
  go_enter Tryd.func14, Tryd.ntmps14
  rw [show Op.load 50 (.tmp 9) = Op.load T (.tmp 9) by rw [hT]]
  clear hT
  go_wp2
  go_loopg [4, 5] L (fun kx s4 s5 wr => ∃ (lw : List UInt8) (acc : List Rf) (v : Value) (S0 : ByteArray), v = s4 ∧ s5 = .string S0 ∧ lw.length ≤ kx ∧ acc.length + lw.length ≤ L ∧ Hid (strB lw = S0) ∧ Hid (OwnR w wr v acc) ∧ Hid (getW b [] = getW lw acc))
  case atStart => exact ⟨b, [], _, _, rfl, rfl, by rw [HLn.out]; exact Nat.le_refl _, by rw [HLn.out]; simp, HS, Lib.hid (OwnR.nil (Fr.refl _ _)), Lib.hid rfl⟩
  case round =>
    obtain ⟨lw, acc, v, S0, rfl, rfl, hkx, hal, HS0, HOw, HB⟩ := hrel
    obtain ⟨wo, rfl⟩ : ∃ wo, wo = wr := ⟨wr, rfl⟩
    have HFo := Lib.hid HOw.out.2
    have hemp : S0.toList = lw := by rw [← HS0.out]; exact strB_list lw
    by_cases hne : lw = []
    · have HF : Hid (getW b [] = some acc) := Lib.hid (by rw [HB.out, hne, getW_nil])
      have hS0 : S0 = { data := #[] } := by rw [← HS0.out, hne]; rfl
      subst hS0
      obtain ⟨A4, c4, hv4, hc4, hl4, hf4⟩ := HOw.out.form rfl
      have HCk := Lib.hid (RfCheck_any A4 c4 acc (by omega) hc4 wo hl4)
      obtain ⟨c, hc⟩ : ∃ c, chkR acc = c := ⟨_, rfl⟩
      rw [hc] at HCk
      have HC := Lib.hid hc
      obtain ⟨m, hm⟩ : ∃ m, acc.length = m := ⟨_, rfl⟩
      rw [hm] at hv4 HCk
      subst hv4
      clear hc4 hl4 hf4 hc hm hemp hne hkx hal
      by_cases hc0 : c = 0
      · subst hc0
        go_wp2_with (go_at_call 12; refine HCk.out.mono ?_; rintro e w2 ⟨rfl, b2⟩; have F2 := Lib.hid (Fr.of_below (S := fun _ => False) b2); clear b2)
        go_ret2
        have e : getO b = (acc, 0) := by rw [HG.out, HF.out]; simp [HC.out]
        rw [e]
        exact ⟨_, rfl, HOw.out.fr F2.out⟩
      · go_wp2_with (go_at_call 12; refine HCk.out.mono ?_; rintro e w2 ⟨rfl, b2⟩; have F2 := Lib.hid (Fr.of_below (S := fun _ => False) b2); clear b2)
        go_ret2
        have e : getO b = ([], c) := by rw [HG.out, HF.out]; simp [HC.out, hc0]
        rw [e]
        exact ⟨_, rfl, OwnR.nil (HFo.out.trans F2.out (fun _ _ e => e))⟩
    · have hne1 : ¬ S0.toList = [] := by rw [hemp]; exact hne
      have hne2 : S0.toList.isEmpty = false := by rw [hemp]; simpa using hne
      have hne3 : (S0.toList == []) = false := by rw [hemp]; simpa using hne
      have HNe := Lib.hid hne
      have hlw : lw.length ≤ 50000 := by omega
      have HCt := Lib.hid (fun w => GstrCut_any lw (by omega) w)
      have HTk := Lib.hid (fun w => RfTake_any (lnA lw) (by have := lnA_len lw; omega) w)
      have hcs := refV_size (mkT (lnA lw))
      have HO := Lib.hid (refV_all (mkT (lnA lw)))
      have hbl := fun w => build_ref (mkT (lnA lw)) w
      have HLB : Hid (has10 lw = true → (lnB lw).length + 1 ≤ lw.length) := Lib.hid (fun h => by
        rcases idx10_cases lw with ⟨_, _, h1, _⟩ | ⟨m, _, hm, _, _, _, _, h2⟩
        · rw [h1] at h; cases h
        · rw [h2, List.length_drop]; omega)
      obtain ⟨cx, hcx⟩ : ∃ c, (refV (mkT (lnA lw))).toArray = c := ⟨_, rfl⟩
      have HCX := Lib.hid hcx
      rw [hcx] at hcs HO hbl HTk
      have HBl := Lib.hid hbl
      obtain ⟨b1, hb1⟩ : ∃ x, has10 lw = x := ⟨_, rfl⟩
      have HB1 := Lib.hid hb1
      obtain ⟨b2, hb2⟩ : ∃ x, okT (lnA lw) = x := ⟨_, rfl⟩
      have HB2 := Lib.hid hb2
      obtain ⟨S1, hS1⟩ : ∃ S, strB (lnA lw) = S := ⟨_, rfl⟩
      obtain ⟨S2, hS2⟩ : ∃ S, strB (lnB lw) = S := ⟨_, rfl⟩
      have HS2 := Lib.hid hS2
      rw [HS0.out, hb1, hS1, hS2, show strB [10] = { data := #[10] } from rfl] at HCt
      rw [hb2, hS1] at HTk
      obtain ⟨m, hm⟩ : ∃ m, acc.length = m := ⟨_, rfl⟩
      have HM := Lib.hid hm
      have hm2 : m ≤ 50000 := by omega
      clear hcx hbl hb1 hb2 hS1 hS2 hne hm hemp
      cases b1
      · (
        go_wp2_with (first
          | (at_builtin; refine wpList_append_row _ rfl (.tmp 33) (.tmp 35) 22 22 rfl w.heap.size 50 i0 (.agg Z) 33 48 Tryd.underlying22 hi hz0 hz1 hz2 hz3 v m (flatR acc) rfl (by have := ((HOw.out.fr F5.out).fr ((Fr.refl (fun _ => False) w5).alloc (.cells cx 50))).1; rw [HM.out] at this; exact this) (.slice (some ⟨w5.heap.size, 0, none⟩) 1 1) 1 (flatR [mkT (lnA lw)]) rfl (src_ref w5 (mkT (lnA lw)) cx HCX.out) (by unfold maxLen; omega) (by omega) (by have := HFo.out.size; have := F5.out.size; simp; omega) ?_
             intro v' w6 o1 g1 at1
             have HO6 := Lib.hid (((HOw.out.fr F5.out).fr ((Fr.refl (fun _ => False) w5).alloc (.cells cx 50))).grow (ks := acc ++ [mkT (lnA lw)]) rfl HM.out.symm rfl o1 g1)
             obtain ⟨AO, cO, hvO, -⟩ := own_slice o1
             subst hvO
             clear o1 g1 at1)
          | (refine wpList_buildSlice_to rfl 22 1 _ rfl #[(0, .agg cx)] (by first | rfl | simp [Act.eval]) _ _ (HBl.out _) ?_)
          | (go_at_call 37; refine (HTk.out w3).mono ?_; rintro e w4 ⟨rfl, b4⟩; have F4 := Lib.hid (F3.out.then_below b4); clear b4)
          | (go_at_call 36; refine (HCt.out wo).mono ?_; rintro e w3 ⟨rfl, b3⟩; have F3 := Lib.hid (Fr.of_below (S := fun _ => False) b3); clear b3)
          | (refine wpList_store_at rfl 50 _ _ rfl w4.heap.size 0 50 zeroR cx rfl rfl (Whole.new w4 50 zeroR) (by rw [zeroR_size, hcs]; exact Nat.le_refl _) (by rw [hcs]; exact size_ref) HO.out ?_
             intro w5 hw5 hf5
             rw [laidAt_all _ _ (by rw [zeroR_size, hcs])] at hw5
             have l5 := load_whole3 hw5 n33 (by rw [HN.out, hcs])
             have F5 := Lib.hid (F4.out.trans (((Fr.refl (fun _ => False) w4).alloc _).trans hf5 (fun i hi e => by omega)) (fun _ _ e => e))
             clear hw5 hf5)))
        (try simp only [Exit.inBlock, Exit.then])
        go_ret2
        have e : getO b = ([], 12) := by rw [HG.out, HB.out, getW_bad acc HNe.out (by rw [HB1.out]; rfl)]
        rw [e]
        exact ⟨_, rfl, OwnR.nil (HFo.out.trans F5.out (fun _ _ e => e))⟩
      · cases b2
        · (
          go_wp2_with (first
            | (at_builtin; refine wpList_append_row _ rfl (.tmp 33) (.tmp 35) 22 22 rfl w.heap.size 50 i0 (.agg Z) 33 48 Tryd.underlying22 hi hz0 hz1 hz2 hz3 v m (flatR acc) rfl (by have := ((HOw.out.fr F5.out).fr ((Fr.refl (fun _ => False) w5).alloc (.cells cx 50))).1; rw [HM.out] at this; exact this) (.slice (some ⟨w5.heap.size, 0, none⟩) 1 1) 1 (flatR [mkT (lnA lw)]) rfl (src_ref w5 (mkT (lnA lw)) cx HCX.out) (by unfold maxLen; omega) (by omega) (by have := HFo.out.size; have := F5.out.size; simp; omega) ?_
               intro v' w6 o1 g1 at1
               have HO6 := Lib.hid (((HOw.out.fr F5.out).fr ((Fr.refl (fun _ => False) w5).alloc (.cells cx 50))).grow (ks := acc ++ [mkT (lnA lw)]) rfl HM.out.symm rfl o1 g1)
               obtain ⟨AO, cO, hvO, -⟩ := own_slice o1
               subst hvO
               clear o1 g1 at1)
            | (refine wpList_buildSlice_to rfl 22 1 _ rfl #[(0, .agg cx)] (by first | rfl | simp [Act.eval]) _ _ (HBl.out _) ?_)
            | (go_at_call 37; refine (HTk.out w3).mono ?_; rintro e w4 ⟨rfl, b4⟩; have F4 := Lib.hid (F3.out.then_below b4); clear b4)
            | (go_at_call 36; refine (HCt.out wo).mono ?_; rintro e w3 ⟨rfl, b3⟩; have F3 := Lib.hid (Fr.of_below (S := fun _ => False) b3); clear b3)
            | (refine wpList_store_at rfl 50 _ _ rfl w4.heap.size 0 50 zeroR cx rfl rfl (Whole.new w4 50 zeroR) (by rw [zeroR_size, hcs]; exact Nat.le_refl _) (by rw [hcs]; exact size_ref) HO.out ?_
               intro w5 hw5 hf5
               rw [laidAt_all _ _ (by rw [zeroR_size, hcs])] at hw5
               have l5 := load_whole3 hw5 n33 (by rw [HN.out, hcs])
               have F5 := Lib.hid (F4.out.trans (((Fr.refl (fun _ => False) w4).alloc _).trans hf5 (fun i hi e => by omega)) (fun _ _ e => e))
               clear hw5 hf5)))
          (try simp only [Exit.inBlock, Exit.then])
          go_ret2
          have e : getO b = ([], 12) := by rw [HG.out, HB.out, getW_bad acc HNe.out (by rw [HB2.out, Bool.and_false])]
          rw [e]
          exact ⟨_, rfl, OwnR.nil (HFo.out.trans F5.out (fun _ _ e => e))⟩
        · have hlb := HLB.out HB1.out
          (
            go_wp2_with (first
              | (at_builtin; refine wpList_append_row _ rfl (.tmp 33) (.tmp 35) 22 22 rfl w.heap.size 50 i0 (.agg Z) 33 48 Tryd.underlying22 hi hz0 hz1 hz2 hz3 v m (flatR acc) rfl (by have := ((HOw.out.fr F5.out).fr ((Fr.refl (fun _ => False) w5).alloc (.cells cx 50))).1; rw [HM.out] at this; exact this) (.slice (some ⟨w5.heap.size, 0, none⟩) 1 1) 1 (flatR [mkT (lnA lw)]) rfl (src_ref w5 (mkT (lnA lw)) cx HCX.out) (by unfold maxLen; omega) (by omega) (by have := HFo.out.size; have := F5.out.size; simp; omega) ?_
                 intro v' w6 o1 g1 at1
                 have HO6 := Lib.hid (((HOw.out.fr F5.out).fr ((Fr.refl (fun _ => False) w5).alloc (.cells cx 50))).grow (ks := acc ++ [mkT (lnA lw)]) rfl HM.out.symm rfl o1 g1)
                 obtain ⟨AO, cO, hvO, -⟩ := own_slice o1
                 subst hvO
                 clear o1 g1 at1)
              | (refine wpList_buildSlice_to rfl 22 1 _ rfl #[(0, .agg cx)] (by first | rfl | simp [Act.eval]) _ _ (HBl.out _) ?_)
              | (go_at_call 37; refine (HTk.out w3).mono ?_; rintro e w4 ⟨rfl, b4⟩; have F4 := Lib.hid (F3.out.then_below b4); clear b4)
              | (go_at_call 36; refine (HCt.out wo).mono ?_; rintro e w3 ⟨rfl, b3⟩; have F3 := Lib.hid (Fr.of_below (S := fun _ => False) b3); clear b3)
              | (refine wpList_store_at rfl 50 _ _ rfl w4.heap.size 0 50 zeroR cx rfl rfl (Whole.new w4 50 zeroR) (by rw [zeroR_size, hcs]; exact Nat.le_refl _) (by rw [hcs]; exact size_ref) HO.out ?_
                 intro w5 hw5 hf5
                 rw [laidAt_all _ _ (by rw [zeroR_size, hcs])] at hw5
                 have l5 := load_whole3 hw5 n33 (by rw [HN.out, hcs])
                 have F5 := Lib.hid (F4.out.trans (((Fr.refl (fun _ => False) w4).alloc _).trans hf5 (fun i hi e => by omega)) (fun _ _ e => e))
                 clear hw5 hf5)))
          go_roundg (lw.length - 1)
          case measure => omega
          case rel => exact ⟨lnB lw, acc ++ [mkT (lnA lw)], _, S2, rfl, rfl, by omega, by rw [List.length_append]; simp; omega, HS2, HO6, Lib.hid (by rw [HB.out, getW_step acc HNe.out HB1.out HB2.out])⟩
end Go.Proofs.YtoakbdmfoepdgaaDoor

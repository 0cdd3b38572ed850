/- What is proved: a ref is set, by the document. Conditions: the list's cells are there. -/
import Derived.Test.YtoakbdmfoepdgaaDoorRgj
namespace Go.Proofs.YtoakbdmfoepdgaaDoor
open Go.RowKit Go.Sort Go.Shelf
set_option linter.unusedVariables false

set_option maxHeartbeats 3200000 in
set_option maxRecDepth 100000 in
theorem QfSet_any (A : Option Addr) (cap : Nat) (l : List Rf) (hn : l.length ≤ 1000) (x : Rf) (w : World) (h : Lies w A (flatR l)) :
    Calls Tryd.prog 18 #[.slice A l.length cap, .string (strB x.name), .agg (Ids.idC (Ids.dgt x.id))] w fun e w' => ∃ v, e = .returned (.tuple #[v, .int .i64 (setO l x).2]) ∧ OwnR w w' v (setO l x).1 := by
  obtain ⟨i0, hi, hz0, hz1, hz2⟩ := info_parts info_ref
  have hz3 := zeroR_cells
  obtain ⟨Z, hZ⟩ : ∃ Z, (refV default).toArray = Z := ⟨_, rfl⟩
  rw [hZ] at hz0 hz3
  have HCk := Lib.hid (fun (w' : World) (f : Fr (fun _ => False) w w') => QfCheck_any A cap l (by omega) w' (h.fr f (fun _ _ e => e)))
  have HRt := Lib.hid (fun w => QrRight_all x.name w)
  have HWi := Lib.hid (fun (w' : World) (f : Fr (fun _ => False) w w') => QfWithout_any A cap l (by omega) x.name w' (h.fr f (fun _ _ e => e)))
  have HS : Hid (setO l x = if chkR l = 0 then (if rightB x.name = true then (if (witR l x.name).length = 64 then ([], 5) else (setL l x, 0)) else ([], 15)) else ([], chkR l)) := Lib.hid rfl
  have HSL : Hid (setL l x = (witR l x.name).take (plcR (witR l x.name) x.name) ++ x :: (witR l x.name).drop (plcR (witR l x.name) x.name)) := Lib.hid rfl
  have hwl := witR_len l x.name l.length
  rw [List.take_length] at hwl
  have hci := Ids.idC_size (Ids.dgt x.id)
  have hbr := fun w => build_rfS x w
  have hbl := fun w => build_ref x w
  obtain ⟨c, hc⟩ : ∃ c, chkR l = c := ⟨_, rfl⟩
  obtain ⟨r, hr⟩ : ∃ r, rightB x.name = r := ⟨_, rfl⟩
  obtain ⟨L, hL⟩ : ∃ L, l.length = L := ⟨_, rfl⟩
  obtain ⟨W, hW⟩ : ∃ W, witR l x.name = W := ⟨_, rfl⟩
  rw [hW] at hwl HS HWi HSL
  obtain ⟨m, hm⟩ : ∃ m, W.length = m := ⟨_, rfl⟩
  have HWl := Lib.hid hm
  rw [hm] at hwl HS
  have HD := Lib.hid (plcR_step W x.name)
  rw [hm] at HD
  obtain ⟨X, hX⟩ : ∃ S, strB x.name = S := ⟨_, rfl⟩
  have HX := Lib.hid hX
  obtain ⟨ci, hcI⟩ : ∃ c, Ids.idC (Ids.dgt x.id) = c := ⟨_, rfl⟩
  obtain ⟨cx, hcx⟩ : ∃ c, (refV x).toArray = c := ⟨_, rfl⟩
  have HCX := Lib.hid hcx
  rw [hX, hcI, hcx] at hbr
  rw [hcx] at hbl
  rw [hcI] at hci
  rw [hc, hL] at HCk
  rw [hX, hr] at HRt
  rw [hL, hX] at HWi
  rw [hc, hr] at HS
  rw [hL] at hn hwl
  rw [hL, hX, hcI]
  have HBr := Lib.hid hbr
  have HBl := Lib.hid hbl
  clear h hc hr hL hW hm hX hcI hcx hbr hbl hZ
  obtain ⟨w1, hw1⟩ : ∃ w1, w.alloc (.cells ci 41) = w1 := ⟨_, rfl⟩
  have HZ1 := Lib.hid (show Whole w1 w.heap.size 41 ci from by subst hw1; exact Whole.new w 41 ci)
  have F1 := Lib.hid (show Fr (fun _ => False) w w1 from by subst hw1; exact (Fr.refl (fun _ => False) w).alloc _)
  obtain ⟨T, hT⟩ : ∃ T : TypeId, T = 41 := ⟨_, rfl⟩
  obtain ⟨n32, h32⟩ : ∃ n : Nat, n = 32 := ⟨_, rfl⟩
  have ag32 : ∀ w, (isAgg T).run Tryd.prog w = .ok true w := by rw [hT]; exact fun _ => by kernel_rfl
  have sz32 : ∀ w, (sizeOf T).run Tryd.prog w = .ok n32 w := by rw [hT, h32]; exact fun _ => by kernel_rfl
  have HN := Lib.hid h32
  have HId : Hid (∀ w', Fr (fun _ => False) w1 w' → (loadCellsFrom ⟨w.heap.size, 0, none⟩ 0 n32 #[]).run Tryd.prog w' = .ok ci w') := Lib.hid (fun w' f => by
    have h2 := run_loadCells_list (P := Tryd.prog) w' ⟨w.heap.size, 0, none⟩ ci.toList (fun j v hv => by rw [add_off, Nat.zero_add, (HZ1.out.fr f (fun e => e)).cell]; simpa using hv)
    rw [Array.length_toList, hci] at h2
    rw [HN.out]
    simpa [loadCells] using h2)
  clear h32
  go_enter Tryd.func18, Tryd.ntmps18
  rw [show Op.load 41 (.tmp 5) = Op.load T (.tmp 5) by rw [hT]]
  clear hT
  by_cases hc0 : c = 0
  · subst hc0
    cases r
    · go_wp2_with ((
      (first
        | (go_at_call 42; refine (HWi.out w3 F3.out).mono ?_; rintro e w4 ⟨vT, rfl, hoT⟩
           have F4 := Lib.hid (F3.out.trans hoT.2 (fun _ _ e => e))
           have G4 := Lib.hid (G3.out.trans hoT.2 (fun _ _ e => e))
           obtain ⟨A9, c9, hv9, hnc9, hcm9, hA9, hl9⟩ := hoT.slice
           rw [HWl.out] at hv9 hnc9
           subst hv9
           have HA9 := Lib.hid hA9
           have HL9 := Lib.hid hl9
           have HC9 := Lib.hid hnc9
           clear hoT hA9 hl9 hnc9 hcm9)
        | (go_at_call 35; refine (HRt.out w2).mono ?_; rintro e w3 ⟨rfl, b3⟩; have F3 := Lib.hid (F2.out.then_below b3); have G3 := Lib.hid (G2.out.then_below b3); clear b3)
        | (go_at_call 13; refine (HCk.out w1 F1.out).mono ?_; rintro e w2 ⟨rfl, b2⟩; have F2 := Lib.hid (F1.out.then_below b2); have G2 := Lib.hid (Fr.of_below (S := fun _ => False) b2); clear b2))))
      go_ret2
      have e : setO l x = ([], 15) := by rw [HS.out]; simp
      rw [e]
      exact ⟨_, rfl, OwnR.nil F3.out⟩
    · by_cases h64 : m = 64
      · have h64z : (m : Int) = 64 := by omega
        go_wp2_with ((
          (first
            | (go_at_call 42; refine (HWi.out w3 F3.out).mono ?_; rintro e w4 ⟨vT, rfl, hoT⟩
               have F4 := Lib.hid (F3.out.trans hoT.2 (fun _ _ e => e))
               have G4 := Lib.hid (G3.out.trans hoT.2 (fun _ _ e => e))
               obtain ⟨A9, c9, hv9, hnc9, hcm9, hA9, hl9⟩ := hoT.slice
               rw [HWl.out] at hv9 hnc9
               subst hv9
               have HA9 := Lib.hid hA9
               have HL9 := Lib.hid hl9
               have HC9 := Lib.hid hnc9
               clear hoT hA9 hl9 hnc9 hcm9)
            | (go_at_call 35; refine (HRt.out w2).mono ?_; rintro e w3 ⟨rfl, b3⟩; have F3 := Lib.hid (F2.out.then_below b3); have G3 := Lib.hid (G2.out.then_below b3); clear b3)
            | (go_at_call 13; refine (HCk.out w1 F1.out).mono ?_; rintro e w2 ⟨rfl, b2⟩; have F2 := Lib.hid (F1.out.then_below b2); have G2 := Lib.hid (Fr.of_below (S := fun _ => False) b2); clear b2))))
        go_ret2
        have e : setO l x = ([], 5) := by rw [HS.out, if_pos h64]; simp
        rw [e]
        exact ⟨_, rfl, OwnR.nil F4.out⟩
      · have h64z : ¬ (m : Int) = 64 := by omega
        have h64b : ((m : Int) == 64) = false := by simpa using h64z
        go_wp2_with ((
          (first
            | (go_at_call 42; refine (HWi.out w3 F3.out).mono ?_; rintro e w4 ⟨vT, rfl, hoT⟩
               have F4 := Lib.hid (F3.out.trans hoT.2 (fun _ _ e => e))
               have G4 := Lib.hid (G3.out.trans hoT.2 (fun _ _ e => e))
               obtain ⟨A9, c9, hv9, hnc9, hcm9, hA9, hl9⟩ := hoT.slice
               rw [HWl.out] at hv9 hnc9
               subst hv9
               have HA9 := Lib.hid hA9
               have HL9 := Lib.hid hl9
               have HC9 := Lib.hid hnc9
               clear hoT hA9 hl9 hnc9 hcm9)
            | (go_at_call 35; refine (HRt.out w2).mono ?_; rintro e w3 ⟨rfl, b3⟩; have F3 := Lib.hid (F2.out.then_below b3); have G3 := Lib.hid (G2.out.then_below b3); clear b3)
            | (go_at_call 13; refine (HCk.out w1 F1.out).mono ?_; rintro e w2 ⟨rfl, b2⟩; have F2 := Lib.hid (F1.out.then_below b2); have G2 := Lib.hid (Fr.of_below (S := fun _ => False) b2); clear b2))))
        go_loopg [10] m (fun kx s10 wr => ∃ k : Nat, s10 = .int .i64 k ∧ k ≤ m ∧ m - k ≤ kx ∧ Fr (fun _ => False) w4 wr ∧ Hid (plcR W x.name = k + plcR (W.drop k) x.name))
        case atStart => exact ⟨0, rfl, by omega, by omega, Fr.refl _ _, Lib.hid (by simp)⟩
        case round =>
          obtain ⟨k, rfl, hk, hkx, hf, HB⟩ := hrel
          obtain ⟨wo, rfl⟩ : ∃ wo, wo = wr := ⟨wr, rfl⟩
          have HFo := Lib.hid hf
          clear hf
          have wk := wrap_nat k (by omega)
          by_cases hlt : k < m
          · have hltz : (k : Int) < m := by omega
            obtain ⟨b, o, hB⟩ := HL9.out.someR (by rw [HWl.out]; omega)
            subst hB
            have c0 : wo.cell? ⟨b, o + k * 33, none⟩ = some (.string (strB W[k]!.name)) := rname_at HL9.out (rf_some (by rw [HWl.out]; omega)) HFo.out
            have HDk := Lib.hid (HD.out k hlt)
            have hls := lt_str W[k]!.name x.name
            rw [HX.out] at hls
            obtain ⟨S, hS⟩ : ∃ S, strB W[k]!.name = S := ⟨_, rfl⟩
            rw [hS] at c0 hls
            obtain ⟨bq, hbq⟩ : ∃ b, ltB W[k]!.name x.name = b := ⟨_, rfl⟩
            rw [hbq] at hls HDk
            clear hS hbq
            cases bq
            · have HP : Hid (plcR W x.name = k) := Lib.hid (by rw [HB.out, HDk.out]; simp)
              (
                have s1 : ∀ w, (Instr.slice 22 (.slice (some ⟨b, o, none⟩) m c9) none (some (.int .i64 k)) none).run Tryd.prog w = .ok (.slice (some ⟨b, o, none⟩) k c9) w := fun w => slice_hdR _ HA9.out m c9 k (by have := HC9.out; omega) w
                have s2 : ∀ w, (Instr.slice 22 (.slice (some ⟨b, o, none⟩) m c9) (some (.int .i64 k)) none none).run Tryd.prog w = .ok (.slice (tlR (some ⟨b, o, none⟩) c9 k) (m - k) (c9 - k)) w := fun w => slice_tlR _ m c9 k (by omega) w
                have HS1 : Hid (∀ w', Fr (fun _ => False) w4 w' → Src Tryd.prog 33 22 (.slice (some ⟨b, o, none⟩) k c9) k (flatR (W.take k)) w') := Lib.hid (fun w' f => ((HL9.out.fr f (fun _ _ e => e)).takeR k).src33 (by rw [List.length_take, HWl.out]; omega) _)
                have HS2 : Hid (∀ w', Fr (fun _ => False) w4 w' → Src Tryd.prog 33 22 (.slice (tlR (some ⟨b, o, none⟩) c9 k) (m - k) (c9 - k)) (m - k) (flatR (W.drop k)) w') := Lib.hid (fun w' f => ((HL9.out.fr f (fun _ _ e => e)).tlR c9 k (by rw [HWl.out]; exact HC9.out)).src33 (by rw [List.length_drop, HWl.out]) _)
                obtain ⟨A10, hA10⟩ : ∃ A, tlR (some ⟨b, o, none⟩) c9 k = A := ⟨_, rfl⟩
                rw [hA10] at s2 HS2
                have HTk : Hid (k = (W.take k).length) := Lib.hid (by rw [List.length_take, HWl.out]; omega)
                have HDr : Hid (m - k = (W.drop k).length) := Lib.hid (by rw [List.length_drop, HWl.out])
                have hk2 : k ≤ 1000 := by omega
                clear hA10
                go_wp2_with (first
                  | (have _ := M2
                     at_builtin; refine wpList_append_row _ rfl (.tmp 52) (.tmp 55) 22 22 rfl wo.heap.size 50 i0 (.agg Z) 33 48 Tryd.underlying22 hi hz0 hz1 hz2 hz3 (.slice A7 (k + 1) c7) (k + 1) (flatR (W.take k ++ [x])) rfl (by have := HO7.out.1; rw [List.length_append, ← HTk.out] at this; exact this) (.slice A10 (m - k) (c9 - k)) (m - k) (flatR (W.drop k)) rfl (HS2.out w7 (HFo.out.trans HO7.out.2 (fun _ _ e => e))) (by unfold maxLen; omega) (by omega) HO7.out.2.size ?_
                     intro v8 w8 o1 g1 at1
                     have HO8 := Lib.hid (HO7.out.grow (ks := (W.take k ++ [x]) ++ W.drop k) rfl (by rw [List.length_append, ← HTk.out]; rfl) HDr.out o1 g1)
                     clear o1 g1 at1)
                  | (have _ := M1
                     at_builtin; refine wpList_append_row _ rfl (.tmp 46) (.tmp 50) 22 22 rfl wo.heap.size 50 i0 (.agg Z) 33 48 Tryd.underlying22 hi hz0 hz1 hz2 hz3 (.slice A6 k c6) k (flatR (W.take k)) rfl (by have := (HO6.out.fr ((Fr.refl (fun _ => False) w6).alloc (.cells cx 50))).1; rw [← HTk.out] at this; exact this) (.slice (some ⟨w6.heap.size, 0, none⟩) 1 1) 1 (flatR [x]) rfl (src_ref w6 x cx HCX.out) (by unfold maxLen; omega) (by omega) (by have := HO6.out.2.size; simp; omega) ?_
                     intro v7 w7 o1 g1 at1
                     have HO7 := Lib.hid ((HO6.out.fr ((Fr.refl (fun _ => False) w6).alloc (.cells cx 50))).grow (ks := W.take k ++ [x]) rfl HTk.out rfl o1 g1)
                     obtain ⟨A7, c7, hv7, -⟩ := own_slice o1
                     subst hv7
                     have M2 := True.intro
                     clear o1 g1 at1)
                  | (at_builtin; refine wpList_append_row _ rfl (.tmp 41) (.tmp 44) 22 22 rfl wo.heap.size 50 i0 (.agg Z) 33 48 Tryd.underlying22 hi hz0 hz1 hz2 hz3 (.slice none 0 0) 0 [] rfl (World.ownsRow_nil wo wo.heap.size 50 33) (.slice (some ⟨b, o, none⟩) k c9) k (flatR (W.take k)) rfl (HS1.out wo HFo.out) (by unfold maxLen; omega) (by omega) (Nat.le_refl _) ?_
                     intro v6 w6 o1 g1 at1
                     have HO6 := Lib.hid ((OwnR.nil (Fr.refl (fun _ => False) wo)).grow (ks := W.take k) rfl (n := 0) rfl HTk.out o1 g1)
                     obtain ⟨A6, c6, hv6, -⟩ := own_slice o1
                     rw [Nat.zero_add] at hv6
                     subst hv6
                     have l6 := HId.out w6 ((G4.out.trans HFo.out (fun _ _ e => e)).trans HO6.out.2 (fun _ _ e => e))
                     have M1 := True.intro
                     clear o1 g1 at1)
                  | (refine wpList_buildSlice_to rfl 22 1 _ rfl #[(0, .agg cx)] (by simp [Act.eval, Act.put]) _ _ (HBl.out _) ?_)
                  | (refine wpList_build_to rfl 50 _ rfl #[(0, .string X), (1, .agg ci)] (by first | rfl | simp [Act.eval]) (.agg cx) (HBr.out _) ?_))
                go_ret2
                have e : setO l x = (setL l x, 0) := by rw [HS.out, if_neg h64]; simp
                rw [e, HSL.out, HP.out]
                have h1 := HO8.out.down (F4.out.trans HFo.out (fun _ _ e => e))
                rw [List.append_assoc] at h1
                exact ⟨_, rfl, h1⟩)
            · go_wp2_with fail
              go_roundg (m - (k + 1))
              case measure => omega
              case rel => exact ⟨k + 1, by go_num, by omega, Nat.le_refl _, HFo.out, Lib.hid (by rw [HB.out, HDk.out]; simp; omega)⟩
          · have hltz : ¬ ((k : Int) < m) := by omega
            have HP : Hid (plcR W x.name = k) := Lib.hid (by rw [HB.out, List.drop_of_length_le (by rw [HWl.out]; omega)]; rfl)
            (
              have s1 : ∀ w, (Instr.slice 22 (.slice A9 m c9) none (some (.int .i64 k)) none).run Tryd.prog w = .ok (.slice A9 k c9) w := fun w => slice_hdR _ HA9.out m c9 k (by have := HC9.out; omega) w
              have s2 : ∀ w, (Instr.slice 22 (.slice A9 m c9) (some (.int .i64 k)) none none).run Tryd.prog w = .ok (.slice (tlR A9 c9 k) (m - k) (c9 - k)) w := fun w => slice_tlR _ m c9 k (by omega) w
              have HS1 : Hid (∀ w', Fr (fun _ => False) w4 w' → Src Tryd.prog 33 22 (.slice A9 k c9) k (flatR (W.take k)) w') := Lib.hid (fun w' f => ((HL9.out.fr f (fun _ _ e => e)).takeR k).src33 (by rw [List.length_take, HWl.out]; omega) _)
              have HS2 : Hid (∀ w', Fr (fun _ => False) w4 w' → Src Tryd.prog 33 22 (.slice (tlR A9 c9 k) (m - k) (c9 - k)) (m - k) (flatR (W.drop k)) w') := Lib.hid (fun w' f => ((HL9.out.fr f (fun _ _ e => e)).tlR c9 k (by rw [HWl.out]; exact HC9.out)).src33 (by rw [List.length_drop, HWl.out]) _)
              obtain ⟨A10, hA10⟩ : ∃ A, tlR A9 c9 k = A := ⟨_, rfl⟩
              rw [hA10] at s2 HS2
              have HTk : Hid (k = (W.take k).length) := Lib.hid (by rw [List.length_take, HWl.out]; omega)
              have HDr : Hid (m - k = (W.drop k).length) := Lib.hid (by rw [List.length_drop, HWl.out])
              have hk2 : k ≤ 1000 := by omega
              clear hA10
              go_wp2_with (first
                | (have _ := M2
                   at_builtin; refine wpList_append_row _ rfl (.tmp 52) (.tmp 55) 22 22 rfl wo.heap.size 50 i0 (.agg Z) 33 48 Tryd.underlying22 hi hz0 hz1 hz2 hz3 (.slice A7 (k + 1) c7) (k + 1) (flatR (W.take k ++ [x])) rfl (by have := HO7.out.1; rw [List.length_append, ← HTk.out] at this; exact this) (.slice A10 (m - k) (c9 - k)) (m - k) (flatR (W.drop k)) rfl (HS2.out w7 (HFo.out.trans HO7.out.2 (fun _ _ e => e))) (by unfold maxLen; omega) (by omega) HO7.out.2.size ?_
                   intro v8 w8 o1 g1 at1
                   have HO8 := Lib.hid (HO7.out.grow (ks := (W.take k ++ [x]) ++ W.drop k) rfl (by rw [List.length_append, ← HTk.out]; rfl) HDr.out o1 g1)
                   clear o1 g1 at1)
                | (have _ := M1
                   at_builtin; refine wpList_append_row _ rfl (.tmp 46) (.tmp 50) 22 22 rfl wo.heap.size 50 i0 (.agg Z) 33 48 Tryd.underlying22 hi hz0 hz1 hz2 hz3 (.slice A6 k c6) k (flatR (W.take k)) rfl (by have := (HO6.out.fr ((Fr.refl (fun _ => False) w6).alloc (.cells cx 50))).1; rw [← HTk.out] at this; exact this) (.slice (some ⟨w6.heap.size, 0, none⟩) 1 1) 1 (flatR [x]) rfl (src_ref w6 x cx HCX.out) (by unfold maxLen; omega) (by omega) (by have := HO6.out.2.size; simp; omega) ?_
                   intro v7 w7 o1 g1 at1
                   have HO7 := Lib.hid ((HO6.out.fr ((Fr.refl (fun _ => False) w6).alloc (.cells cx 50))).grow (ks := W.take k ++ [x]) rfl HTk.out rfl o1 g1)
                   obtain ⟨A7, c7, hv7, -⟩ := own_slice o1
                   subst hv7
                   have M2 := True.intro
                   clear o1 g1 at1)
                | (at_builtin; refine wpList_append_row _ rfl (.tmp 41) (.tmp 44) 22 22 rfl wo.heap.size 50 i0 (.agg Z) 33 48 Tryd.underlying22 hi hz0 hz1 hz2 hz3 (.slice none 0 0) 0 [] rfl (World.ownsRow_nil wo wo.heap.size 50 33) (.slice A9 k c9) k (flatR (W.take k)) rfl (HS1.out wo HFo.out) (by unfold maxLen; omega) (by omega) (Nat.le_refl _) ?_
                   intro v6 w6 o1 g1 at1
                   have HO6 := Lib.hid ((OwnR.nil (Fr.refl (fun _ => False) wo)).grow (ks := W.take k) rfl (n := 0) rfl HTk.out o1 g1)
                   obtain ⟨A6, c6, hv6, -⟩ := own_slice o1
                   rw [Nat.zero_add] at hv6
                   subst hv6
                   have l6 := HId.out w6 ((G4.out.trans HFo.out (fun _ _ e => e)).trans HO6.out.2 (fun _ _ e => e))
                   have M1 := True.intro
                   clear o1 g1 at1)
                | (refine wpList_buildSlice_to rfl 22 1 _ rfl #[(0, .agg cx)] (by simp [Act.eval, Act.put]) _ _ (HBl.out _) ?_)
                | (refine wpList_build_to rfl 50 _ rfl #[(0, .string X), (1, .agg ci)] (by first | rfl | simp [Act.eval]) (.agg cx) (HBr.out _) ?_))
              go_ret2
              have e : setO l x = (setL l x, 0) := by rw [HS.out, if_neg h64]; simp
              rw [e, HSL.out, HP.out]
              have h1 := HO8.out.down (F4.out.trans HFo.out (fun _ _ e => e))
              rw [List.append_assoc] at h1
              exact ⟨_, rfl, h1⟩)
  · go_wp2_with ((
    (first
      | (go_at_call 42; refine (HWi.out w3 F3.out).mono ?_; rintro e w4 ⟨vT, rfl, hoT⟩
         have F4 := Lib.hid (F3.out.trans hoT.2 (fun _ _ e => e))
         have G4 := Lib.hid (G3.out.trans hoT.2 (fun _ _ e => e))
         obtain ⟨A9, c9, hv9, hnc9, hcm9, hA9, hl9⟩ := hoT.slice
         rw [HWl.out] at hv9 hnc9
         subst hv9
         have HA9 := Lib.hid hA9
         have HL9 := Lib.hid hl9
         have HC9 := Lib.hid hnc9
         clear hoT hA9 hl9 hnc9 hcm9)
      | (go_at_call 35; refine (HRt.out w2).mono ?_; rintro e w3 ⟨rfl, b3⟩; have F3 := Lib.hid (F2.out.then_below b3); have G3 := Lib.hid (G2.out.then_below b3); clear b3)
      | (go_at_call 13; refine (HCk.out w1 F1.out).mono ?_; rintro e w2 ⟨rfl, b2⟩; have F2 := Lib.hid (F1.out.then_below b2); have G2 := Lib.hid (Fr.of_below (S := fun _ => False) b2); clear b2))))
    go_ret2
    have e : setO l x = ([], c) := by rw [HS.out, if_neg hc0]
    rw [e]
    exact ⟨_, rfl, OwnR.nil F2.out⟩
end Go.Proofs.YtoakbdmfoepdgaaDoor

/- What is proved: what a tree names, and a commit, by the document. Conditions: the body's cells are there. -/
import Derived.Test.YtddckehejdpjcabGreatDoorOle
namespace Go.Proofs.YtddckehejdpjcabGreatDoor
open Go.RowKit Go.Sort Go.Shelf
open Ids (idC dgt big idC_size idC_get idC_one cellD zero32 size32 dgt_lt)
set_option linter.unusedVariables false

set_option maxHeartbeats 6400000 in
set_option maxRecDepth 100000 in
theorem QbLinks_2 (A : Option Addr) (c : Nat) (l : List UInt8) (hcap : l.length ≤ c) (h0 : chkO 2 l = 0) (w : World) (h : Lies w A (bytesV l)) :
    Calls Tryz.prog 6 #[.int .i64 2, .slice A l.length c] w fun e w' => ∃ v, e = .returned (.tuple #[v, .int .i64 0]) ∧ OwnL 35 w w' v (linksO 2 l) := by
  have H := Lib.hid (QbCheck_any 2 A c l hcap w h)
  rw [h0] at H
  have HM := Lib.hid (links_2 h0)
  have HQ := Lib.hid (fun w' (f : Fr (fun _ => False) w w') => QtGet_any A c l (by have := (chkO_small h0).2.2; omega) hcap w' (h.fr f (fun _ _ e => e)))
  (
    obtain ⟨i0, hi0, hz0, hz1, hz2⟩ := info_parts info_lnkQ
    have hz3 := zeroL_cells
    obtain ⟨Z, hZ⟩ : ∃ Z, zeroL = Z := ⟨_, rfl⟩
    rw [hZ] at hz0 hz3
    clear hZ)
  have hgl := getW_len l.length l [] (Nat.le_refl _)
  have hll := (chkO_small h0).2.2
  rw [List.length_nil] at hgl
  obtain ⟨es, hes⟩ : ∃ es, (getW l []).1 = es := ⟨_, rfl⟩
  obtain ⟨x0, hx0⟩ : ∃ es, (getW l []).2 = es := ⟨_, rfl⟩
  rw [hes] at HM HQ hgl
  rw [hx0] at HQ
  obtain ⟨n, hn⟩ : ∃ n, l.length = n := ⟨_, rfl⟩
  rw [hn] at H HQ hgl hll ⊢
  obtain ⟨L, hL⟩ : ∃ L, es.length = L := ⟨_, rfl⟩
  have HLn := Lib.hid hL
  rw [hL] at hgl
  clear h hcap hn hes hx0 hL
  go_enter Tryz.func6, Tryz.ntmps6
  go_wp2_with (first
    | (go_at_call 10; refine H.out.mono ?_; rintro e w1 ⟨rfl, f⟩; have F1 := Lib.hid f; clear f)
    | (go_at_call 11; refine (HQ.out _ F1.out).mono ?_; rintro e w2 ⟨v2, rfl, o⟩; have F2 := Lib.hid (F1.out.trans o.2 (fun _ _ e => e)); obtain ⟨A2, c2, rfl, hc2, hm2, hl2, _⟩ := o.slice; have HL2 := Lib.hid hl2; have HC2 := Lib.hid hc2; clear o hc2 hm2 hl2; rw [HLn.out]))
  go_loopg [7, 10] L (fun kx u7 s9 wr => ∃ k : Nat, s9 = .int .i64 k ∧ k ≤ L ∧ L - k ≤ kx ∧ OwnL 35 w2 wr u7 ((es.take k).map lnkE))
  case atStart => exact ⟨0, rfl, by omega, by omega, OwnL.nil (Fr.refl _ w2)⟩
  case round =>
    obtain ⟨k, rfl, hk, hkx, ho⟩ := hrel
    obtain ⟨wo, rfl⟩ : ∃ wo, wo = wr := ⟨wr, rfl⟩
    have wk := wrap_nat k (by omega)
    by_cases hlt : k < L
    · have hltz : (k : Int) < L := by omega
      obtain ⟨b, o, hB⟩ := HL2.out.someE (by rw [HLn.out]; omega)
      subst hB
      have hka := some_of_mem (es := es) (i := k) (by rw [HLn.out]; omega)
      obtain ⟨x, hx⟩ : ∃ x, es[k]! = x := ⟨_, rfl⟩
      rw [hx] at hka
      have HT : Hid ((es.take (k + 1)).map lnkE = (es.take k).map lnkE ++ [lnkE x]) := Lib.hid (by rw [List.take_add_one, hka]; simp)
      have HAl : Hid (((es.take k).map lnkE).length = k) := Lib.hid (by rw [List.length_map, List.length_take, HLn.out]; omega)
      obtain ⟨acc, hacc⟩ : ∃ acc, (es.take k).map lnkE = acc := ⟨_, rfl⟩
      rw [hacc] at HT HAl ho
      have HO := Lib.hid ho
      have cm := mode_at HL2.out hka ho.2
      have HIA := Lib.hid (fun ci hc => idE_at (ci := ci) HL2.out hka ho.2 hc)
      have hcis := idV_size (lnkE x)
      have hk3 := lnkE_k3 x
      have hk1 := lnkE_k1 x
      obtain ⟨m, hm⟩ : ∃ m, x.mode = m := ⟨_, rfl⟩
      rw [hm] at cm hk3 hk1
      obtain ⟨y, hy⟩ : ∃ y, lnkE x = y := ⟨_, rfl⟩
      rw [hy] at HT HIA hcis hk3 hk1
      obtain ⟨ci, hci⟩ : ∃ c, idV y = c := ⟨_, rfl⟩
      have HCI := Lib.hid hci
      have HI2 := Lib.hid (HIA.out ci hci)
      rw [hci] at hcis
      obtain ⟨cx, hcx⟩ : ∃ c, (lnkC y).toArray = c := ⟨_, rfl⟩
      have HCX := Lib.hid hcx
      clear hx hacc ho hm hy hci hcx hka HIA
      by_cases hm3 : m = 3
      · have HK := Lib.hid (hk3 hm3)
        subst hm3
        clear hk1 hk3
        go_wp2_with (first
          | (refine wpList_load_id rfl (.tmp 46) rfl b (o + k * 34 + 2) rfl ci hcis HI2.out ?_)
          | (
            (refine wpList_lnk rfl 35 build_lnkQ _ _ rfl y cx HCX.out ci HCI.out _ HK.out rfl rfl ?_)) | (
              (refine wpList_lnks rfl 28 35 slice_lnkQ _ rfl y cx HCX.out rfl ?_)) | (
                (at_builtin; refine wpList_append_row _ rfl (.tmp 42) (.tmp 49) 28 28 rfl w2.heap.size 35 i0 (.agg Z) 33 40 Tryz.underlying28 hi0 hz0 hz1 hz2 hz3 _ k _ rfl ((by have := HO.out.1; rw [HAl.out] at this; exact this : World.ownsRow wo w2.heap.size 35 33 u7 k (flatL acc)).alloc _) _ 1 (flatL [y]) rfl (src_lnk 28 35 Tryz.underlying28 _ y cx HCX.out) (by unfold maxLen; omega) (by omega) (by have := HO.out.2.size; simp; omega) ?_
                 intro v2 w7 o2 g2 at2
                 have N2 := Lib.hid (OwnL.grow (HO.out.fr ((Fr.refl _ wo).alloc (.cells cx 35))) rfl HAl.out.symm rfl o2 g2)
                 clear o2 g2 at2)))
        go_roundg (L - (k + 1))
        case measure => omega
        case rel => exact ⟨k + 1, by go_num, by omega, Nat.le_refl _, by rw [HT.out]; exact N2.out⟩
      · have HK := Lib.hid (hk1 hm3)
        clear hk1 hk3
        go_wp2_with (first
          | (refine wpList_load_id rfl (.tmp 55) rfl b (o + k * 34 + 2) rfl ci hcis HI2.out ?_)
          | (
            (refine wpList_lnk rfl 35 build_lnkQ _ _ rfl y cx HCX.out ci HCI.out _ HK.out rfl rfl ?_)) | (
              (refine wpList_lnks rfl 28 35 slice_lnkQ _ rfl y cx HCX.out rfl ?_)) | (
                (at_builtin; refine wpList_append_row _ rfl (.tmp 51) (.tmp 58) 28 28 rfl w2.heap.size 35 i0 (.agg Z) 33 40 Tryz.underlying28 hi0 hz0 hz1 hz2 hz3 _ k _ rfl ((by have := HO.out.1; rw [HAl.out] at this; exact this : World.ownsRow wo w2.heap.size 35 33 u7 k (flatL acc)).alloc _) _ 1 (flatL [y]) rfl (src_lnk 28 35 Tryz.underlying28 _ y cx HCX.out) (by unfold maxLen; omega) (by omega) (by have := HO.out.2.size; simp; omega) ?_
                 intro v2 w7 o2 g2 at2
                 have N2 := Lib.hid (OwnL.grow (HO.out.fr ((Fr.refl _ wo).alloc (.cells cx 35))) rfl HAl.out.symm rfl o2 g2)
                 clear o2 g2 at2)))
        go_roundg (L - (k + 1))
        case measure => omega
        case rel => exact ⟨k + 1, by go_num, by omega, Nat.le_refl _, by rw [HT.out]; exact N2.out⟩
    · obtain rfl : k = L := by omega
      have HO := Lib.hid (show OwnL 35 w2 wo u7 (es.map lnkE) from by rw [List.take_of_length_le (by rw [HLn.out]; exact Nat.le_refl _)] at ho; exact ho)
      obtain ⟨A3, c3, rfl, _⟩ := ho.slice
      clear ho
      go_wp2_with fail
      go_ret2
      exact ⟨_, rfl, by rw [HM.out]; exact HO.out.base F2.out⟩

set_option maxHeartbeats 6400000 in
set_option maxRecDepth 100000 in
theorem QbLinks_3 (A : Option Addr) (c : Nat) (l : List UInt8) (hcap : l.length ≤ c) (h0 : chkO 3 l = 0) (w : World) (h : Lies w A (bytesV l)) :
    Calls Tryz.prog 6 #[.int .i64 3, .slice A l.length c] w fun e w' => ∃ v, e = .returned (.tuple #[v, .int .i64 0]) ∧ OwnL 35 w w' v (linksO 3 l) := by
  have H := Lib.hid (QbCheck_any 3 A c l hcap w h)
  rw [h0] at H
  have HM := Lib.hid (links_3 h0)
  have hll := (chkO_small h0).2.2
  have HQ := Lib.hid (fun w' (f : Fr (fun _ => False) w w') => QvGet_any A c l (by omega) w' (h.fr f (fun _ _ e => e)))
  unfold GetPost at HQ
  (
    obtain ⟨i0, hi0, hz0, hz1, hz2⟩ := info_parts info_lnkQ
    have hz3 := zeroL_cells
    obtain ⟨Z, hZ⟩ : ∃ Z, zeroL = Z := ⟨_, rfl⟩
    rw [hZ] at hz0 hz3
    clear hZ)
  have hgl := (getR_props l).1
  obtain ⟨X, hX⟩ : ∃ X, getR l = X := ⟨_, rfl⟩
  rw [hX] at HM HQ hgl
  obtain ⟨⟨T, ps, a, t, n'⟩, x0⟩ := X
  simp only [] at HM HQ hgl
  obtain ⟨y0, hy0⟩ : ∃ y, lnkI T 2 = y := ⟨_, rfl⟩
  have HK0 := Lib.hid (show y0.k = 2 from by rw [← hy0]; rfl)
  have HI0 := Lib.hid (show idV y0 = idC (dgt T) from by rw [← hy0]; exact idV_I T 2)
  have hs0 := idC_size (dgt T)
  have hRS := fun v => revC_size T v a t n'
  have HRO := Lib.hid (fun v (hv : v.oneCell' = true) => revC_one T v a t n' hv)
  have HRV := Lib.hid (fun v => revC_v T v a t n')
  have HRI := Lib.hid (fun v => revC_id T v a t n')
  obtain ⟨ci0, hci0⟩ : ∃ ci, idC (dgt T) = ci := ⟨_, rfl⟩
  rw [hci0] at HI0 hs0 HRI
  obtain ⟨cx0, hcx0⟩ : ∃ c, (lnkC y0).toArray = c := ⟨_, rfl⟩
  have HCX0 := Lib.hid hcx0
  rw [hy0] at HM
  obtain ⟨RC, hRC⟩ : ∃ RC : Value → Array Value, (fun v => revC T v a t n') = RC := ⟨_, rfl⟩
  have hRC2 : ∀ v, revC T v a t n' = RC v := fun v => by rw [← hRC]
  simp only [hRC2] at HQ hRS HRO HRV HRI
  obtain ⟨n, hn⟩ : ∃ n, l.length = n := ⟨_, rfl⟩
  rw [hn] at H HQ hgl hll ⊢
  obtain ⟨L, hL⟩ : ∃ L, ps.length = L := ⟨_, rfl⟩
  have HLn := Lib.hid hL
  rw [hL] at hgl
  clear h hcap hn hL hX hy0 hci0 hcx0 hRC hRC2
  go_enter Tryz.func6, Tryz.ntmps6
  go_wp2_with (first
    | (go_at_call 10; refine H.out.mono ?_; rintro e w1 ⟨rfl, f⟩; have F1 := Lib.hid f; clear f)
    | (go_at_call 12; refine (HQ.out _ F1.out).mono ?_; rintro e w2 ⟨v2, rfl, o⟩; have F2 := Lib.hid (F1.out.trans o.2 (fun _ _ e => e)); obtain ⟨A2, c2, rfl, hc2, hm2, ha2, hl2⟩ := o.slice
       have HL2 := Lib.hid hl2
       have hrs := hRS (.slice A2 ps.length c2)
       have HRO2 := Lib.hid (HRO.out (.slice A2 ps.length c2) rfl)
       have HRV2 := Lib.hid (HRV.out (.slice A2 ps.length c2))
       have HRI2 := Lib.hid (HRI.out (.slice A2 ps.length c2))
       obtain ⟨R, hR⟩ : ∃ R, RC (.slice A2 ps.length c2) = R := ⟨_, rfl⟩
       rw [hR] at hrs HRO2 HRV2 HRI2 ⊢
       rw [HLn.out] at HRV2
       clear o hc2 hm2 ha2 hl2 hR)
    | (refine wpList_store_at rfl 50 _ _ rfl w2.heap.size 0 50 zeroRv R rfl rfl (Whole.new w2 50 zeroRv) (by rw [hrs]; decide) (by rw [hrs]; exact size36) HRO2.out ?_
       intro w3 hw3 hf3
       rw [laidAt_all _ _ (by rw [hrs]; rfl)] at hw3
       have HV3 := Lib.hid (show w3.cell? ⟨w2.heap.size, 32, none⟩ = some (.slice A2 L c2) from by rw [hw3.cell]; exact HRV2.out)
       have R3 := Lib.hid (show w3.rangeAt w2.heap.size 0 ci0.toList from fun j v hv => by rw [Nat.zero_add, hw3.cell]; exact HRI2.out j v hv)
       have F3 := Lib.hid (((Fr.refl (fun _ => False) w2).alloc (.cells zeroRv 50)).trans hf3 (fun i hi e => by omega))
       clear hw3 hf3)
    | (refine wpList_load_id rfl (.tmp 68) rfl w2.heap.size 0 rfl ci0 hs0 R3.out ?_)
    | (refine wpList_lnk rfl 35 build_lnkQ _ _ rfl y0 cx0 HCX0.out ci0 HI0.out _ HK0.out rfl rfl ?_)
    | (refine wpList_lnks rfl 28 35 slice_lnkQ _ rfl y0 cx0 HCX0.out rfl ?_)
    | (at_builtin; refine wpList_append_row _ rfl (.tmp 67) (.tmp 71) 28 28 rfl w3.heap.size 35 i0 (.agg Z) 33 40 Tryz.underlying28 hi0 hz0 hz1 hz2 hz3 _ 0 _ rfl (((OwnL.nil (Fr.refl _ w3)).1 : w3.ownsRow w3.heap.size 35 33 (.slice none 0 0) 0 (flatL [])).alloc _) _ 1 (flatL [y0]) rfl (src_lnk 28 35 Tryz.underlying28 _ y0 cx0 HCX0.out) (by unfold maxLen; omega) (by omega) (by simp) ?_
       intro v4 w4 o4 g4 at4
       have HO4 := Lib.hid (OwnL.grow (ks := [y0]) ((OwnL.nil (Fr.refl _ w3)).fr ((Fr.refl _ w3).alloc (.cells cx0 35))) rfl rfl rfl o4 g4)
       clear o4 g4 at4))
  go_loopg [7, 13] L (fun kx u7 s9 wr => ∃ k : Nat, s9 = .int .i64 k ∧ k ≤ L ∧ L - k ≤ kx ∧ OwnL 35 w3 wr u7 (y0 :: (ps.take k).map (fun n => lnkI n 3)))
  case atStart => exact ⟨0, rfl, by omega, by omega, HO4.out⟩
  case round =>
    obtain ⟨k, rfl, hk, hkx, ho⟩ := hrel
    obtain ⟨wo, rfl⟩ : ∃ wo, wo = wr := ⟨wr, rfl⟩
    have wk := wrap_nat k (by omega)
    have cv := ho.2.cell HV3.out (fun e => e)
    by_cases hlt : k < L
    · have hltz : (k : Int) < L := by omega
      obtain ⟨b, o, hB⟩ := HL2.out.some_of (by rw [HLn.out]; omega)
      subst hB
      have hka := gt_some ps k (by rw [HLn.out]; exact hlt)
      obtain ⟨x, hx⟩ : ∃ x, gt ps k = x := ⟨_, rfl⟩
      rw [hx] at hka
      have HT : Hid (y0 :: (ps.take (k + 1)).map (fun n => lnkI n 3) = (y0 :: (ps.take k).map (fun n => lnkI n 3)) ++ [lnkI x 3]) := Lib.hid (by rw [List.take_add_one, hka]; simp)
      have HAl : Hid ((y0 :: (ps.take k).map (fun n => lnkI n 3)).length = k + 1) := Lib.hid (by rw [List.length_cons, List.length_map, List.length_take, HLn.out]; omega)
      obtain ⟨acc, hacc⟩ : ∃ acc, y0 :: (ps.take k).map (fun n => lnkI n 3) = acc := ⟨_, rfl⟩
      rw [hacc] at HT HAl ho
      have HO := Lib.hid ho
      have hl1 := range_at HL2.out hka (F3.out.trans ho.2 (fun _ _ e => e))
      obtain ⟨y, hy⟩ : ∃ y, lnkI x 3 = y := ⟨_, rfl⟩
      have HK := Lib.hid (show y.k = 3 from by rw [← hy]; rfl)
      have HCI := Lib.hid (show idV y = idC (dgt x) from by rw [← hy]; exact idV_I x 3)
      have hcis := idC_size (dgt x)
      rw [hy] at HT
      obtain ⟨ci, hci⟩ : ∃ c, idC (dgt x) = c := ⟨_, rfl⟩
      rw [hci] at HCI hcis hl1
      have HL1 := Lib.hid hl1
      obtain ⟨cx, hcx⟩ : ∃ c, (lnkC y).toArray = c := ⟨_, rfl⟩
      have HCX := Lib.hid hcx
      clear hx hacc ho hl1 hy hci hcx hka
      go_wp2_with (first
        | (refine wpList_load_id rfl (.tmp 84) rfl b (o + k * 32) rfl ci hcis HL1.out ?_)
        | (
          (refine wpList_lnk rfl 35 build_lnkQ _ _ rfl y cx HCX.out ci HCI.out _ HK.out rfl rfl ?_)) | (
            (refine wpList_lnks rfl 28 35 slice_lnkQ _ rfl y cx HCX.out rfl ?_))
        | (at_builtin; refine wpList_append_row _ rfl (.tmp 80) (.tmp 87) 28 28 rfl w3.heap.size 35 i0 (.agg Z) 33 40 Tryz.underlying28 hi0 hz0 hz1 hz2 hz3 _ (k + 1) _ rfl ((by have := HO.out.1; rw [HAl.out] at this; exact this : wo.ownsRow w3.heap.size 35 33 u7 (k + 1) (flatL acc)).alloc _) _ 1 (flatL [y]) rfl (src_lnk 28 35 Tryz.underlying28 _ y cx HCX.out) (by unfold maxLen; omega) (by omega) (by have := HO.out.2.size; simp; omega) ?_
           intro v2 w7 o2 g2 at2
           have N2 := Lib.hid (OwnL.grow (HO.out.fr ((Fr.refl _ wo).alloc (.cells cx 35))) rfl HAl.out.symm rfl o2 g2)
           clear o2 g2 at2))
      go_roundg (L - (k + 1))
      case measure => omega
      case rel => exact ⟨k + 1, by go_num, by omega, Nat.le_refl _, by rw [HT.out]; exact N2.out⟩
    · obtain rfl : k = L := by omega
      have HO := Lib.hid (show OwnL 35 w3 wo u7 (y0 :: ps.map (fun n => lnkI n 3)) from by rw [List.take_of_length_le (by rw [HLn.out]; exact Nat.le_refl _)] at ho; exact ho)
      obtain ⟨A3, c3, rfl, _⟩ := ho.slice
      clear ho
      go_wp2_with fail
      go_ret2
      exact ⟨_, rfl, by rw [HM.out]; exact HO.out.base (F2.out.trans F3.out (fun _ _ e => e))⟩

theorem QbLinks_any (k : Int) (A : Option Addr) (c : Nat) (l : List UInt8) (hcap : l.length ≤ c) (w : World) (h : Lies w A (bytesV l)) :
    Calls Tryz.prog 6 #[.int .i64 k, .slice A l.length c] w fun e w' => ∃ v, e = .returned (.tuple #[v, .int .i64 (chkO k l)]) ∧ OwnL 35 w w' v (linksO k l) := by
  by_cases h0 : chkO k l = 0
  · have hk : k = 1 ∨ k = 2 ∨ k = 3 ∨ k = 4 := by have := chkO_small h0; omega
    rcases hk with rfl | rfl | rfl | rfl
    · rw [h0]; exact QbLinks_1 A c l hcap h0 w h
    · rw [h0]; exact QbLinks_2 A c l hcap h0 w h
    · rw [h0]; exact QbLinks_3 A c l hcap h0 w h
    · rw [h0]; exact QbLinks_4 A c l hcap h0 w h
  · exact QbLinks_bad k A c l hcap h0 w h
end Go.Proofs.YtddckehejdpjcabGreatDoor

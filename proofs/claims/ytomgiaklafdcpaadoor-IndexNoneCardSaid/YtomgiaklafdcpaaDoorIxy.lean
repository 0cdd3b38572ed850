/- What is proved: the walk of the law IndexNone. Conditions: the table of the sums lies as its text lays it. -/
import Derived.Test.YtomgiaklafdcpaaDoorIxx
import Derived.Deep.CutBlock
namespace Go.Proofs.YtomgiaklafdcpaaDoor
open Go.RowKit
set_option linter.unusedVariables false

theorem build_z (w : World) : (Instr.build 49 #[]).run Tryd.prog w = .ok (.agg zeroPl) w := by kernel_rfl
theorem build_zi (w : World) : (Instr.build 24 #[]).run Tryd.prog w = .ok (.agg zero32) w := by kernel_rfl
set_option maxHeartbeats 12800000 in
set_option maxRecDepth 100000 in
theorem none_walk (a p : Nat) (N k : Int) (ha : a < big) (hp : p < big) (h0 : -9223372036854775808 ≤ N) (h1 : N ≤ 9223372036854775807) (w : World) (ht : Tab w) :
    Calls Tryd.prog 6 #[.agg (idC (dgt a)), .agg (pfC (dgt p) N), .int .i64 k] w fun e w' => e = .returned (.bool true) ∧ Fr (fun _ => False) w w' := by
  obtain ⟨w0, hw0⟩ : ∃ w0, w.alloc (.cells (idC (dgt a)) 24) = w0 := ⟨_, rfl⟩
  obtain ⟨w1, hw1⟩ : ∃ w1, w0.alloc (.cells (pfC (dgt p) N) 55) = w1 := ⟨_, rfl⟩
  obtain ⟨w2, hw2⟩ : ∃ w2, w1.alloc (.cells Tryd.zeroCells61 61) = w2 := ⟨_, rfl⟩
  obtain ⟨w3, hw3⟩ : ∃ w3, w2.alloc (.cells #[.pointer none, .pointer (some ⟨w1.heap.size, 0, none⟩)] 36) = w3 := ⟨_, rfl⟩
  have hF0 : Fr (fun _ => False) w w0 := by subst hw0; exact (Fr.refl _ w).alloc _
  have hF1 : Fr (fun _ => False) w0 w1 := by subst hw1; exact (Fr.refl _ w0).alloc _
  have hF2 : Fr (fun _ => False) w1 w2 := by subst hw2; exact (Fr.refl _ w1).alloc _
  have hF3 : Fr (fun _ => False) w2 w3 := by subst hw3; exact (Fr.refl _ w2).alloc _
  have hs0 : w0.heap.size = w.heap.size + 1 := by subst hw0; simp
  have hA : Whole w3 w.heap.size 24 (idC (dgt a)) := by subst hw0; exact (((Whole.new w 24 _).fr hF1 (fun e => e)).fr hF2 (fun e => e)).fr hF3 (fun e => e)
  have hP : Whole w3 w0.heap.size 55 (pfC (dgt p) N) := by subst hw1; exact ((Whole.new w0 55 _).fr hF2 (fun e => e)).fr hF3 (fun e => e)
  have hX : Whole w3 w1.heap.size 61 Tryd.zeroCells61 := by subst hw2; exact (Whole.new w1 61 _).fr hF3 (fun e => e)
  have hB : Whole w3 w2.heap.size 36 #[.pointer none, .pointer (some ⟨w1.heap.size, 0, none⟩)] := by subst hw3; exact Whole.new w2 36 _
  have HF := Lib.hid (((hF0.trans hF1 (fun _ _ e => e)).trans hF2 (fun _ _ e => e)).trans hF3 (fun _ _ e => e))
  have HN0 := Lib.hid (none_nil w3 a p N k hp h0 h1)
  have HN1 := Lib.hid (none_zero w3 w1.heap.size a p N k ha hp h0 h1 hX)
  have HB := Lib.hid hB
  have HWK := Lib.hid (fun w' (f : Fr (fun _ => False) w w') => Iworks_any w' (ht.fr f (fun e => e)))
  obtain ⟨T32, hT32⟩ : ∃ T : TypeId, T = 24 := ⟨_, rfl⟩
  obtain ⟨n32, hn32⟩ : ∃ n : Nat, n = 32 := ⟨_, rfl⟩
  have ag32 : ∀ w, (isAgg T32).run Tryd.prog w = .ok true w := by rw [hT32]; exact fun _ => by kernel_rfl
  have sz32 : ∀ w, (sizeOf T32).run Tryd.prog w = .ok n32 w := by rw [hT32, hn32]; exact fun _ => by kernel_rfl
  obtain ⟨TP, hTP⟩ : ∃ T : TypeId, T = 55 := ⟨_, rfl⟩
  obtain ⟨n33, h33⟩ : ∃ n : Nat, n = 33 := ⟨_, rfl⟩
  have agP : ∀ w, (isAgg TP).run Tryd.prog w = .ok true w := by rw [hTP]; exact fun _ => by kernel_rfl
  have szP : ∀ w, (sizeOf TP).run Tryd.prog w = .ok n33 w := by rw [hTP, h33]; exact fun _ => by kernel_rfl
  obtain ⟨T34, hT34⟩ : ∃ T : TypeId, T = 49 := ⟨_, rfl⟩
  obtain ⟨n34, h34⟩ : ∃ n : Nat, n = 34 := ⟨_, rfl⟩
  have ag34 : ∀ w, (isAgg T34).run Tryd.prog w = .ok true w := by rw [hT34]; exact fun _ => by kernel_rfl
  have sz34 : ∀ w, (sizeOf T34).run Tryd.prog w = .ok n34 w := by rw [hT34, h34]; exact fun _ => by kernel_rfl
  have HN34 := Lib.hid h34
  have HLA := Lib.hid (show ∀ w', Fr (fun _ => False) w3 w' → (loadCellsFrom ⟨w.heap.size, 0, none⟩ 0 n32 #[]).run Tryd.prog w' = .ok (idC (dgt a)) w' from fun w' f => by
    have := load_first (hA.fr f (fun e => e)) (Fr.refl _ w') (n := n32) (by rw [idC_size]; omega)
    rwa [hn32, List.take_of_length_le (by rw [Array.length_toList, idC_size]; exact Nat.le_refl _), Array.toArray_toList, ← hn32] at this)
  have HLP := Lib.hid (show ∀ w', Fr (fun _ => False) w3 w' → (loadCellsFrom ⟨w0.heap.size, 0, none⟩ 0 n33 #[]).run Tryd.prog w' = .ok (pfC (dgt p) N) w' from fun w' f => by
    have := load_first (hP.fr f (fun e => e)) (Fr.refl _ w') (n := n33) (by rw [pfC_size]; omega)
    rwa [h33, List.take_of_length_le (by rw [Array.length_toList, pfC_size]; exact Nat.le_refl _), Array.toArray_toList, ← h33] at this)
  have HFI := Lib.hid (fun ptr (h : None0 w3 ptr a p N k) => h.fi)
  have HBG := Lib.hid (fun ptr (h : None0 w3 ptr a p N k) => h.bg)
  obtain ⟨ca, hca⟩ : ∃ c, idC (dgt a) = c := ⟨_, rfl⟩
  obtain ⟨cp, hcp⟩ : ∃ c, pfC (dgt p) N = c := ⟨_, rfl⟩
  rw [hca] at hw0 HLA HFI ⊢
  rw [hcp] at hw1 HLP HBG ⊢
  obtain ⟨D, hD⟩ : ∃ D, w1.heap.size = D := ⟨_, rfl⟩
  rw [hD] at hw3 HN1 HB
  have HDd := Lib.hid hD
  clear hF0 hF1 hF2 hF3 hs0 hA hP hX hB hca hcp hn32 h33 h34 ht
  go_enter Tryd.func6, Tryd.ntmps6
  rw [show Op.load 24 (.tmp 3) = Op.load T32 (.tmp 3) by rw [hT32], show Op.load 55 (.tmp 4) = Op.load TP (.tmp 4) by rw [hTP], show Op.load 49 (.tmp 10) = Op.load T34 (.tmp 10) by rw [hT34]]
  clear hT32 hTP hT34
  go_wp2_with fail
  clear hD
  go_loopg [9] 2 (fun kx s wr => ∃ j : Nat, s = .int .i64 j ∧ j ≤ 2 ∧ 2 - j ≤ kx ∧ Hid (Fr (fun _ => False) w3 wr))
  case atStart => exact ⟨0, rfl, by omega, by omega, Lib.hid (Fr.refl _ _)⟩
  case round =>
    obtain ⟨j, rfl, hj, hjx, HFr⟩ := hrel
    obtain ⟨wo, rfl⟩ : ∃ wo, wo = wr := ⟨wr, rfl⟩
    have wj := wrap_nat j (by omega)
    by_cases hlt : j < 2
    · have hltz : (j : Int) < 2 := by omega
      have hj0 : (0 : Int) ≤ (j : Int) := by omega
      obtain ⟨P, hPd, HNP⟩ : ∃ P, (#[.pointer none, .pointer (some ⟨D, 0, none⟩)] : Array Value)[j]? = some P ∧ None0 w3 P a p N k := by
        rcases (by omega : j = 0 ∨ j = 1) with rfl | rfl
        · exact ⟨_, rfl, HN0.out⟩
        · exact ⟨_, rfl, HN1.out⟩
      have HNP := Lib.hid HNP
      have lB : ∀ q : Later wo, q.w'.cell? ⟨w2.heap.size, j, none⟩ = some P := fun q => by rw [((HB.out.fr HFr.out (fun e => e)).fr q.fr (fun e => e)).cell, hPd]
      have lA : ∀ q : Later wo, (loadCellsFrom ⟨w.heap.size, 0, none⟩ 0 n32 #[]).run Tryd.prog q.w' = .ok ca q.w' := fun q => HLA.out _ (HFr.out.trans q.fr (fun _ _ e => e))
      have HPd := Lib.hid hPd
      clear hPd
      go_upto_region 6 with fail
      go_cut [10, 11] from 22 to 30 (fun s10 s11 wc => ∃ G, s10 = .pointer (some ⟨G, 0, none⟩) ∧ s11 = .bool false ∧ Hid (Whole wc G 49 zeroPl) ∧ Hid (Fr (fun _ => False) wo wc))
      case first =>
        refine wp_region_held (S := fun w' => ∃ q : Later wo, w' = q.w') (by kernel_rfl) ?_
        have HSq := Lib.hid (show ∃ q : Later wo, wo.drew = q.w' from ⟨⟨_, (Fr.refl _ wo).drew⟩, rfl⟩)
        (
          refine wpAnyH_takeX (i := 0) (v := .slice (some ⟨w2.heap.size, 0, none⟩) 2 2) 23 rfl rfl (by kernel_rfl) (by kernel_rfl) (by kernel_rfl) (fun _ _ _ h => h) (.inl ⟨by rfl, ?_⟩) HSq.out ?_
          · rintro _ ⟨q, rfl⟩
            go_simp)
        (
          refine wpAnyH_takeX (i := 1) (v := .int .i64 j) 24 rfl rfl (by kernel_rfl) (by kernel_rfl) (by kernel_rfl) (fun _ _ _ h => h) (.inl ⟨by rfl, ?_⟩) HSq.out ?_
          · rintro _ ⟨q, rfl⟩
            go_simp)
        (
          refine wpAnyH_takeX (i := 2) (v := .pointer (some ⟨w2.heap.size, j, none⟩)) 25 rfl rfl (by kernel_rfl) (by kernel_rfl) (by kernel_rfl) (fun _ _ _ h => h) (.inl ⟨by rfl, ?_⟩) HSq.out ?_
          · rintro _ ⟨q, rfl⟩
            go_simp)
        (
          refine wpAnyH_takeX (i := 3) (v := P) 26 rfl rfl (by kernel_rfl) (by kernel_rfl) (by kernel_rfl) (fun _ _ _ h => h) (.inl ⟨by rfl, ?_⟩) HSq.out ?_
          · rintro _ ⟨q, rfl⟩
            go_simp)
        (
          refine wpAnyH_takeX (i := 4) (v := .agg ca) 27 rfl rfl (by kernel_rfl) (by kernel_rfl) (by kernel_rfl) (fun _ _ _ h => h) (.inl ⟨by rfl, ?_⟩) HSq.out ?_
          · rintro _ ⟨q, rfl⟩
            go_simp)
        (
          change wpAnyH _ _ _ _ _ _ _ _ (World.drew wo)
          have HFd := Lib.hid (show Fr (fun _ => False) wo (World.drew wo) from (Fr.refl _ wo).drew)
          obtain ⟨wd, hwd⟩ : ∃ wd, World.drew wo = wd := ⟨_, rfl⟩
          rw [hwd]
          rw [hwd] at HFd
          clear hwd HSq)
        clear lA lB
        try simp only [List.setIfInBounds_toArray, List.set_cons_succ, List.set_cons_zero]
        refine wpAnyH_all (rs := [5, 9]) (by kernel_rfl) (by simp) ?_
        intro i hi
        simp only [List.mem_cons, List.not_mem_nil, or_false] at hi
        rcases hi with rfl | rfl
        · refine wpOp_step rfl (fun K hK => ?_)
          go_simp
          go_wp2_with (go_at_call 17; refine (HFI.out P HNP.out wd (HFr.out.trans HFd.out (fun _ _ e => e))).mono ?_; rintro e w4 ⟨rfl, f4⟩; have HF4 := Lib.hid (HFd.out.trans f4 (fun _ _ e => e)); clear f4)
          refine ⟨⟨⟨_, HF4.out⟩, rfl⟩, ?_⟩
          have HSq := Lib.hid (show ∃ q : Later wo, w4 = q.w' from ⟨⟨_, HF4.out⟩, rfl⟩)
          (
            refine wpAnyH_takeX (i := 6) (v := .tuple #[.agg zeroPl, .bool false]) 22 rfl rfl (by kernel_rfl) (by kernel_rfl) (by kernel_rfl) (fun _ _ _ h => h) (.inl ⟨by rfl, ?_⟩) HSq.out ?_
            · rintro _ ⟨q, rfl⟩
              go_simp)
          (
            refine wpAnyH_takeX (i := 7) (v := .agg zeroPl) 29 rfl rfl (by kernel_rfl) (by kernel_rfl) (by kernel_rfl) (fun _ _ _ h => h) (.inl ⟨by rfl, ?_⟩) HSq.out ?_
            · rintro _ ⟨q, rfl⟩
              go_simp)
          (
            refine wpAnyH_takeX (i := 8) (v := .bool false) 30 rfl rfl (by kernel_rfl) (by kernel_rfl) (by kernel_rfl) (fun _ _ _ h => h) (.inl ⟨by rfl, ?_⟩) HSq.out ?_
            · rintro _ ⟨q, rfl⟩
              go_simp)
          clear HSq
          (
            obtain ⟨wz, hwz⟩ : ∃ wz, w4.alloc (.cells zeroPl 49) = wz := ⟨_, rfl⟩
            have HZ := Lib.hid (show Whole wz w4.heap.size 49 zeroPl from by subst hwz; exact Whole.new w4 49 zeroPl)
            have HFz := Lib.hid (show Fr (fun _ => False) w4 wz from by subst hwz; exact (Fr.refl _ w4).alloc _)
            unfold zeroPl at hwz
            simp [List.replicate] at hwz)
          (
            try simp only [List.setIfInBounds_toArray, List.set_cons_succ, List.set_cons_zero]
            refine wpAnyH_all (rs := [9]) (by kernel_rfl) (by simp) ?_
            intro i hi
            simp only [List.mem_cons, List.not_mem_nil, or_false] at hi
            subst hi)
          refine wpOp_step rfl (fun K hK => ?_)
          go_simp
          have HFq := Lib.hid (HF4.out.trans HFz.out (fun _ _ e => e))
          refine hK _ _ ⟨⟨⟨_, HFq.out⟩, rfl⟩, ?_⟩
          clear hK K hwz
          have HZq := Lib.hid HZ.out
          have HGq := Lib.hid (show wo.heap.size ≤ w4.heap.size from HF4.out.size)
          (
            (
              try simp only [List.setIfInBounds_toArray, List.set_cons_succ, List.set_cons_zero]
              refine wpAnyH_all (rs := [10]) (by kernel_rfl) (by simp) ?_
              intro i hi
              simp only [List.mem_cons, List.not_mem_nil, or_false] at hi
              subst hi)
            refine wpOp_step rfl (fun K hK => ?_)
            rw [if_pos (by rfl)]
            refine wp_store_at 49 (.tmp 10) (.tmp 29) rfl w4.heap.size 0 49 zeroPl zeroPl rfl rfl HZq.out (by decide) size_pl (by rw [← zpl]; exact plC_one _) ?_
            intro w6 hw6 hf6
            rw [laidAt_all _ _ rfl] at hw6
            have HW6 := Lib.hid hw6
            have HF6 := Lib.hid (HFq.out.trans hf6 (fun i hi e => by have := HGq.out; omega))
            clear hw6 hf6
            go_simp
            refine hK _ _ ⟨⟨⟨_, HF6.out⟩, rfl⟩, ?_⟩
            clear hK K
            have HSq := Lib.hid (show ∃ q : Later wo, w6 = q.w' from ⟨⟨_, HF6.out⟩, rfl⟩)
            (
              refine wpAnyH_takeX (i := 11) (v := .bool false) 11 rfl rfl (by kernel_rfl) (by kernel_rfl) (by kernel_rfl) (fun _ _ _ h => h) (.inl ⟨by rfl, ?_⟩) HSq.out ?_
              · rintro _ ⟨q, rfl⟩
                go_simp)
            refine wpAnyH_done (by kernel_rfl) ?_ _
            go_wp2_with fail
            go_meet
            case rel => exact ⟨_, rfl, rfl, HW6, HF6⟩)
        · (
          obtain ⟨wz, hwz⟩ : ∃ wz, wd.alloc (.cells zeroPl 49) = wz := ⟨_, rfl⟩
          have HZ := Lib.hid (show Whole wz wd.heap.size 49 zeroPl from by subst hwz; exact Whole.new wd 49 zeroPl)
          have HFz := Lib.hid (show Fr (fun _ => False) wd wz from by subst hwz; exact (Fr.refl _ wd).alloc _)
          unfold zeroPl at hwz
          simp [List.replicate] at hwz)
          refine wpOp_step rfl (fun K hK => ?_)
          go_simp
          have HFe := Lib.hid (HFd.out.trans HFz.out (fun _ _ e => e))
          refine hK _ _ ⟨⟨⟨_, HFe.out⟩, rfl⟩, ?_⟩
          clear hK K hwz
          (
            try simp only [List.setIfInBounds_toArray, List.set_cons_succ, List.set_cons_zero]
            refine wpAnyH_all (rs := [5]) (by kernel_rfl) (by simp) ?_
            intro i hi
            simp only [List.mem_cons, List.not_mem_nil, or_false] at hi
            subst hi)
          refine wpOp_step rfl (fun K hK => ?_)
          go_simp
          go_wp2_with (go_at_call 17; refine (HFI.out P HNP.out wz (HFr.out.trans HFe.out (fun _ _ e => e))).mono ?_; rintro e w4 ⟨rfl, f4⟩; have HF4 := Lib.hid f4; clear f4)
          have HFq := Lib.hid (HFe.out.trans HF4.out (fun _ _ e => e))
          refine ⟨⟨⟨_, HFq.out⟩, rfl⟩, ?_⟩
          have HSq := Lib.hid (show ∃ q : Later wo, w4 = q.w' from ⟨⟨_, HFq.out⟩, rfl⟩)
          (
            refine wpAnyH_takeX (i := 6) (v := .tuple #[.agg zeroPl, .bool false]) 22 rfl rfl (by kernel_rfl) (by kernel_rfl) (by kernel_rfl) (fun _ _ _ h => h) (.inl ⟨by rfl, ?_⟩) HSq.out ?_
            · rintro _ ⟨q, rfl⟩
              go_simp)
          (
            refine wpAnyH_takeX (i := 7) (v := .agg zeroPl) 29 rfl rfl (by kernel_rfl) (by kernel_rfl) (by kernel_rfl) (fun _ _ _ h => h) (.inl ⟨by rfl, ?_⟩) HSq.out ?_
            · rintro _ ⟨q, rfl⟩
              go_simp)
          (
            refine wpAnyH_takeX (i := 8) (v := .bool false) 30 rfl rfl (by kernel_rfl) (by kernel_rfl) (by kernel_rfl) (fun _ _ _ h => h) (.inl ⟨by rfl, ?_⟩) HSq.out ?_
            · rintro _ ⟨q, rfl⟩
              go_simp)
          clear HSq
          have HZq := Lib.hid (HZ.out.fr HF4.out (fun e => e))
          have HGq := Lib.hid (show wo.heap.size ≤ wd.heap.size from HFd.out.size)
          (
            (
              try simp only [List.setIfInBounds_toArray, List.set_cons_succ, List.set_cons_zero]
              refine wpAnyH_all (rs := [10]) (by kernel_rfl) (by simp) ?_
              intro i hi
              simp only [List.mem_cons, List.not_mem_nil, or_false] at hi
              subst hi)
            refine wpOp_step rfl (fun K hK => ?_)
            rw [if_pos (by rfl)]
            refine wp_store_at 49 (.tmp 10) (.tmp 29) rfl wd.heap.size 0 49 zeroPl zeroPl rfl rfl HZq.out (by decide) size_pl (by rw [← zpl]; exact plC_one _) ?_
            intro w6 hw6 hf6
            rw [laidAt_all _ _ rfl] at hw6
            have HW6 := Lib.hid hw6
            have HF6 := Lib.hid (HFq.out.trans hf6 (fun i hi e => by have := HGq.out; omega))
            clear hw6 hf6
            go_simp
            refine hK _ _ ⟨⟨⟨_, HF6.out⟩, rfl⟩, ?_⟩
            clear hK K
            have HSq := Lib.hid (show ∃ q : Later wo, w6 = q.w' from ⟨⟨_, HF6.out⟩, rfl⟩)
            (
              refine wpAnyH_takeX (i := 11) (v := .bool false) 11 rfl rfl (by kernel_rfl) (by kernel_rfl) (by kernel_rfl) (fun _ _ _ h => h) (.inl ⟨by rfl, ?_⟩) HSq.out ?_
              · rintro _ ⟨q, rfl⟩
                go_simp)
            refine wpAnyH_done (by kernel_rfl) ?_ _
            go_wp2_with fail
            go_meet
            case rel => exact ⟨_, rfl, rfl, HW6, HF6⟩)
      case rest =>
        obtain ⟨G, rfl, rfl, HWG, HFc⟩ := hcut
        obtain ⟨wp, rfl⟩ : ∃ wp, wp = wc := ⟨wc, rfl⟩
        have HFp := Lib.hid (HFr.out.trans HFc.out (fun _ _ e => e))
        have lB : ∀ q : Later wp, q.w'.cell? ⟨w2.heap.size, j, none⟩ = some P := fun q => by
          have := (((HB.out.fr HFp.out (fun e => e)).fr q.fr (fun e => e)).cell j)
          rw [this, HPd.out]
        have lP : ∀ q : Later wp, (loadCellsFrom ⟨w0.heap.size, 0, none⟩ 0 n33 #[]).run Tryd.prog q.w' = .ok cp q.w' := fun q => HLP.out _ (HFp.out.trans q.fr (fun _ _ e => e))
        have lG : ∀ q : Later wp, (loadCellsFrom ⟨G, 0, none⟩ 0 n34 #[]).run Tryd.prog q.w' = .ok zeroPl q.w' := fun q => load_later HWG.out (by rw [HN34.out]; rfl) (Fr.refl _ wp) q
        have HL1 := Lib.hid (fun w' (f : Fr (fun _ => False) wp w') => HNP.out.le w' (HFp.out.trans f (fun _ _ e => e)))
        have HA1 := Lib.hid (fun w' (f : Fr (fun _ => False) wp w') => HNP.out.at' w' (HFp.out.trans f (fun _ _ e => e)))
        have HO1 := Lib.hid (fun w' (f : Fr (fun _ => False) wp w') => HNP.out.of w' (HFp.out.trans f (fun _ _ e => e)))
        have HB1 := Lib.hid (fun w' (f : Fr (fun _ => False) wp w') => HBG.out P HNP.out w' (HFp.out.trans f (fun _ _ e => e)))
        have bz := fun w => build_z w
        have bi := fun w => build_zi w
        have ez := fun w => eq_zpl w
        have ei := fun w => eq_zid w
        obtain ⟨zp, hzp⟩ : ∃ z, zeroPl = z := ⟨_, rfl⟩
        obtain ⟨zi, hzi⟩ : ∃ z, zero32 = z := ⟨_, rfl⟩
        rw [hzp] at lG HA1 ez bz
        rw [hzi] at HO1 ei bi
        clear hzp hzi
        go_upto_region 7 with fail
        refine wp_region_held (S := fun w' => ∃ q : Later wp, w' = q.w') (by kernel_rfl) ?_
        have HSq := Lib.hid (show ∃ q : Later wp, wp.drew = q.w' from ⟨⟨_, (Fr.refl _ wp).drew⟩, rfl⟩)
        (
          refine wpAnyH_takeX (i := 0) (v := .slice (some ⟨w2.heap.size, 0, none⟩) 2 2) 31 rfl rfl (by kernel_rfl) (by kernel_rfl) (by kernel_rfl) (fun _ _ _ h => h) (.inl ⟨by rfl, ?_⟩) HSq.out ?_
          · rintro _ ⟨q, rfl⟩
            go_simp
          simp only [List.setIfInBounds_toArray, List.set_cons_succ, List.set_cons_zero])
        (
          refine wpAnyH_takeX (i := 1) (v := .int .i64 j) 32 rfl rfl (by kernel_rfl) (by kernel_rfl) (by kernel_rfl) (fun _ _ _ h => h) (.inl ⟨by rfl, ?_⟩) HSq.out ?_
          · rintro _ ⟨q, rfl⟩
            go_simp
          simp only [List.setIfInBounds_toArray, List.set_cons_succ, List.set_cons_zero])
        (
          refine wpAnyH_takeX (i := 2) (v := .pointer (some ⟨w2.heap.size, j, none⟩)) 33 rfl rfl (by kernel_rfl) (by kernel_rfl) (by kernel_rfl) (fun _ _ _ h => h) (.inl ⟨by rfl, ?_⟩) HSq.out ?_
          · rintro _ ⟨q, rfl⟩
            go_simp
          simp only [List.setIfInBounds_toArray, List.set_cons_succ, List.set_cons_zero])
        (
          refine wpAnyH_takeX (i := 3) (v := P) 34 rfl rfl (by kernel_rfl) (by kernel_rfl) (by kernel_rfl) (fun _ _ _ h => h) (.inl ⟨by rfl, ?_⟩) HSq.out ?_
          · rintro _ ⟨q, rfl⟩
            go_simp
          simp only [List.setIfInBounds_toArray, List.set_cons_succ, List.set_cons_zero])
        (
          change wpAnyH _ _ _ _ _ _ _ _ (World.drew wp)
          have HFd := Lib.hid (show Fr (fun _ => False) wp (World.drew wp) from (Fr.refl _ wp).drew)
          obtain ⟨wd, hwd⟩ : ∃ wd, World.drew wp = wd := ⟨_, rfl⟩
          rw [hwd]
          rw [hwd] at HFd
          clear hwd HSq)
        (
          try simp only [List.setIfInBounds_toArray, List.set_cons_succ, List.set_cons_zero]
          refine wpAnyH_all (rs := [4]) (by kernel_rfl) (by simp) ?_
          intro i hi
          simp only [List.mem_cons, List.not_mem_nil, or_false] at hi
          subst hi)
        refine wpOp_step rfl (fun K hK => ?_)
        go_simp
        go_wp2_with (go_at_call 15; refine (HL1.out wd HFd.out).mono ?_; rintro e v1 ⟨rfl, rfl⟩)
        refine ⟨⟨⟨_, HFd.out⟩, rfl⟩, ?_⟩
        have HSq := Lib.hid (show ∃ q : Later wp, wd = q.w' from ⟨⟨_, HFd.out⟩, rfl⟩)
        (
          refine wpAnyH_takeX (i := 5) (v := .bool false) 36 rfl rfl (by kernel_rfl) (by kernel_rfl) (by kernel_rfl) (fun _ _ _ h => h) (.inl ⟨by rfl, ?_⟩) HSq.out ?_
          · rintro _ ⟨q, rfl⟩
            go_simp
          simp only [List.setIfInBounds_toArray, List.set_cons_succ, List.set_cons_zero])
        (
          refine wpAnyH_takeX (i := 6) (v := .bool false) 37 rfl rfl (by kernel_rfl) (by kernel_rfl) (by kernel_rfl) (fun _ _ _ h => h) (.inl ⟨by rfl, ?_⟩) HSq.out ?_
          · rintro _ ⟨q, rfl⟩
            go_simp
          simp only [List.setIfInBounds_toArray, List.set_cons_succ, List.set_cons_zero])
        (
          refine wpAnyH_takeX (i := 7) (v := .slice (some ⟨w2.heap.size, 0, none⟩) 2 2) 38 rfl rfl (by kernel_rfl) (by kernel_rfl) (by kernel_rfl) (fun _ _ _ h => h) (.inl ⟨by rfl, ?_⟩) HSq.out ?_
          · rintro _ ⟨q, rfl⟩
            go_simp
          simp only [List.setIfInBounds_toArray, List.set_cons_succ, List.set_cons_zero])
        (
          refine wpAnyH_takeX (i := 8) (v := .int .i64 j) 39 rfl rfl (by kernel_rfl) (by kernel_rfl) (by kernel_rfl) (fun _ _ _ h => h) (.inl ⟨by rfl, ?_⟩) HSq.out ?_
          · rintro _ ⟨q, rfl⟩
            go_simp
          simp only [List.setIfInBounds_toArray, List.set_cons_succ, List.set_cons_zero])
        (
          refine wpAnyH_takeX (i := 9) (v := .pointer (some ⟨w2.heap.size, j, none⟩)) 40 rfl rfl (by kernel_rfl) (by kernel_rfl) (by kernel_rfl) (fun _ _ _ h => h) (.inl ⟨by rfl, ?_⟩) HSq.out ?_
          · rintro _ ⟨q, rfl⟩
            go_simp
          simp only [List.setIfInBounds_toArray, List.set_cons_succ, List.set_cons_zero])
        (
          refine wpAnyH_takeX (i := 10) (v := P) 41 rfl rfl (by kernel_rfl) (by kernel_rfl) (by kernel_rfl) (fun _ _ _ h => h) (.inl ⟨by rfl, ?_⟩) HSq.out ?_
          · rintro _ ⟨q, rfl⟩
            go_simp
          simp only [List.setIfInBounds_toArray, List.set_cons_succ, List.set_cons_zero])
        (
          refine wpAnyH_takeX (i := 11) (v := .int .i64 k) 42 rfl rfl (by kernel_rfl) (by kernel_rfl) (by kernel_rfl) (fun _ _ _ h => h) (.inl ⟨by rfl, ?_⟩) HSq.out ?_
          · rintro _ ⟨q, rfl⟩
            go_simp
          simp only [List.setIfInBounds_toArray, List.set_cons_succ, List.set_cons_zero])
        (
          refine wpAnyH_takeX (i := 13) (v := .agg zp) 44 rfl rfl (by kernel_rfl) (by kernel_rfl) (by kernel_rfl) (fun _ _ _ h => h) (yieldsIf_build (by kernel_rfl) 49 _ rfl #[] (by kernel_rfl) _ bz) HSq.out ?_
          simp only [List.setIfInBounds_toArray, List.set_cons_succ, List.set_cons_zero])
        clear HSq
        (
          try simp only [List.setIfInBounds_toArray, List.set_cons_succ, List.set_cons_zero]
          refine wpAnyH_all (rs := [12]) (by kernel_rfl) (by simp) ?_
          intro i hi
          simp only [List.mem_cons, List.not_mem_nil, or_false] at hi
          subst hi)
        refine wpOp_step rfl (fun K hK => ?_)
        go_simp
        go_wp2_with (go_at_call 18; refine (HA1.out wd HFd.out).mono ?_; rintro e v2 ⟨rfl, f2⟩; have HF2 := Lib.hid (HFd.out.then_below f2); clear f2)
        refine ⟨⟨⟨_, HF2.out⟩, rfl⟩, ?_⟩
        have HSq := Lib.hid (show ∃ q : Later wp, v2 = q.w' from ⟨⟨_, HF2.out⟩, rfl⟩)
        (
          refine wpAnyH_takeX (i := 14) (v := .bool false) 45 rfl rfl (by kernel_rfl) (by kernel_rfl) (by kernel_rfl) (fun _ _ _ h => h) (.inl ⟨by rfl, ?_⟩) HSq.out ?_
          · rintro _ ⟨q, rfl⟩
            go_simp
          simp only [List.setIfInBounds_toArray, List.set_cons_succ, List.set_cons_zero])
        (
          refine wpAnyH_takeX (i := 15) (v := .bool false) 46 rfl rfl (by kernel_rfl) (by kernel_rfl) (by kernel_rfl) (fun _ _ _ h => h) (.inl ⟨by rfl, ?_⟩) HSq.out ?_
          · rintro _ ⟨q, rfl⟩
            go_simp
          simp only [List.setIfInBounds_toArray, List.set_cons_succ, List.set_cons_zero])
        (
          refine wpAnyH_takeX (i := 16) (v := .bool false) 47 rfl rfl (by kernel_rfl) (by kernel_rfl) (by kernel_rfl) (fun _ _ _ h => h) (.inl ⟨by rfl, ?_⟩) HSq.out ?_
          · rintro _ ⟨q, rfl⟩
            go_simp
          simp only [List.setIfInBounds_toArray, List.set_cons_succ, List.set_cons_zero])
        (
          refine wpAnyH_takeX (i := 17) (v := .bool false) 48 rfl rfl (by kernel_rfl) (by kernel_rfl) (by kernel_rfl) (fun _ _ _ h => h) (.inl ⟨by rfl, ?_⟩) HSq.out ?_
          · rintro _ ⟨q, rfl⟩
            go_simp
          simp only [List.setIfInBounds_toArray, List.set_cons_succ, List.set_cons_zero])
        (
          refine wpAnyH_takeX (i := 18) (v := .bool false) 49 rfl rfl (by kernel_rfl) (by kernel_rfl) (by kernel_rfl) (fun _ _ _ h => h) (.inl ⟨by rfl, ?_⟩) HSq.out ?_
          · rintro _ ⟨q, rfl⟩
            go_simp
          simp only [List.setIfInBounds_toArray, List.set_cons_succ, List.set_cons_zero])
        (
          refine wpAnyH_takeX (i := 19) (v := .bool false) 50 rfl rfl (by kernel_rfl) (by kernel_rfl) (by kernel_rfl) (fun _ _ _ h => h) (.inl ⟨by rfl, ?_⟩) HSq.out ?_
          · rintro _ ⟨q, rfl⟩
            go_simp
          simp only [List.setIfInBounds_toArray, List.set_cons_succ, List.set_cons_zero])
        (
          refine wpAnyH_takeX (i := 20) (v := .agg zp) 51 rfl rfl (by kernel_rfl) (by kernel_rfl) (by kernel_rfl) (fun _ _ _ h => h) (.inl ⟨by rfl, ?_⟩) HSq.out ?_
          · rintro _ ⟨q, rfl⟩
            go_simp
          simp only [List.setIfInBounds_toArray, List.set_cons_succ, List.set_cons_zero])
        (
          refine wpAnyH_takeX (i := 21) (v := .agg zp) 52 rfl rfl (by kernel_rfl) (by kernel_rfl) (by kernel_rfl) (fun _ _ _ h => h) (yieldsIf_build (by kernel_rfl) 49 _ rfl #[] (by kernel_rfl) _ bz) HSq.out ?_
          simp only [List.setIfInBounds_toArray, List.set_cons_succ, List.set_cons_zero])
        (
          refine wpAnyH_takeX (i := 22) (v := .bool false) 53 rfl rfl (by kernel_rfl) (by kernel_rfl) (by kernel_rfl) (fun _ _ _ h => h) (.inl ⟨by rfl, ?_⟩) HSq.out ?_
          · rintro _ ⟨q, rfl⟩
            go_simp
          simp only [List.setIfInBounds_toArray, List.set_cons_succ, List.set_cons_zero])
        (
          refine wpAnyH_takeX (i := 23) (v := .bool false) 54 rfl rfl (by kernel_rfl) (by kernel_rfl) (by kernel_rfl) (fun _ _ _ h => h) (.inl ⟨by rfl, ?_⟩) HSq.out ?_
          · rintro _ ⟨q, rfl⟩
            go_simp
          simp only [List.setIfInBounds_toArray, List.set_cons_succ, List.set_cons_zero])
        (
          refine wpAnyH_takeX (i := 24) (v := .bool false) 55 rfl rfl (by kernel_rfl) (by kernel_rfl) (by kernel_rfl) (fun _ _ _ h => h) (.inl ⟨by rfl, ?_⟩) HSq.out ?_
          · rintro _ ⟨q, rfl⟩
            go_simp
          simp only [List.setIfInBounds_toArray, List.set_cons_succ, List.set_cons_zero])
        (
          refine wpAnyH_takeX (i := 25) (v := .slice (some ⟨w2.heap.size, 0, none⟩) 2 2) 56 rfl rfl (by kernel_rfl) (by kernel_rfl) (by kernel_rfl) (fun _ _ _ h => h) (.inl ⟨by rfl, ?_⟩) HSq.out ?_
          · rintro _ ⟨q, rfl⟩
            go_simp
          simp only [List.setIfInBounds_toArray, List.set_cons_succ, List.set_cons_zero])
        (
          refine wpAnyH_takeX (i := 26) (v := .int .i64 j) 57 rfl rfl (by kernel_rfl) (by kernel_rfl) (by kernel_rfl) (fun _ _ _ h => h) (.inl ⟨by rfl, ?_⟩) HSq.out ?_
          · rintro _ ⟨q, rfl⟩
            go_simp
          simp only [List.setIfInBounds_toArray, List.set_cons_succ, List.set_cons_zero])
        (
          refine wpAnyH_takeX (i := 27) (v := .pointer (some ⟨w2.heap.size, j, none⟩)) 58 rfl rfl (by kernel_rfl) (by kernel_rfl) (by kernel_rfl) (fun _ _ _ h => h) (.inl ⟨by rfl, ?_⟩) HSq.out ?_
          · rintro _ ⟨q, rfl⟩
            go_simp
          simp only [List.setIfInBounds_toArray, List.set_cons_succ, List.set_cons_zero])
        (
          refine wpAnyH_takeX (i := 28) (v := P) 59 rfl rfl (by kernel_rfl) (by kernel_rfl) (by kernel_rfl) (fun _ _ _ h => h) (.inl ⟨by rfl, ?_⟩) HSq.out ?_
          · rintro _ ⟨q, rfl⟩
            go_simp
          simp only [List.setIfInBounds_toArray, List.set_cons_succ, List.set_cons_zero])
        (
          refine wpAnyH_takeX (i := 29) (v := .agg cp) 60 rfl rfl (by kernel_rfl) (by kernel_rfl) (by kernel_rfl) (fun _ _ _ h => h) (.inl ⟨by rfl, ?_⟩) HSq.out ?_
          · rintro _ ⟨q, rfl⟩
            go_simp
          simp only [List.setIfInBounds_toArray, List.set_cons_succ, List.set_cons_zero])
        clear HSq
        (
          try simp only [List.setIfInBounds_toArray, List.set_cons_succ, List.set_cons_zero]
          refine wpAnyH_all (rs := [30]) (by kernel_rfl) (by simp) ?_
          intro i hi
          simp only [List.mem_cons, List.not_mem_nil, or_false] at hi
          subst hi)
        refine wpOp_step rfl (fun K hK => ?_)
        go_simp
        go_wp2_with (go_at_call 19; refine (HB1.out v2 HF2.out).mono ?_; rintro e v3 ⟨rfl, f3⟩; have HF3 := Lib.hid (HF2.out.then_below f3); clear f3)
        refine ⟨⟨⟨_, HF3.out⟩, rfl⟩, ?_⟩
        have HSq := Lib.hid (show ∃ q : Later wp, v3 = q.w' from ⟨⟨_, HF3.out⟩, rfl⟩)
        (
          refine wpAnyH_takeX (i := 31) (v := .int .i64 0) 62 rfl rfl (by kernel_rfl) (by kernel_rfl) (by kernel_rfl) (fun _ _ _ h => h) (.inl ⟨by rfl, ?_⟩) HSq.out ?_
          · rintro _ ⟨q, rfl⟩
            go_simp
          simp only [List.setIfInBounds_toArray, List.set_cons_succ, List.set_cons_zero])
        (
          refine wpAnyH_takeX (i := 32) (v := .bool false) 63 rfl rfl (by kernel_rfl) (by kernel_rfl) (by kernel_rfl) (fun _ _ _ h => h) (.inl ⟨by rfl, ?_⟩) HSq.out ?_
          · rintro _ ⟨q, rfl⟩
            go_simp
          simp only [List.setIfInBounds_toArray, List.set_cons_succ, List.set_cons_zero])
        (
          refine wpAnyH_takeX (i := 33) (v := .bool false) 64 rfl rfl (by kernel_rfl) (by kernel_rfl) (by kernel_rfl) (fun _ _ _ h => h) (.inl ⟨by rfl, ?_⟩) HSq.out ?_
          · rintro _ ⟨q, rfl⟩
            go_simp
          simp only [List.setIfInBounds_toArray, List.set_cons_succ, List.set_cons_zero])
        (
          refine wpAnyH_takeX (i := 34) (v := .bool false) 65 rfl rfl (by kernel_rfl) (by kernel_rfl) (by kernel_rfl) (fun _ _ _ h => h) (.inl ⟨by rfl, ?_⟩) HSq.out ?_
          · rintro _ ⟨q, rfl⟩
            go_simp
          simp only [List.setIfInBounds_toArray, List.set_cons_succ, List.set_cons_zero])
        (
          refine wpAnyH_takeX (i := 35) (v := .slice (some ⟨w2.heap.size, 0, none⟩) 2 2) 66 rfl rfl (by kernel_rfl) (by kernel_rfl) (by kernel_rfl) (fun _ _ _ h => h) (.inl ⟨by rfl, ?_⟩) HSq.out ?_
          · rintro _ ⟨q, rfl⟩
            go_simp
          simp only [List.setIfInBounds_toArray, List.set_cons_succ, List.set_cons_zero])
        (
          refine wpAnyH_takeX (i := 36) (v := .int .i64 j) 67 rfl rfl (by kernel_rfl) (by kernel_rfl) (by kernel_rfl) (fun _ _ _ h => h) (.inl ⟨by rfl, ?_⟩) HSq.out ?_
          · rintro _ ⟨q, rfl⟩
            go_simp
          simp only [List.setIfInBounds_toArray, List.set_cons_succ, List.set_cons_zero])
        (
          refine wpAnyH_takeX (i := 37) (v := .pointer (some ⟨w2.heap.size, j, none⟩)) 68 rfl rfl (by kernel_rfl) (by kernel_rfl) (by kernel_rfl) (fun _ _ _ h => h) (.inl ⟨by rfl, ?_⟩) HSq.out ?_
          · rintro _ ⟨q, rfl⟩
            go_simp
          simp only [List.setIfInBounds_toArray, List.set_cons_succ, List.set_cons_zero])
        (
          refine wpAnyH_takeX (i := 38) (v := P) 69 rfl rfl (by kernel_rfl) (by kernel_rfl) (by kernel_rfl) (fun _ _ _ h => h) (.inl ⟨by rfl, ?_⟩) HSq.out ?_
          · rintro _ ⟨q, rfl⟩
            go_simp
          simp only [List.setIfInBounds_toArray, List.set_cons_succ, List.set_cons_zero])
        (
          refine wpAnyH_takeX (i := 40) (v := .agg zi) 71 rfl rfl (by kernel_rfl) (by kernel_rfl) (by kernel_rfl) (fun _ _ _ h => h) (yieldsIf_build (by kernel_rfl) 24 _ rfl #[] (by kernel_rfl) _ bi) HSq.out ?_
          simp only [List.setIfInBounds_toArray, List.set_cons_succ, List.set_cons_zero])
        clear HSq
        (
          try simp only [List.setIfInBounds_toArray, List.set_cons_succ, List.set_cons_zero]
          refine wpAnyH_all (rs := [39]) (by kernel_rfl) (by simp) ?_
          intro i hi
          simp only [List.mem_cons, List.not_mem_nil, or_false] at hi
          subst hi)
        refine wpOp_step rfl (fun K hK => ?_)
        go_simp
        go_wp2_with (go_at_call 16; refine (HO1.out v3 HF3.out).mono ?_; rintro e v4 ⟨rfl, f4⟩; have HF4 := Lib.hid (HF3.out.then_below f4); clear f4)
        refine ⟨⟨⟨_, HF4.out⟩, rfl⟩, ?_⟩
        have HSq := Lib.hid (show ∃ q : Later wp, v4 = q.w' from ⟨⟨_, HF4.out⟩, rfl⟩)
        (
          refine wpAnyH_takeX (i := 41) (v := .bool false) 72 rfl rfl (by kernel_rfl) (by kernel_rfl) (by kernel_rfl) (fun _ _ _ h => h) (.inl ⟨by rfl, ?_⟩) HSq.out ?_
          · rintro _ ⟨q, rfl⟩
            go_simp
          simp only [List.setIfInBounds_toArray, List.set_cons_succ, List.set_cons_zero])
        (
          refine wpAnyH_takeX (i := 42) (v := .bool false) 73 rfl rfl (by kernel_rfl) (by kernel_rfl) (by kernel_rfl) (fun _ _ _ h => h) (.inl ⟨by rfl, ?_⟩) HSq.out ?_
          · rintro _ ⟨q, rfl⟩
            go_simp
          simp only [List.setIfInBounds_toArray, List.set_cons_succ, List.set_cons_zero])
        refine wpAnyH_done (by kernel_rfl) ?_ _
        go_wp2_with fail
        go_roundg (2 - (j + 1))
        case measure => omega
        case rel => exact ⟨j + 1, by go_num, by omega, Nat.le_refl _, Lib.hid (HFp.out.trans HF4.out (fun _ _ e => e))⟩
    · have hltz : ¬ ((j : Int) < 2) := by omega
      go_wp2_with (go_at_call 7; refine (HWK.out _ (HF.out.trans HFr.out (fun _ _ e => e))).mono ?_; rintro e w5 ⟨rfl, f5⟩; have HF5 := Lib.hid ((HF.out.trans HFr.out (fun _ _ e => e)).trans f5 (fun _ _ e => e)); clear f5)
      go_ret
      exact ⟨rfl, HF5.out⟩
end Go.Proofs.YtomgiaklafdcpaaDoor

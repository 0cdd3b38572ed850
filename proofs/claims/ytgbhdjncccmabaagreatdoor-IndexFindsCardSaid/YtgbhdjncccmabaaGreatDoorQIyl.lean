/- What is proved: texts that stand one behind the other: Iyl. Conditions: each theorem names its own. -/
import Derived.Test.YtgbhdjncccmabaaGreatDoorQIyh
/- What is proved: Open by the document: bytes as an index, or the error. Conditions: the bytes are there, at most 100000. -/
namespace Go.Proofs.YtgbhdjncccmabaaGreatDoor
open Go.RowKit
set_option linter.unusedVariables false

set_option maxHeartbeats 12800000 in
set_option maxRecDepth 100000 in
theorem QIOpen_any (A : Option Addr) (cap : Nat) (bs : List UInt8) (hc : bs.length ≤ cap) (hb : bs.length ≤ 100000) (w : World) (h : Lies w A (bytesV bs)) :
    Calls Tryz.prog 8 #[.slice A bs.length cap] w (QOpPost w bs) := by
  unfold QOpPost
  obtain ⟨w0, hw0⟩ : ∃ w0, w.alloc (.cells zqx 38) = w0 := ⟨_, rfl⟩
  have hF0 : Fr (fun _ => False) w w0 := by subst hw0; exact (Fr.refl _ w).alloc _
  have HF0 := Lib.hid hF0
  have HR0 := Lib.hid (show Whole w0 w.heap.size 38 zqx from by subst hw0; exact Whole.new w 38 _)
  have HLI := Lib.hid (h.fr hF0 (fun _ _ e => e))
  have HZS := Lib.hid zqx_size
  have HZO := Lib.hid zqx_one
  have HBZ := Lib.hid build_zqx
  have HE : Hid (opE bs = if (cntR bs).2 ≠ 0 then (cntR bs).2 else if sumOk bs = false then 13 else if risB (idsB bs) = false ∨ fanOk bs = false then 18 else if atOk bs = false then 2 else 0) := Lib.hid rfl
  have HCN : Hid (cntR bs = if bs.length < 1096 then (0, 10) else if wordB bs = false ∨ u4 bs 4 ≠ 1 then (0, 12) else if 600 < u4 bs 1028 then (0, 5)
    else if bs.length < 1096 + 40 * u4 bs 1028 then (0, 10) else if 1096 + 40 * u4 bs 1028 < bs.length then (0, 11) else (u4 bs 1028, 0)) := Lib.hid rfl
  have HEb : Hid (∀ e : Int, e ≠ 0 → (cntR bs).2 = e → opE bs = e) := Lib.hid (fun e he hc => by rw [HE.out, hc, if_pos he])
  have HBG := Lib.hid (fun w => refBig_cap 1 4 w (by decide) (by decide) (by decide) (by decide))
  unfold BigPost at HBG
  simp only [hiB_length] at HBG
  obtain ⟨L, hL⟩ : ∃ L, bs.length = L := ⟨_, rfl⟩
  have HLn := Lib.hid hL
  rw [hL] at HCN hc hb ⊢
  have HC := Lib.hid hc
  obtain ⟨ZQ, hZQ⟩ : ∃ Z, zqx = Z := ⟨_, rfl⟩
  have HZQ := Lib.hid hZQ
  have HR := Lib.hid HR0.out
  rw [hZQ] at HR HZS HZO HBZ
  unfold zqx at hw0
  simp [List.replicate] at hw0
  clear hF0 h hL hc hZQ HR0
  by_cases h1 : L < 1096
  · have hC : Hid (opE bs = 10) := Lib.hid (HEb.out 10 (by decide) (by rw [HCN.out, if_pos h1]))
    have h1z : (L : Int) < 1096 := by omega
    go_enter Tryz.func8, Tryz.ntmps8
    (
      go_wp2_with (first
        | (refine wpList_build_toQ rfl 38 _ rfl #[] (by first | rfl | simp [Act.eval]) (.agg ZQ) (HBZ.out _) ?_)
        | (refine wpList_store_at rfl 38 _ _ rfl w.heap.size 0 38 ZQ ZQ rfl rfl (HR.out.fr (Fr.refl (fun _ => False) w0) (fun e => e)) (by rw [HZS.out]; decide) (by rw [HZS.out]; exact size_qx) HZO.out ?_; intro w3 hw3 hf3; rw [laidAt_all _ _ rfl] at hw3; have HW3 := Lib.hid hw3; have HF3 := Lib.hid hf3; clear hw3 hf3))
      (try simp only [Exit.inBlock, Exit.then])
      refine bodyPost_ret (v := .tuple #[.agg ZQ, .int .i64 10]) (results_cell_slot (p := 2) (u := 3) rfl _ _ _ _ _ _ rfl HW3.out Tryz.underlying38 rfl (by rw [HZS.out]; exact size_qx)) rfl ?_
      exact ⟨(HF0.out.trans (Fr.refl (fun _ => False) w0) (fun _ _ e => e)).trans HF3.out (fun i hi e => by omega), .inl ⟨by rw [hC.out]; decide, by rw [hC.out, HZQ.out]⟩⟩)
  · have h1z : ¬ ((L : Int) < 1096) := by omega
    obtain ⟨b, o, hA⟩ := HLI.out.someB (by rw [HLn.out]; omega)
    subst hA
    have HLf := Lib.hid (fun wq (f : Fr (fun _ => False) w0 wq) => HLI.out.fr f (fun _ _ e => e))
    have s3 : ∀ w, (Instr.slice 28 (.slice (some ⟨b, o, none⟩) L cap) none (some (.int .i64 4)) none).run Tryz.prog w = .ok (.slice (some ⟨b, o, none⟩) 4 cap) w := fun w => slice_hdB b o L cap 4 (by have := HC.out; omega) w
    have s4 : ∀ w, (Instr.slice 28 (.slice (some ⟨b, o, none⟩) L cap) (some (.int .i64 4)) (some (.int .i64 8)) none).run Tryz.prog w = .ok (.slice (some ⟨b, o + 4, none⟩) 4 (cap - 4)) w := fun w => by
      have := slice_lhB (some ⟨b, o, none⟩) L cap 4 8 (by omega) (by have := HC.out; omega) w
      rw [tlB, if_neg (by have := HC.out; omega)] at this
      simpa [add_off] using this
    have HL4 := Lib.hid (fun wq (f : Fr (fun _ => False) w0 wq) => (by
      have := (HLf.out wq f).cutB cap 4 4 (by rw [HLn.out]; exact HC.out)
      rw [tlB, if_neg (by have := HC.out; omega)] at this
      simpa [add_off] using this : Lies wq (some ⟨b, o + 4, none⟩) (bytesV ((bs.drop 4).take 4))))
    have hw4l : (bs.take 4).length = 4 := by rw [List.length_take, HLn.out]; omega
    have HCV : Hid (∀ wq, Fr (fun _ => False) w0 wq → (convert 28 9 (.slice (some ⟨b, o, none⟩) 4 cap)).run Tryz.prog wq = .ok (.string (strB (bs.take 4))) wq) := Lib.hid (fun wq f => by
      have h2 := run_convert_lies (P := Tryz.prog) 28 9 5 Tryz.underlying28 Tryz.underlying5 Tryz.underlying9 ((HLf.out wq f).takeB 4) cap
      rw [hw4l] at h2
      exact h2)
    have hwe := eq_word (bs.take 4)
    rw [show decide (bs.take 4 = [73, 78, 68, 88]) = wordB bs from rfl] at hwe
    obtain ⟨X, hX⟩ : ∃ S, strB (bs.take 4) = S := ⟨_, rfl⟩
    rw [hX] at HCV hwe
    have HSM := Lib.hid (fun wq A1 c1 B1 d1 (h1 : Lies wq A1 (bytesV ((bs.drop 4).take 4))) (h2 : Lies wq B1 (bytesV (hiB 1 4 4))) => Same_n A1 B1 c1 d1 4 4 ((bs.drop 4).take 4) (hiB 1 4 4) wq (by rw [List.length_take, List.length_drop, HLn.out]; omega) (hiB_length _ _ _) h1 h2)
    rw [ver_eq bs (by rw [HLn.out]; omega)] at HSM
    clear hX hw4l
    cases hwb : wordB bs
    · have hC : Hid (opE bs = 12) := Lib.hid (HEb.out 12 (by decide) (by rw [HCN.out, if_neg h1, if_pos (.inl hwb)]))
      rw [hwb] at hwe
      have hwl : ¬ (X.toList = [73, 78, 68, 88]) := by simpa using hwe
      have cv0 : ∀ wq : Later w0, (convert 28 9 (.slice (some ⟨b, o, none⟩) 4 cap)).run Tryz.prog wq.w' = .ok (.string X) wq.w' := fun wq => HCV.out _ wq.fr
      clear hwb
      go_enter Tryz.func8, Tryz.ntmps8
      go_upto_region 3 with fail
      have cvd := HCV.out _ ((Fr.refl (fun _ => False) w0).drew)
      go_region
      (
        go_wp2_with (first
          | (refine wpList_build_toQ rfl 38 _ rfl #[] (by first | rfl | simp [Act.eval]) (.agg ZQ) (HBZ.out _) ?_)
          | (refine wpList_store_at rfl 38 _ _ rfl w.heap.size 0 38 ZQ ZQ rfl rfl (HR.out.fr ((Fr.refl (fun _ => False) w0).drew) (fun e => e)) (by rw [HZS.out]; decide) (by rw [HZS.out]; exact size_qx) HZO.out ?_; intro w3 hw3 hf3; rw [laidAt_all _ _ rfl] at hw3; have HW3 := Lib.hid hw3; have HF3 := Lib.hid hf3; clear hw3 hf3))
        (try simp only [Exit.inBlock, Exit.then])
        refine bodyPost_ret (v := .tuple #[.agg ZQ, .int .i64 12]) (results_cell_slot (p := 2) (u := 3) rfl _ _ _ _ _ _ rfl HW3.out Tryz.underlying38 rfl (by rw [HZS.out]; exact size_qx)) rfl ?_
        exact ⟨(HF0.out.trans ((Fr.refl (fun _ => False) w0).drew) (fun _ _ e => e)).trans HF3.out (fun i hi e => by omega), .inl ⟨by rw [hC.out]; decide, by rw [hC.out, HZQ.out]⟩⟩)
    · rw [hwb] at hwe
      have hwl : X.toList = [73, 78, 68, 88] := by simpa using hwe
      have HWB := Lib.hid hwb
      clear hwb
      obtain ⟨T32, hT32⟩ : ∃ T : TypeId, T = 24 := ⟨_, rfl⟩
      obtain ⟨n32, hn32⟩ : ∃ n : Nat, n = 32 := ⟨_, rfl⟩
      have ag32 : ∀ w, (isAgg T32).run Tryz.prog w = .ok true w := by rw [hT32]; exact fun _ => by kernel_rfl
      have sz32 : ∀ w, (sizeOf T32).run Tryz.prog w = .ok n32 w := by rw [hT32, hn32]; exact fun _ => by kernel_rfl
      have HN32 := Lib.hid hn32
      obtain ⟨T33, hT33⟩ : ∃ T : TypeId, T = 38 := ⟨_, rfl⟩
      obtain ⟨n33, hn33⟩ : ∃ n : Nat, n = 33 := ⟨_, rfl⟩
      have ag33 : ∀ w, (isAgg T33).run Tryz.prog w = .ok true w := by rw [hT33]; exact fun _ => by kernel_rfl
      have sz33 : ∀ w, (sizeOf T33).run Tryz.prog w = .ok n33 w := by rw [hT33, hn33]; exact fun _ => by kernel_rfl
      have HN33 := Lib.hid hn33
      go_enter Tryz.func8, Tryz.ntmps8
      rw [show Op.load 24 (.tmp 129) = Op.load T32 (.tmp 129) by rw [hT32], show Op.load 24 (.tmp 136) = Op.load T32 (.tmp 136) by rw [hT32], show Op.load 38 (.tmp 8) = Op.load T33 (.tmp 8) by rw [hT33]]
      clear hT32 hT33 hn32 hn33
      go_upto_region 3 with fail
      refine wp_region_held (S := fun w' => ∃ q : Later w0, w' = q.w') (by kernel_rfl) ?_
      change wpAnyH _ _ _ _ _ _ _ _ (World.drew w0)
      have HFd := Lib.hid (show Fr (fun _ => False) w0 (World.drew w0) from (Fr.refl _ w0).drew)
      obtain ⟨wd, hwd⟩ : ∃ wd, World.drew w0 = wd := ⟨_, rfl⟩
      rw [hwd] at HFd ⊢
      clear hwd
      have HSq := Lib.hid (show ∃ q : Later w0, wd = q.w' from ⟨⟨_, HFd.out⟩, rfl⟩)
      (
        refine wpAnyH_takeX (i := 0) (v := .slice (some ⟨b, o, none⟩) L cap) 22 rfl rfl (by kernel_rfl) (by kernel_rfl) (by kernel_rfl) (fun _ _ _ h => h) (.inl ⟨by rfl, ?_⟩) HSq.out ?_
        · rintro _ ⟨q, rfl⟩
          have cv := HCV.out q.w' q.fr
          go_simp)
      (
        refine wpAnyH_takeX (i := 1) (v := .slice (some ⟨b, o, none⟩) 4 cap) 23 rfl rfl (by kernel_rfl) (by kernel_rfl) (by kernel_rfl) (fun _ _ _ h => h) (.inl ⟨by rfl, ?_⟩) HSq.out ?_
        · rintro _ ⟨q, rfl⟩
          have cv := HCV.out q.w' q.fr
          go_simp)
      (
        refine wpAnyH_takeX (i := 2) (v := .string X) 24 rfl rfl (by kernel_rfl) (by kernel_rfl) (by kernel_rfl) (fun _ _ _ h => h) (.inl ⟨by rfl, ?_⟩) HSq.out ?_
        · rintro _ ⟨q, rfl⟩
          have cv := HCV.out q.w' q.fr
          go_simp)
      (
        refine wpAnyH_takeX (i := 3) (v := .bool false) 25 rfl rfl (by kernel_rfl) (by kernel_rfl) (by kernel_rfl) (fun _ _ _ h => h) (.inl ⟨by rfl, ?_⟩) HSq.out ?_
        · rintro _ ⟨q, rfl⟩
          have cv := HCV.out q.w' q.fr
          go_simp)
      (
        refine wpAnyH_takeX (i := 4) (v := .bool false) 26 rfl rfl (by kernel_rfl) (by kernel_rfl) (by kernel_rfl) (fun _ _ _ h => h) (.inl ⟨by rfl, ?_⟩) HSq.out ?_
        · rintro _ ⟨q, rfl⟩
          have cv := HCV.out q.w' q.fr
          go_simp)
      (
        refine wpAnyH_takeX (i := 5) (v := .slice (some ⟨b, o, none⟩) L cap) 27 rfl rfl (by kernel_rfl) (by kernel_rfl) (by kernel_rfl) (fun _ _ _ h => h) (.inl ⟨by rfl, ?_⟩) HSq.out ?_
        · rintro _ ⟨q, rfl⟩
          have cv := HCV.out q.w' q.fr
          go_simp)
      (
        refine wpAnyH_takeX (i := 6) (v := .slice (some ⟨b, o + 4, none⟩) 4 (cap - 4)) 28 rfl rfl (by kernel_rfl) (by kernel_rfl) (by kernel_rfl) (fun _ _ _ h => h) (.inl ⟨by rfl, ?_⟩) HSq.out ?_
        · rintro _ ⟨q, rfl⟩
          have cv := HCV.out q.w' q.fr
          go_simp)
      clear s3 s4 hwe hwl HSq
      have HB1 := Lib.hid (HBG.out wd)
      (
        try simp only [List.setIfInBounds_toArray, List.set_cons_succ, List.set_cons_zero]
        refine wpAnyH_all (rs := [7]) (by kernel_rfl) (by simp) ?_
        intro i hi
        simp only [List.mem_cons, List.not_mem_nil, or_false] at hi
        subst hi)
      refine wpOp_step rfl (fun K hK => ?_)
      go_simp
      go_wp2_with (go_at_call 20; refine HB1.out.mono ?_; rintro e wf ⟨Af, cf, rfl, -, lf, bf⟩; have HFf := Lib.hid (HFd.out.then_below bf); have HLB := Lib.hid lf; clear lf bf)
      refine ⟨⟨⟨_, HFf.out⟩, rfl⟩, ?_⟩
      have HSM2 := HSM.out wf _ (cap - 4) Af cf (HL4.out wf HFf.out) HLB.out
      obtain ⟨sv, hsv⟩ : ∃ s, decide (u4 bs 4 = 1) = s := ⟨_, rfl⟩
      rw [hsv] at HSM2
      have HS2 := Lib.hid HSM2
      have HSV := Lib.hid hsv
      clear HSM2 hsv
      (
        try simp only [List.setIfInBounds_toArray, List.set_cons_succ, List.set_cons_zero]
        refine wpAnyH_all (rs := [8]) (by kernel_rfl) (by simp) ?_
        intro i hi
        simp only [List.mem_cons, List.not_mem_nil, or_false] at hi
        subst hi)
      refine wpOp_step rfl (fun K hK => ?_)
      go_simp
      go_wp2_with (go_at_call 29; refine HS2.out.mono ?_; rintro e w9 ⟨rfl, rfl⟩)
      refine ⟨⟨⟨_, HFf.out⟩, rfl⟩, ?_⟩
      have HSq := Lib.hid (show ∃ q : Later w0, wf = q.w' from ⟨⟨_, HFf.out⟩, rfl⟩)
      (
        refine wpAnyH_takeX (i := 9) (v := .bool (!sv)) 31 rfl rfl (by kernel_rfl) (by kernel_rfl) (by kernel_rfl) (fun _ _ _ h => h) (.inl ⟨by rfl, ?_⟩) HSq.out ?_
        · rintro wq hq
          go_simp)
      (
        refine wpAnyH_takeX (i := 10) (v := .bool (!sv)) 32 rfl rfl (by kernel_rfl) (by kernel_rfl) (by kernel_rfl) (fun _ _ _ h => h) (.inl ⟨by rfl, ?_⟩) HSq.out ?_
        · rintro wq hq
          go_simp)
      clear HSq
      refine wpAnyH_done (by kernel_rfl) ?_ _
      cases sv
      · have hC : Hid (opE bs = 12) := Lib.hid (HEb.out 12 (by decide) (by rw [HCN.out, if_neg h1, if_pos (.inr (of_decide_eq_false HSV.out))]))
        (
          go_wp2_with (first
            | (refine wpList_build_toQ rfl 38 _ rfl #[] (by first | rfl | simp [Act.eval]) (.agg ZQ) (HBZ.out _) ?_)
            | (refine wpList_store_at rfl 38 _ _ rfl w.heap.size 0 38 ZQ ZQ rfl rfl (HR.out.fr HFf.out (fun e => e)) (by rw [HZS.out]; decide) (by rw [HZS.out]; exact size_qx) HZO.out ?_; intro w3 hw3 hf3; rw [laidAt_all _ _ rfl] at hw3; have HW3 := Lib.hid hw3; have HF3 := Lib.hid hf3; clear hw3 hf3))
          (try simp only [Exit.inBlock, Exit.then])
          refine bodyPost_ret (v := .tuple #[.agg ZQ, .int .i64 12]) (results_cell_slot (p := 2) (u := 3) rfl _ _ _ _ _ _ rfl HW3.out Tryz.underlying38 rfl (by rw [HZS.out]; exact size_qx)) rfl ?_
          exact ⟨(HF0.out.trans HFf.out (fun _ _ e => e)).trans HF3.out (fun i hi e => by omega), .inl ⟨by rw [hC.out]; decide, by rw [hC.out, HZQ.out]⟩⟩)
      · have HV := Lib.hid (of_decide_eq_true HSV.out)
        have HCN2 : Hid (cntR bs = if 600 < u4 bs 1028 then (0, 5) else if L < 1096 + 40 * u4 bs 1028 then (0, 10) else if 1096 + 40 * u4 bs 1028 < L then (0, 11) else (u4 bs 1028, 0)) := Lib.hid (by rw [HCN.out, if_neg h1, if_neg (fun hh => by rcases hh with h | h; (rw [HWB.out] at h; cases h); exact h HV.out)])
        have HU4 := Lib.hid (u4_lt bs 1028)
        have HNB : Hid (nB bs = u4 bs 1028) := Lib.hid rfl
        obtain ⟨w5, hw5⟩ : ∃ w5, wf.alloc (.cells #[.slice (some ⟨b, o, none⟩) L cap, .int .i64 1028, .int .i64 0] 81) = w5 := ⟨_, rfl⟩
        have HF5 := Lib.hid (show Fr (fun _ => False) w0 w5 from by subst hw5; exact HFf.out.alloc _)
        have HQ5 := Lib.hid (show Qd w5 wf.heap.size (some ⟨b, o, none⟩) cap bs 1028 0 from ⟨by rw [HLn.out]; subst hw5; exact Whole.new wf 81 _, HLf.out _ HF5.out, by rw [HLn.out]; omega, by rw [HLn.out]; omega, by rw [HLn.out]; exact HC.out, fun ad e1 e2 => by
          have := lies_below (HLf.out wf HFf.out) (by rw [bytesV_length, HLn.out]; omega) e1
          omega⟩)
        have HB5 := Lib.hid (qBig_ok wf.heap.size (some ⟨b, o, none⟩) cap L bs 1028 HLn.out (by omega) w5 HQ5.out)
        obtain ⟨rd, hrd⟩ : ∃ g, wf.heap.size = g := ⟨_, rfl⟩
        have HRD := Lib.hid hrd
        have HRL := Lib.hid (show w0.heap.size ≤ rd from by rw [← hrd]; exact HFf.out.size)
        rw [hrd] at HQ5 HB5
        obtain ⟨n, hn⟩ : ∃ n, u4 bs 1028 = n := ⟨_, rfl⟩
        rw [hn] at HCN2 HU4 HNB HB5
        have hn4 := HU4.out
        clear hn
        go_upto_region 7 with (go_at_call 30; refine HB5.out.mono ?_; rintro e w6 ⟨rfl, q6, f6⟩; have HQ6 := Lib.hid q6; have HF6 := Lib.hid (HF5.out.trans f6 (fun i hi e => by have := HRL.out; omega)); clear q6 f6)
        by_cases h5 : 600 < n
        · have hC : Hid (opE bs = 5) := Lib.hid (HEb.out 5 (by decide) (by rw [HCN2.out, if_pos h5]))
          have h5z : (600 : Int) < (n : Int) := by omega
          (
            go_wp2_with (first
              | (refine wpList_build_toQ rfl 38 _ rfl #[] (by first | rfl | simp [Act.eval]) (.agg ZQ) (HBZ.out _) ?_)
              | (refine wpList_store_at rfl 38 _ _ rfl w.heap.size 0 38 ZQ ZQ rfl rfl (HR.out.fr HF6.out (fun e => e)) (by rw [HZS.out]; decide) (by rw [HZS.out]; exact size_qx) HZO.out ?_; intro w3 hw3 hf3; rw [laidAt_all _ _ rfl] at hw3; have HW3 := Lib.hid hw3; have HF3 := Lib.hid hf3; clear hw3 hf3))
            (try simp only [Exit.inBlock, Exit.then])
            refine bodyPost_ret (v := .tuple #[.agg ZQ, .int .i64 5]) (results_cell_slot (p := 2) (u := 3) rfl _ _ _ _ _ _ rfl HW3.out Tryz.underlying38 rfl (by rw [HZS.out]; exact size_qx)) rfl ?_
            exact ⟨(HF0.out.trans HF6.out (fun _ _ e => e)).trans HF3.out (fun i hi e => by omega), .inl ⟨by rw [hC.out]; decide, by rw [hC.out, HZQ.out]⟩⟩)
        · have h5z : ¬ ((600 : Int) < (n : Int)) := by omega
          have hwn : IntKind.i64.wrap (n : Int) = n := by rw [IntKind.wrap_i64]; omega
          have hw40 : IntKind.i64.wrap (40 * (n : Int)) = 40 * n := by rw [IntKind.wrap_i64]; omega
          have hw41 : IntKind.i64.wrap (1096 + 40 * (n : Int)) = 1096 + 40 * n := by rw [IntKind.wrap_i64]; omega
          by_cases h6 : L < 1096 + 40 * n
          · have hC : Hid (opE bs = 10) := Lib.hid (HEb.out 10 (by decide) (by rw [HCN2.out, if_neg h5, if_pos h6]))
            have h6z : (L : Int) < 1096 + 40 * (n : Int) := by omega
            (
              go_wp2_with (first
                | (refine wpList_build_toQ rfl 38 _ rfl #[] (by first | rfl | simp [Act.eval]) (.agg ZQ) (HBZ.out _) ?_)
                | (refine wpList_store_at rfl 38 _ _ rfl w.heap.size 0 38 ZQ ZQ rfl rfl (HR.out.fr HF6.out (fun e => e)) (by rw [HZS.out]; decide) (by rw [HZS.out]; exact size_qx) HZO.out ?_; intro w3 hw3 hf3; rw [laidAt_all _ _ rfl] at hw3; have HW3 := Lib.hid hw3; have HF3 := Lib.hid hf3; clear hw3 hf3))
              (try simp only [Exit.inBlock, Exit.then])
              refine bodyPost_ret (v := .tuple #[.agg ZQ, .int .i64 10]) (results_cell_slot (p := 2) (u := 3) rfl _ _ _ _ _ _ rfl HW3.out Tryz.underlying38 rfl (by rw [HZS.out]; exact size_qx)) rfl ?_
              exact ⟨(HF0.out.trans HF6.out (fun _ _ e => e)).trans HF3.out (fun i hi e => by omega), .inl ⟨by rw [hC.out]; decide, by rw [hC.out, HZQ.out]⟩⟩)
          · have h6z : ¬ ((L : Int) < 1096 + 40 * (n : Int)) := by omega
            by_cases h7 : 1096 + 40 * n < L
            · have hC : Hid (opE bs = 11) := Lib.hid (HEb.out 11 (by decide) (by rw [HCN2.out, if_neg h5, if_neg h6, if_pos h7]))
              have h7z : 1096 + 40 * (n : Int) < (L : Int) := by omega
              (
                go_wp2_with (first
                  | (refine wpList_build_toQ rfl 38 _ rfl #[] (by first | rfl | simp [Act.eval]) (.agg ZQ) (HBZ.out _) ?_)
                  | (refine wpList_store_at rfl 38 _ _ rfl w.heap.size 0 38 ZQ ZQ rfl rfl (HR.out.fr HF6.out (fun e => e)) (by rw [HZS.out]; decide) (by rw [HZS.out]; exact size_qx) HZO.out ?_; intro w3 hw3 hf3; rw [laidAt_all _ _ rfl] at hw3; have HW3 := Lib.hid hw3; have HF3 := Lib.hid hf3; clear hw3 hf3))
                (try simp only [Exit.inBlock, Exit.then])
                refine bodyPost_ret (v := .tuple #[.agg ZQ, .int .i64 11]) (results_cell_slot (p := 2) (u := 3) rfl _ _ _ _ _ _ rfl HW3.out Tryz.underlying38 rfl (by rw [HZS.out]; exact size_qx)) rfl ?_
                exact ⟨(HF0.out.trans HF6.out (fun _ _ e => e)).trans HF3.out (fun i hi e => by omega), .inl ⟨by rw [hC.out]; decide, by rw [hC.out, HZQ.out]⟩⟩)
            · have h7z : ¬ (1096 + 40 * (n : Int) < (L : Int)) := by omega
              have HCN3 : Hid (cntR bs = (n, 0)) := Lib.hid (by rw [HCN2.out, if_neg h5, if_neg h6, if_neg h7])
              have HE2 : Hid (opE bs = if sumOk bs = false then 13 else if risB (idsB bs) = false ∨ fanOk bs = false then 18 else if atOk bs = false then 2 else 0) := Lib.hid (by rw [HE.out, HCN3.out]; rfl)
              have hn6 : n ≤ 600 := by omega
              have HLE : Hid (L = 1096 + 40 * n) := Lib.hid (by omega)
              obtain ⟨E, hE⟩ : ∃ E, L = E + 32 := ⟨L - 32, by omega⟩
              have HEL := Lib.hid hE
              have hwE : IntKind.i64.wrap ((L : Int) - 32) = (E : Int) := by rw [IntKind.wrap_i64]; omega
              have HEc : Hid (E ≤ cap ∧ E ≤ 100000) := Lib.hid (by have := HC.out; omega)
              obtain ⟨gs, hgs⟩ : ∃ g, w6.heap.size = g := ⟨_, rfl⟩
              obtain ⟨w7, hw7⟩ : ∃ w7, w6.alloc (.cells #[.slice (some ⟨b, o, none⟩) L cap, .int .i64 E, .int .i64 0] 81) = w7 := ⟨_, rfl⟩
              have HF67 := Lib.hid (show Fr (fun _ => False) w6 w7 from by subst hw7; exact (Fr.refl _ w6).alloc _)
              have HF7 := Lib.hid (HF6.out.trans HF67.out (fun _ _ e => e))
              have HQ7 := Lib.hid (show Qd w7 gs (some ⟨b, o, none⟩) cap bs E 0 from ⟨by rw [HLn.out, ← hgs]; subst hw7; exact Whole.new w6 81 _, HLf.out _ HF7.out, by rw [HLn.out]; omega, by rw [HLn.out]; omega, by rw [HLn.out]; exact HC.out, fun ad e1 e2 => by
                have := lies_below (HLf.out w6 HF6.out) (by rw [bytesV_length, HLn.out]; omega) e1
                omega⟩)
              have HQ67 := Lib.hid (HQ6.out.fr HF67.out (fun e => e) (fun _ _ _ e => e))
              have HGL := Lib.hid (show w0.heap.size ≤ gs ∧ rd < gs from ⟨by rw [← hgs]; exact HF6.out.size, by rw [← hgs]; exact HQ6.out.whole.lt⟩)
              have HID := Lib.hid (fun wq (k : Qd wq gs (some ⟨b, o, none⟩) cap bs E 0) => QIid_any gs (some ⟨b, o, none⟩) cap L bs E HLn.out (by rw [HEL.out]; exact Nat.le_refl _) wq k)
              have hIl : ((bs.drop E).take 32).length = 32 := by rw [List.length_take, List.length_drop, HLn.out]; omega
              rw [← cells_bytes hIl] at HID
              have hel : (bs.take E).length = E := by rw [List.length_take, HLn.out]; omega
              have HQO := Lib.hid (fun wq (f : Fr (fun _ => False) w0 wq) => (by
                have := QOf_any (some ⟨b, o, none⟩) cap (bs.take E) wq ((HLf.out wq f).takeB E) (by rw [hel]; have := HEc.out; omega)
                rw [hel, sumV_sumL] at this
                exact this : Calls Tryz.prog 32 #[.slice (some ⟨b, o, none⟩) E cap] wq _))
              have heq := fun w => eq_idB ((bs.drop E).take 32) (sumL (bs.take E)) hIl (sumL_len _) w
              rw [last_sum bs E (by rw [HLn.out, HEL.out])] at heq
              obtain ⟨V1, hV1⟩ : ∃ V, (bytesV ((bs.drop E).take 32)).toArray = V := ⟨_, rfl⟩
              obtain ⟨U1, hU1⟩ : ∃ V, (bytesV (sumL (bs.take E))).toArray = V := ⟨_, rfl⟩
              rw [hV1] at HID heq
              rw [hU1] at HQO heq
              obtain ⟨sb, hsb⟩ : ∃ s, sumOk bs = s := ⟨_, rfl⟩
              rw [hsb] at heq HE2
              have s15 : ∀ w, (Instr.slice 28 (.slice (some ⟨b, o, none⟩) L cap) none (some (.int .i64 E)) none).run Tryz.prog w = .ok (.slice (some ⟨b, o, none⟩) E cap) w := fun w => slice_hdB b o L cap E HEc.out.1 w
              have HGs := Lib.hid hgs
              clear hE hIl hel hV1 hU1 hsb h5 h6 h7 HCN2 HCN HEb HSM HBG HCV HL4 hw5
              go_upto_region 15 with fail
              clear hgs
              refine wp_region_held (S := fun wq => Fr (fun j => j = gs) w7 wq) (by kernel_rfl) ?_
              change wpAnyH _ _ _ _ _ _ _ _ (World.drew w7)
              have HFd := Lib.hid (show Fr (fun _ => False) w7 (World.drew w7) from (Fr.refl _ w7).drew)
              obtain ⟨w8, hwd⟩ : ∃ wd, World.drew w7 = wd := ⟨_, rfl⟩
              rw [hwd] at HFd ⊢
              clear hwd
              have HSq := Lib.hid (show Fr (fun j => j = gs) w7 w8 from HFd.out.mono (fun _ _ e => e.elim))
              (
                refine wpAnyH_takeX (i := 0) (v := .pointer (some ⟨gs, 0, none⟩)) 64 rfl rfl (by kernel_rfl) (by kernel_rfl) (by kernel_rfl) (fun _ _ _ h => h) (.inl ⟨by rfl, ?_⟩) HSq.out ?_
                · rintro wq hq
                  go_simp)
              (
                refine wpAnyH_takeX (i := 2) (v := .slice (some ⟨b, o, none⟩) L cap) 66 rfl rfl (by kernel_rfl) (by kernel_rfl) (by kernel_rfl) (fun _ _ _ h => h) (.inl ⟨by rfl, ?_⟩) HSq.out ?_
                · rintro wq hq
                  go_simp)
              (
                refine wpAnyH_takeX (i := 3) (v := .slice (some ⟨b, o, none⟩) L cap) 67 rfl rfl (by kernel_rfl) (by kernel_rfl) (by kernel_rfl) (fun _ _ _ h => h) (.inl ⟨by rfl, ?_⟩) HSq.out ?_
                · rintro wq hq
                  go_simp)
              (
                refine wpAnyH_takeX (i := 4) (v := .int .i64 L) 68 rfl rfl (by kernel_rfl) (by kernel_rfl) (by kernel_rfl) (fun _ _ _ h => h) (.inl ⟨by rfl, ?_⟩) HSq.out ?_
                · rintro wq hq
                  go_simp)
              (
                refine wpAnyH_takeX (i := 5) (v := .int .i64 E) 69 rfl rfl (by kernel_rfl) (by kernel_rfl) (by kernel_rfl) (fun _ _ _ h => h) (.inl ⟨by rfl, ?_⟩) HSq.out ?_
                · rintro wq hq
                  go_simp)
              (
                refine wpAnyH_takeX (i := 6) (v := .slice (some ⟨b, o, none⟩) E cap) 70 rfl rfl (by kernel_rfl) (by kernel_rfl) (by kernel_rfl) (fun _ _ _ h => h) (.inl ⟨by rfl, ?_⟩) HSq.out ?_
                · rintro wq hq
                  go_simp)
              clear s15 HSq
              (
                try simp only [List.setIfInBounds_toArray, List.set_cons_succ, List.set_cons_zero]
                refine wpAnyH_all (rs := [1]) (by kernel_rfl) (by simp) ?_
                intro i hi
                simp only [List.mem_cons, List.not_mem_nil, or_false] at hi
                subst hi)
              refine wpOp_step rfl (fun K hK => ?_)
              go_simp
              have hid8 := HID.out w8 (HQ7.out.fr HFd.out (fun e => e) (fun _ _ _ e => e))
              go_wp2_with (go_at_call 31; refine hid8.mono ?_; rintro e wg ⟨rfl, qg, fg⟩; have HFg := Lib.hid (show Fr (fun j => j = gs) w8 wg from fg); clear qg fg)
              have HSg := Lib.hid (show Fr (fun j => j = gs) w7 wg from (HFd.out.mono (T := fun j => j = gs) (fun _ _ e => e.elim)).trans HFg.out (fun _ _ e => e))
              have HFG := Lib.hid (show Fr (fun _ => False) w0 wg from HF7.out.trans HSg.out (fun i hi e => by have := HGL.out.1; omega))
              refine ⟨HSg.out, ?_⟩
              have hqo := HQO.out wg HFG.out
              (
                try simp only [List.setIfInBounds_toArray, List.set_cons_succ, List.set_cons_zero]
                refine wpAnyH_all (rs := [7]) (by kernel_rfl) (by simp) ?_
                intro i hi
                simp only [List.mem_cons, List.not_mem_nil, or_false] at hi
                subst hi)
              refine wpOp_step rfl (fun K hK => ?_)
              go_simp
              go_wp2_with (go_at_call 32; refine hqo.mono ?_; rintro e wh ⟨rfl, bh⟩; have HBh := Lib.hid bh; clear bh)
              have HSh := Lib.hid (show Fr (fun j => j = gs) w7 wh from HSg.out.trans (Fr.of_below (S := fun _ => False) HBh.out) (fun _ _ e => e.elim))
              have HFH := Lib.hid (show Fr (fun _ => False) w0 wh from HF7.out.trans HSh.out (fun i hi e => by have := HGL.out.1; omega))
              refine ⟨HSh.out, ?_⟩
              have HSq := HSh
              (
                refine wpAnyH_takeX (i := 8) (v := .bool (!sb)) 72 rfl rfl (by kernel_rfl) (by kernel_rfl) (by kernel_rfl) (fun _ _ _ h => h) (.inl ⟨by rfl, ?_⟩) HSq.out ?_
                · rintro wq hq
                  go_simp)
              clear HSq heq hqo hid8
              refine wpAnyH_done (by kernel_rfl) ?_ _
              cases sb
              · have hC : Hid (opE bs = 13) := Lib.hid (by rw [HE2.out]; rfl)
                (
                  go_wp2_with (first
                    | (refine wpList_build_toQ rfl 38 _ rfl #[] (by first | rfl | simp [Act.eval]) (.agg ZQ) (HBZ.out _) ?_)
                    | (refine wpList_store_at rfl 38 _ _ rfl w.heap.size 0 38 ZQ ZQ rfl rfl (HR.out.fr HFH.out (fun e => e)) (by rw [HZS.out]; decide) (by rw [HZS.out]; exact size_qx) HZO.out ?_; intro w3 hw3 hf3; rw [laidAt_all _ _ rfl] at hw3; have HW3 := Lib.hid hw3; have HF3 := Lib.hid hf3; clear hw3 hf3))
                  (try simp only [Exit.inBlock, Exit.then])
                  refine bodyPost_ret (v := .tuple #[.agg ZQ, .int .i64 13]) (results_cell_slot (p := 2) (u := 3) rfl _ _ _ _ _ _ rfl HW3.out Tryz.underlying38 rfl (by rw [HZS.out]; exact size_qx)) rfl ?_
                  exact ⟨(HF0.out.trans HFH.out (fun _ _ e => e)).trans HF3.out (fun i hi e => by omega), .inl ⟨by rw [hC.out]; decide, by rw [hC.out, HZQ.out]⟩⟩)
              · have HQH := Lib.hid (show Qd wh rd (some ⟨b, o, none⟩) cap bs 1032 0 from HQ67.out.fr HSh.out (fun e => by have := HGL.out.2; omega) (fun ad e1 e2 e3 => by
                  have := lies_below (HLf.out w6 HF6.out) (by rw [bytesV_length, HLn.out, HEL.out]; omega) e1
                  have := HGs.out
                  omega))
                have HE3 : Hid (opE bs = if risB (idsB bs) = false ∨ fanOk bs = false then 18 else if atOk bs = false then 2 else 0) := Lib.hid (by rw [HE2.out]; rfl)
                have HNL : Hid (∀ ad, (some (⟨b, o, none⟩ : Addr)) = some ad → bs ≠ [] → ad.block < rd) := Lib.hid (fun ad e1 _ => by
                  have := lies_below (HLf.out wf HFf.out) (by rw [bytesV_length, HLn.out, HEL.out]; omega) e1
                  have := HRD.out
                  omega)
                have HRX := Lib.hid (show rd < wh.heap.size from HQH.out.whole.lt)
                obtain ⟨w9, hw9⟩ : ∃ w9, wh.alloc (.cells zqx 38) = w9 := ⟨_, rfl⟩
                have HF9 := Lib.hid (show Fr (fun _ => False) wh w9 from by subst hw9; exact (Fr.refl _ wh).alloc _)
                have HS9 := Lib.hid (show w9.heap.size = wh.heap.size + 1 from by subst hw9; simp)
                have HX9 := Lib.hid (show Whole w9 wh.heap.size 38 (qixC (.slice none 0 0) (idC (dgt 0))) from by subst hw9; rw [zero_id, ← zqx_eq]; exact Whole.new wh 38 _)
                have HQ9 := Lib.hid (HQH.out.fr HF9.out (fun e => e) (fun _ _ _ e => e))
                have HFA := Lib.hid (HFH.out.trans HF9.out (fun _ _ e => e))
                obtain ⟨X, hX⟩ : ∃ g, wh.heap.size = g := ⟨_, rfl⟩
                rw [hX] at HRX HS9 HX9
                have HXS := Lib.hid (show X < w9.heap.size from by have := HS9.out; omega)
                have HXL := Lib.hid (show w0.heap.size ≤ X from by have := HRL.out; have := HRX.out; omega)
                unfold zqx at hw9
                simp [List.replicate] at hw9
                have HST0 := Lib.hid (show Sx w9 rd X (some ⟨b, o, none⟩) cap bs w9 (.slice none 0 0) (psR bs 0 0 0) 0 1032 from ⟨HX9.out, World.ownsRow_nil _ _ _ _, HQ9.out, Fr.refl _ _⟩)
                have HKY := Lib.hid (fun k (hk : k < n) => (by
                  have h1 := id_mid bs n (1024 + 32 * k) (by rw [HLn.out]; exact HLE.out) (by omega)
                  rw [show 8 + (1024 + 32 * k) = 1032 + 32 * k by omega] at h1
                  rw [h1]
                  rfl : bigV ((bs.drop (1032 + 32 * k)).take 32) = keyR (midB bs) k))
                obtain ⟨i0, hi, hz0, hz1, hz2⟩ := info_parts info_q
                go_upto_region 18 with fail
                clear hX hw9
                go_upto_block 0 with fail
                go_cut [] (fun wc => ∃ v, Hid (Sx w9 rd X (some ⟨b, o, none⟩) cap bs wc v (psR bs n 0 0) 0 (1032 + 32 * n)))
                case first =>
                  go_wp2_with fail
                  go_loopg [9] n (fun kx s9 wr => ∃ (k : Nat), s9 = .int .i64 k ∧ k ≤ n ∧ n - k ≤ kx ∧ ∃ v, Hid (Sx w9 rd X (some ⟨b, o, none⟩) cap bs wr v (psR bs k 0 0) 0 (1032 + 32 * k)))
                  case atStart => exact ⟨0, rfl, by omega, by omega, _, HST0⟩
                  case round =>
                    obtain ⟨k, rfl, hk, hkx, v, HST⟩ := hrel
                    obtain ⟨wo, rfl⟩ : ∃ wo, wo = wr := ⟨wr, rfl⟩
                    have wk := wrap_nat k (by omega)
                    by_cases hlt : k < n
                    · have hltz : (k : Int) < n := by omega
                      have hp : bigV ((bs.drop (1032 + 32 * k)).take 32) = keyR (midB bs) k := HKY.out k hlt
                      have hid := fun wq (q : Qd wq rd (some ⟨b, o, none⟩) cap bs (1032 + 32 * k) 0) => QIid_any rd (some ⟨b, o, none⟩) cap L bs (1032 + 32 * k) HLn.out (by have := HLE.out; omega) wq q
                      rw [hp] at hid
                      have HSN := Lib.hid (psR_snoc bs k)
                      have HPL : Hid (k = (psR bs k 0 0).length) := Lib.hid (psR_len bs k 0 0).symm
                      obtain ⟨x, hx⟩ : ∃ x, keyR (midB bs) k = x := ⟨_, rfl⟩
                      rw [hx] at hid HSN
                      have hbq := fun w => build_q1 x w
                      have HBs := Lib.hid (fun w => build_q ⟨x, 0, 0⟩ w)
                      obtain ⟨ca, hca⟩ : ∃ c, idC (dgt x) = c := ⟨_, rfl⟩
                      obtain ⟨pc, hpc⟩ : ∃ c, Pl.cells ⟨x, 0, 0⟩ = c := ⟨_, rfl⟩
                      rw [hca] at hid hbq
                      rw [hpc] at hbq HBs
                      have HPC := Lib.hid hpc
                      have HIK := Lib.hid hid
                      obtain ⟨P, hP⟩ : ∃ P, 1032 + 32 * k = P := ⟨_, rfl⟩
                      rw [hP] at HST HIK
                      have HPd : Hid (P + 32 = 1032 + 32 * (k + 1)) := Lib.hid (by omega)
                      clear hp hid hx hca hpc hP
                      go_upto_region 21 with fail
                      refine wp_region_held (S := fun _ => True) (by kernel_rfl) ?_
                      change wpAnyH _ _ _ _ _ _ _ _ (World.drew wo)
                      have HSD := Lib.hid (HST.out.frF (Fr.refl (fun _ => False) wo).drew)
                      obtain ⟨wd, hwd⟩ : ∃ wd, World.drew wo = wd := ⟨_, rfl⟩
                      rw [hwd] at HSD ⊢
                      clear hwd
                      have HSq := Lib.hid True.intro
                      have cX := HSD.out.at
                      (
                        refine wpAnyH_takeX (i := 0) (v := .pointer (some ⟨X, 0, none⟩)) 79 rfl rfl (by kernel_rfl) (by kernel_rfl) (by kernel_rfl) (fun _ _ _ h => h) (.inl ⟨by rfl, ?_⟩) HSq.out ?_
                        · intro wq hq
                          go_simp)
                      (
                        refine wpAnyH_takeX (i := 2) (v := .pointer (some ⟨rd, 0, none⟩)) 81 rfl rfl (by kernel_rfl) (by kernel_rfl) (by kernel_rfl) (fun _ _ _ h => h) (.inl ⟨by rfl, ?_⟩) HSq.out ?_
                        · intro wq hq
                          go_simp)
                      simp only [List.setIfInBounds_toArray, List.set_cons_succ, List.set_cons_zero]
                      refine wpAnyH_all (rs := [1, 3]) (by kernel_rfl) (by simp) ?_
                      intro i hi
                      simp only [List.mem_cons, List.not_mem_nil, or_false] at hi
                      rcases hi with rfl | rfl
                      · (
                        refine wpOp_step rfl (fun K hK => ?_)
                        go_simp
                        refine hK _ _ ⟨True.intro, ?_⟩
                        clear hK K)
                        (
                          try simp only [List.setIfInBounds_toArray]
                          refine wpAnyH_all (rs := [3]) (by kernel_rfl) (by simp) ?_
                          intro i hi
                          simp only [List.mem_cons, List.not_mem_nil, or_false] at hi
                          subst hi)
                        (
                          refine wpOp_step rfl (fun K hK => ?_)
                          go_simp
                          go_wp2_with (go_at_call 31; refine (HIK.out wd (HSD.out).q).mono ?_; rintro e wg ⟨rfl, qg, fg⟩; rw [HPd.out] at qg; have HSG := Lib.hid ((HSD.out).read qg fg HRX.out HXS.out); clear qg fg)
                          refine ⟨True.intro, ?_⟩)
                        (
                          refine wpAnyH_takeX (i := 4) (v := .agg pc) 83 rfl rfl (by kernel_rfl) (by kernel_rfl) (by kernel_rfl) (fun _ _ _ h => h) (yieldsIf_buildQ (by kernel_rfl) 46 _ rfl #[(0, .agg ca)] (by kernel_rfl) _ hbq) HSq.out ?_)
                        (
                          try simp only [List.setIfInBounds_toArray, List.set_cons_succ, List.set_cons_zero]
                          refine wpAnyH_all (rs := [5]) (by kernel_rfl) (by simp) ?_
                          intro i hi
                          simp only [List.mem_cons, List.not_mem_nil, or_false] at hi
                          subst hi)
                        (
                          refine wpOp_step rfl (fun K hK => ?_)
                          refine step_buildSliceQ (by rfl) 31 1 _ (by rfl) #[(0, .agg pc)] (by first | rfl | simp [Act.eval]) _ _ (HBs.out wg) ?_
                          obtain ⟨we, hwe⟩ : ∃ we, wg.alloc (.cells pc 46) = we := ⟨_, rfl⟩
                          have HSr := Lib.hid (src_q wg ⟨x, 0, 0⟩ pc HPC.out)
                          have HSE := Lib.hid (HSG.out.frF (show Fr (fun _ => False) wg we from by rw [← hwe]; exact (Fr.refl _ wg).alloc _))
                          rw [hwe] at HSr ⊢
                          refine hK _ _ ⟨True.intro, ?_⟩
                          clear hK K hwe
                          try simp only [Act.put])
                        (
                          try simp only [List.setIfInBounds_toArray]
                          refine wpAnyH_all (rs := [6]) (by kernel_rfl) (by simp) ?_
                          intro i hi
                          simp only [List.mem_cons, List.not_mem_nil, or_false] at hi
                          subst hi)
                        (
                          refine wpOp_step rfl (fun K hK => ?_)
                          refine step_append_row _ (by rfl) (.tmp 80) (.tmp 84) 31 31 (by rfl) w9.heap.size 46 i0 (.agg zeroPl) 34 48 Tryz.underlying31 hi hz0 hz1 hz2 (by rfl) v k (flatP (psR bs k 0 0)) (by rfl) (by have := HSE.out.l; rw [← HPL.out] at this; exact this) _ 1 (flatP [⟨x, 0, 0⟩]) (by rfl) HSr.out (by unfold maxLen; omega) (by omega) (by have := HSE.out.f.size; omega) ?_
                          intro v' w5 o1 g1 at1
                          have HS5 := Lib.hid (HSE.out.put HRX.out HXS.out HNL.out HPL.out o1 g1)
                          have hw5 : Whole w5 X 38 (qixC v (idC (dgt 0))) := HSE.out.x.fr ((Fr.refl (fun j => v.ownBlock = some j) we).grown g1 (fun j e _ => e)) (fun e => by have := HSE.out.own X e; have := HXS.out; omega)
                          have hx5 : w5.cell? ⟨X, 0, none⟩ = some v := by rw [hw5.cell]; exact qixC_at _ _
                          have hz5 := hw5.frozen 0
                          obtain ⟨A5, c5, hv5, -⟩ := own_slice o1
                          subst hv5
                          clear o1 g1 at1 hw5
                          refine hK _ _ ⟨True.intro, ?_⟩
                          clear hK K
                          try simp only [Act.put]
                          (
                            refine wpAnyH_takeX (i := 7) (v := .pointer (some ⟨X, 0, none⟩)) 86 rfl rfl (by kernel_rfl) (by kernel_rfl) (by kernel_rfl) (fun _ _ _ h => h) (.inl ⟨by rfl, ?_⟩) HSq.out ?_
                            · intro wq hq
                              go_simp)
                          (
                            try simp only [List.setIfInBounds_toArray, List.set_cons_succ, List.set_cons_zero]
                            refine wpAnyH_all (rs := [8]) (by kernel_rfl) (by simp) ?_
                            intro i hi
                            simp only [List.mem_cons, List.not_mem_nil, or_false] at hi
                            subst hi)
                          refine wpOp_step rfl (fun K hK => ?_)
                          go_simp
                          refine hK _ _ ⟨True.intro, ?_⟩
                          clear hK K
                          refine wpAnyH_done (by kernel_rfl) ?_ _
                          go_wp2_with fail
                          go_roundg (n - (k + 1))
                          case measure => omega
                          case rel => exact ⟨k + 1, by go_num, by omega, Nat.le_refl _, _, Lib.hid (by rw [HSN.out]; exact HS5.out)⟩)
                      · (
                        refine wpOp_step rfl (fun K hK => ?_)
                        go_simp
                        go_wp2_with (go_at_call 31; refine (HIK.out wd (HSD.out).q).mono ?_; rintro e wg ⟨rfl, qg, fg⟩; rw [HPd.out] at qg; have HSG := Lib.hid ((HSD.out).read qg fg HRX.out HXS.out); clear qg fg)
                        refine ⟨True.intro, ?_⟩)
                        (
                          refine wpAnyH_takeX (i := 4) (v := .agg pc) 83 rfl rfl (by kernel_rfl) (by kernel_rfl) (by kernel_rfl) (fun _ _ _ h => h) (yieldsIf_buildQ (by kernel_rfl) 46 _ rfl #[(0, .agg ca)] (by kernel_rfl) _ hbq) HSq.out ?_)
                        simp only [List.setIfInBounds_toArray, List.set_cons_succ, List.set_cons_zero]
                        refine wpAnyH_all (rs := [1, 5]) (by kernel_rfl) (by simp) ?_
                        intro i hi
                        simp only [List.mem_cons, List.not_mem_nil, or_false] at hi
                        rcases hi with rfl | rfl
                        · have cX2 := HSG.out.at
                          (
                            refine wpOp_step rfl (fun K hK => ?_)
                            go_simp
                            refine hK _ _ ⟨True.intro, ?_⟩
                            clear hK K)
                          (
                            try simp only [List.setIfInBounds_toArray]
                            refine wpAnyH_all (rs := [5]) (by kernel_rfl) (by simp) ?_
                            intro i hi
                            simp only [List.mem_cons, List.not_mem_nil, or_false] at hi
                            subst hi)
                          (
                            refine wpOp_step rfl (fun K hK => ?_)
                            refine step_buildSliceQ (by rfl) 31 1 _ (by rfl) #[(0, .agg pc)] (by first | rfl | simp [Act.eval]) _ _ (HBs.out wg) ?_
                            obtain ⟨we, hwe⟩ : ∃ we, wg.alloc (.cells pc 46) = we := ⟨_, rfl⟩
                            have HSr := Lib.hid (src_q wg ⟨x, 0, 0⟩ pc HPC.out)
                            have HSE := Lib.hid (HSG.out.frF (show Fr (fun _ => False) wg we from by rw [← hwe]; exact (Fr.refl _ wg).alloc _))
                            rw [hwe] at HSr ⊢
                            refine hK _ _ ⟨True.intro, ?_⟩
                            clear hK K hwe
                            try simp only [Act.put])
                          (
                            try simp only [List.setIfInBounds_toArray]
                            refine wpAnyH_all (rs := [6]) (by kernel_rfl) (by simp) ?_
                            intro i hi
                            simp only [List.mem_cons, List.not_mem_nil, or_false] at hi
                            subst hi)
                          (
                            refine wpOp_step rfl (fun K hK => ?_)
                            refine step_append_row _ (by rfl) (.tmp 80) (.tmp 84) 31 31 (by rfl) w9.heap.size 46 i0 (.agg zeroPl) 34 48 Tryz.underlying31 hi hz0 hz1 hz2 (by rfl) v k (flatP (psR bs k 0 0)) (by rfl) (by have := HSE.out.l; rw [← HPL.out] at this; exact this) _ 1 (flatP [⟨x, 0, 0⟩]) (by rfl) HSr.out (by unfold maxLen; omega) (by omega) (by have := HSE.out.f.size; omega) ?_
                            intro v' w5 o1 g1 at1
                            have HS5 := Lib.hid (HSE.out.put HRX.out HXS.out HNL.out HPL.out o1 g1)
                            have hw5 : Whole w5 X 38 (qixC v (idC (dgt 0))) := HSE.out.x.fr ((Fr.refl (fun j => v.ownBlock = some j) we).grown g1 (fun j e _ => e)) (fun e => by have := HSE.out.own X e; have := HXS.out; omega)
                            have hx5 : w5.cell? ⟨X, 0, none⟩ = some v := by rw [hw5.cell]; exact qixC_at _ _
                            have hz5 := hw5.frozen 0
                            obtain ⟨A5, c5, hv5, -⟩ := own_slice o1
                            subst hv5
                            clear o1 g1 at1 hw5
                            refine hK _ _ ⟨True.intro, ?_⟩
                            clear hK K
                            try simp only [Act.put]
                            (
                              refine wpAnyH_takeX (i := 7) (v := .pointer (some ⟨X, 0, none⟩)) 86 rfl rfl (by kernel_rfl) (by kernel_rfl) (by kernel_rfl) (fun _ _ _ h => h) (.inl ⟨by rfl, ?_⟩) HSq.out ?_
                              · intro wq hq
                                go_simp)
                            (
                              try simp only [List.setIfInBounds_toArray, List.set_cons_succ, List.set_cons_zero]
                              refine wpAnyH_all (rs := [8]) (by kernel_rfl) (by simp) ?_
                              intro i hi
                              simp only [List.mem_cons, List.not_mem_nil, or_false] at hi
                              subst hi)
                            refine wpOp_step rfl (fun K hK => ?_)
                            go_simp
                            refine hK _ _ ⟨True.intro, ?_⟩
                            clear hK K
                            refine wpAnyH_done (by kernel_rfl) ?_ _
                            go_wp2_with fail
                            go_roundg (n - (k + 1))
                            case measure => omega
                            case rel => exact ⟨k + 1, by go_num, by omega, Nat.le_refl _, _, Lib.hid (by rw [HSN.out]; exact HS5.out)⟩)
                        · (
                          refine wpOp_step rfl (fun K hK => ?_)
                          refine step_buildSliceQ (by rfl) 31 1 _ (by rfl) #[(0, .agg pc)] (by first | rfl | simp [Act.eval]) _ _ (HBs.out wg) ?_
                          obtain ⟨we, hwe⟩ : ∃ we, wg.alloc (.cells pc 46) = we := ⟨_, rfl⟩
                          have HSr := Lib.hid (src_q wg ⟨x, 0, 0⟩ pc HPC.out)
                          have HSE := Lib.hid (HSG.out.frF (show Fr (fun _ => False) wg we from by rw [← hwe]; exact (Fr.refl _ wg).alloc _))
                          rw [hwe] at HSr ⊢
                          refine hK _ _ ⟨True.intro, ?_⟩
                          clear hK K hwe
                          try simp only [Act.put])
                          have cX2 := HSE.out.at
                          (
                            try simp only [List.setIfInBounds_toArray]
                            refine wpAnyH_all (rs := [1]) (by kernel_rfl) (by simp) ?_
                            intro i hi
                            simp only [List.mem_cons, List.not_mem_nil, or_false] at hi
                            subst hi)
                          (
                            refine wpOp_step rfl (fun K hK => ?_)
                            go_simp
                            refine hK _ _ ⟨True.intro, ?_⟩
                            clear hK K)
                          (
                            try simp only [List.setIfInBounds_toArray]
                            refine wpAnyH_all (rs := [6]) (by kernel_rfl) (by simp) ?_
                            intro i hi
                            simp only [List.mem_cons, List.not_mem_nil, or_false] at hi
                            subst hi)
                          (
                            refine wpOp_step rfl (fun K hK => ?_)
                            refine step_append_row _ (by rfl) (.tmp 80) (.tmp 84) 31 31 (by rfl) w9.heap.size 46 i0 (.agg zeroPl) 34 48 Tryz.underlying31 hi hz0 hz1 hz2 (by rfl) v k (flatP (psR bs k 0 0)) (by rfl) (by have := HSE.out.l; rw [← HPL.out] at this; exact this) _ 1 (flatP [⟨x, 0, 0⟩]) (by rfl) HSr.out (by unfold maxLen; omega) (by omega) (by have := HSE.out.f.size; omega) ?_
                            intro v' w5 o1 g1 at1
                            have HS5 := Lib.hid (HSE.out.put HRX.out HXS.out HNL.out HPL.out o1 g1)
                            have hw5 : Whole w5 X 38 (qixC v (idC (dgt 0))) := HSE.out.x.fr ((Fr.refl (fun j => v.ownBlock = some j) we).grown g1 (fun j e _ => e)) (fun e => by have := HSE.out.own X e; have := HXS.out; omega)
                            have hx5 : w5.cell? ⟨X, 0, none⟩ = some v := by rw [hw5.cell]; exact qixC_at _ _
                            have hz5 := hw5.frozen 0
                            obtain ⟨A5, c5, hv5, -⟩ := own_slice o1
                            subst hv5
                            clear o1 g1 at1 hw5
                            refine hK _ _ ⟨True.intro, ?_⟩
                            clear hK K
                            try simp only [Act.put]
                            (
                              refine wpAnyH_takeX (i := 7) (v := .pointer (some ⟨X, 0, none⟩)) 86 rfl rfl (by kernel_rfl) (by kernel_rfl) (by kernel_rfl) (fun _ _ _ h => h) (.inl ⟨by rfl, ?_⟩) HSq.out ?_
                              · intro wq hq
                                go_simp)
                            (
                              try simp only [List.setIfInBounds_toArray, List.set_cons_succ, List.set_cons_zero]
                              refine wpAnyH_all (rs := [8]) (by kernel_rfl) (by simp) ?_
                              intro i hi
                              simp only [List.mem_cons, List.not_mem_nil, or_false] at hi
                              subst hi)
                            refine wpOp_step rfl (fun K hK => ?_)
                            go_simp
                            refine hK _ _ ⟨True.intro, ?_⟩
                            clear hK K
                            refine wpAnyH_done (by kernel_rfl) ?_ _
                            go_wp2_with fail
                            go_roundg (n - (k + 1))
                            case measure => omega
                            case rel => exact ⟨k + 1, by go_num, by omega, Nat.le_refl _, _, Lib.hid (by rw [HSN.out]; exact HS5.out)⟩)
                    · have hltz : ¬ ((k : Int) < n) := by omega
                      obtain rfl : n = k := by omega
                      go_wp2_with fail
                      go_meet
                      case rel => exact ⟨v, HST⟩
                case rest =>
                  obtain ⟨v, HST⟩ := hcut
                  go_step
                  go_upto_block 2 with fail
                  go_cut [] (fun wc => ∃ v, Hid (Sx w9 rd X (some ⟨b, o, none⟩) cap bs wc v (psR bs n n 0) 0 (1032 + 32 * n + 4 * n)))
                  case first =>
                    go_wp2_with fail
                    go_loopg [10] n (fun kx s9 wr => ∃ (k : Nat), s9 = .int .i64 k ∧ k ≤ n ∧ n - k ≤ kx ∧ ∃ v, Hid (Sx w9 rd X (some ⟨b, o, none⟩) cap bs wr v (psR bs n k 0) 0 (1032 + 32 * n + 4 * k)))
                    case atStart => exact ⟨0, rfl, by omega, by omega, v, HST⟩
                    case round =>
                      obtain ⟨k, rfl, hk, hkx, v, HST⟩ := hrel
                      obtain ⟨wo, rfl⟩ : ∃ wo, wo = wr := ⟨wr, rfl⟩
                      have wk := wrap_nat k (by omega)
                      by_cases hlt : k < n
                      · have hltz : (k : Int) < n := by omega
                        have hk0 : (0 : Int) ≤ k := by omega
                        have hu := u4_mid bs n (1024 + 32 * n + 4 * k) (by rw [HLn.out]; exact HLE.out) (by omega)
                        rw [show 8 + (1024 + 32 * n + 4 * k) = 1032 + 32 * n + 4 * k by omega] at hu
                        have hbg := fun wq (q : Qd wq rd (some ⟨b, o, none⟩) cap bs (1032 + 32 * n + 4 * k) 0) => qBig_ok rd (some ⟨b, o, none⟩) cap L bs (1032 + 32 * n + 4 * k) HLn.out (by have := HLE.out; omega) wq q
                        rw [hu] at hbg
                        have hset := psR_sm bs n k 0 hlt
                        rw [HNB.out] at hset
                        have hxl := u4_lt (midB bs) (1024 + 32 * n + 4 * k)
                        have hset2 : (flatP (psR bs n k 0)).set (k * 34 + 33) (.int .u32 (u4 (midB bs) (1024 + 32 * n + 4 * k) : Nat)) = flatP (psR bs n (k + 1) 0) := hset
                        obtain ⟨x, hx⟩ : ∃ x, u4 (midB bs) (1024 + 32 * n + 4 * k) = x := ⟨_, rfl⟩
                        rw [hx] at hbg hset2 hxl
                        have hwx : IntKind.u32.wrap (x : Int) = x := by rw [IntKind.wrap_u32]; omega
                        have HSET := Lib.hid hset2
                        have HBK := Lib.hid hbg
                        obtain ⟨g, c9, hv, hc9, hg9, hgl, hlg⟩ := HST.out.row (by rw [psR_len]; omega)
                        rw [psR_len] at hv hc9
                        subst hv
                        have HG9 := Lib.hid hg9
                        obtain ⟨P, hP⟩ : ∃ P, 1032 + 32 * n + 4 * k = P := ⟨_, rfl⟩
                        rw [hP] at HST HBK
                        have HPd : Hid (P + 4 = 1032 + 32 * n + 4 * (k + 1)) := Lib.hid (by omega)
                        clear hu hbg hset hset2 hx hP hg9 hgl hlg
                        go_upto_region 25 with fail
                        refine wp_region_held (S := fun _ => True) (by kernel_rfl) ?_
                        change wpAnyH _ _ _ _ _ _ _ _ (World.drew wo)
                        have HSD := Lib.hid (HST.out.frF (Fr.refl (fun _ => False) wo).drew)
                        obtain ⟨wd, hwd⟩ : ∃ wd, World.drew wo = wd := ⟨_, rfl⟩
                        rw [hwd] at HSD ⊢
                        clear hwd
                        have HSq := Lib.hid True.intro
                        have cX := HSD.out.at
                        (
                          refine wpAnyH_takeX (i := 0) (v := .pointer (some ⟨X, 0, none⟩)) 92 rfl rfl (by kernel_rfl) (by kernel_rfl) (by kernel_rfl) (fun _ _ _ h => h) (.inl ⟨by rfl, ?_⟩) HSq.out ?_
                          · intro wq hq
                            go_simp)
                        (
                          refine wpAnyH_takeX (i := 2) (v := .int .i64 k) 94 rfl rfl (by kernel_rfl) (by kernel_rfl) (by kernel_rfl) (fun _ _ _ h => h) (.inl ⟨by rfl, ?_⟩) HSq.out ?_
                          · intro wq hq
                            go_simp)
                        (
                          refine wpAnyH_takeX (i := 3) (v := .pointer (some ⟨rd, 0, none⟩)) 95 rfl rfl (by kernel_rfl) (by kernel_rfl) (by kernel_rfl) (fun _ _ _ h => h) (.inl ⟨by rfl, ?_⟩) HSq.out ?_
                          · intro wq hq
                            go_simp)
                        simp only [List.setIfInBounds_toArray, List.set_cons_succ, List.set_cons_zero]
                        refine wpAnyH_all (rs := [1, 4]) (by kernel_rfl) (by simp) ?_
                        intro i hi
                        simp only [List.mem_cons, List.not_mem_nil, or_false] at hi
                        rcases hi with rfl | rfl
                        · (
                          refine wpOp_step rfl (fun K hK => ?_)
                          go_simp
                          refine hK _ _ ⟨True.intro, ?_⟩
                          clear hK K)
                          (
                            try simp only [List.setIfInBounds_toArray]
                            refine wpAnyH_all (rs := [4]) (by kernel_rfl) (by simp) ?_
                            intro i hi
                            simp only [List.mem_cons, List.not_mem_nil, or_false] at hi
                            subst hi)
                          (
                            refine wpOp_step rfl (fun K hK => ?_)
                            go_simp
                            go_wp2_with (go_at_call 30; refine (HBK.out wd (HSD.out).q).mono ?_; rintro e wg ⟨rfl, qg, fg⟩; rw [HPd.out] at qg; have HSG := Lib.hid ((HSD.out).read qg fg HRX.out HXS.out); clear qg fg)
                            refine ⟨True.intro, ?_⟩)
                          (
                            refine wpAnyH_takeX (i := 5) (v := .int .u32 x) 97 rfl rfl (by kernel_rfl) (by kernel_rfl) (by kernel_rfl) (fun _ _ _ h => h) (.inl ⟨by rfl, ?_⟩) HSq.out ?_
                            · intro wq hq
                              go_simp)
                          (
                            (
                              refine wpAnyH_takeX (i := 6) (v := .pointer (some ⟨g, k * 34, none⟩)) 98 rfl rfl (by kernel_rfl) (by kernel_rfl) (by kernel_rfl) (fun _ _ _ h => h) (.inl ⟨by rfl, ?_⟩) HSq.out ?_
                              · intro wq hq
                                go_simp)
                            (
                              refine wpAnyH_takeX (i := 7) (v := .pointer (some ⟨g, k * 34 + 33, none⟩)) 99 rfl rfl (by kernel_rfl) (by kernel_rfl) (by kernel_rfl) (fun _ _ _ h => h) (.inl ⟨by rfl, ?_⟩) HSq.out ?_
                              · intro wq hq
                                go_simp)
                            have HN := Lib.hid (HSG.out.cell HRX.out HXS.out HNL.out (psR_len bs n _ _) (k * 34 + 33) (.int .u32 x) HSET.out (by rw [psR_len, psR_len]) HG9.out)
                            have hl9 := HSG.out.l
                            rw [psR_len] at hl9
                            have hc := World.ownsRow.cellAt hl9 (k * 34 + 33) (by omega)
                            have hz := World.ownsRow.frozenAt hl9 (k * 34 + 33)
                            obtain ⟨u0, hu0⟩ : ∃ u, (flatP (psR bs n k 0))[k * 34 + 33]? = some u := ⟨_, List.getElem?_eq_getElem (by rw [flatP_len, psR_len]; omega)⟩
                            rw [hu0] at hc
                            clear hl9 hu0
                            (
                              try simp only [List.setIfInBounds_toArray, List.set_cons_succ, List.set_cons_zero]
                              refine wpAnyH_all (rs := [8]) (by kernel_rfl) (by simp) ?_
                              intro i hi
                              simp only [List.mem_cons, List.not_mem_nil, or_false] at hi
                              subst hi)
                            refine wpOp_step rfl (fun K hK => ?_)
                            go_simp
                            refine hK _ _ ⟨True.intro, ?_⟩
                            clear hK K
                            refine wpAnyH_done (by kernel_rfl) ?_ _
                            go_wp2_with fail
                            go_roundg (n - (k + 1))
                            case measure => omega
                            case rel => exact ⟨k + 1, by go_num, by omega, Nat.le_refl _, _, HN⟩)
                        · (
                          refine wpOp_step rfl (fun K hK => ?_)
                          go_simp
                          go_wp2_with (go_at_call 30; refine (HBK.out wd (HSD.out).q).mono ?_; rintro e wg ⟨rfl, qg, fg⟩; rw [HPd.out] at qg; have HSG := Lib.hid ((HSD.out).read qg fg HRX.out HXS.out); clear qg fg)
                          refine ⟨True.intro, ?_⟩)
                          have cX2 := HSG.out.at
                          (
                            refine wpAnyH_takeX (i := 5) (v := .int .u32 x) 97 rfl rfl (by kernel_rfl) (by kernel_rfl) (by kernel_rfl) (fun _ _ _ h => h) (.inl ⟨by rfl, ?_⟩) HSq.out ?_
                            · intro wq hq
                              go_simp)
                          (
                            try simp only [List.setIfInBounds_toArray, List.set_cons_succ, List.set_cons_zero]
                            refine wpAnyH_all (rs := [1]) (by kernel_rfl) (by simp) ?_
                            intro i hi
                            simp only [List.mem_cons, List.not_mem_nil, or_false] at hi
                            subst hi)
                          (
                            refine wpOp_step rfl (fun K hK => ?_)
                            go_simp
                            refine hK _ _ ⟨True.intro, ?_⟩
                            clear hK K)
                          (
                            (
                              refine wpAnyH_takeX (i := 6) (v := .pointer (some ⟨g, k * 34, none⟩)) 98 rfl rfl (by kernel_rfl) (by kernel_rfl) (by kernel_rfl) (fun _ _ _ h => h) (.inl ⟨by rfl, ?_⟩) HSq.out ?_
                              · intro wq hq
                                go_simp)
                            (
                              refine wpAnyH_takeX (i := 7) (v := .pointer (some ⟨g, k * 34 + 33, none⟩)) 99 rfl rfl (by kernel_rfl) (by kernel_rfl) (by kernel_rfl) (fun _ _ _ h => h) (.inl ⟨by rfl, ?_⟩) HSq.out ?_
                              · intro wq hq
                                go_simp)
                            have HN := Lib.hid (HSG.out.cell HRX.out HXS.out HNL.out (psR_len bs n _ _) (k * 34 + 33) (.int .u32 x) HSET.out (by rw [psR_len, psR_len]) HG9.out)
                            have hl9 := HSG.out.l
                            rw [psR_len] at hl9
                            have hc := World.ownsRow.cellAt hl9 (k * 34 + 33) (by omega)
                            have hz := World.ownsRow.frozenAt hl9 (k * 34 + 33)
                            obtain ⟨u0, hu0⟩ : ∃ u, (flatP (psR bs n k 0))[k * 34 + 33]? = some u := ⟨_, List.getElem?_eq_getElem (by rw [flatP_len, psR_len]; omega)⟩
                            rw [hu0] at hc
                            clear hl9 hu0
                            (
                              try simp only [List.setIfInBounds_toArray, List.set_cons_succ, List.set_cons_zero]
                              refine wpAnyH_all (rs := [8]) (by kernel_rfl) (by simp) ?_
                              intro i hi
                              simp only [List.mem_cons, List.not_mem_nil, or_false] at hi
                              subst hi)
                            refine wpOp_step rfl (fun K hK => ?_)
                            go_simp
                            refine hK _ _ ⟨True.intro, ?_⟩
                            clear hK K
                            refine wpAnyH_done (by kernel_rfl) ?_ _
                            go_wp2_with fail
                            go_roundg (n - (k + 1))
                            case measure => omega
                            case rel => exact ⟨k + 1, by go_num, by omega, Nat.le_refl _, _, HN⟩)
                      · have hltz : ¬ ((k : Int) < n) := by omega
                        obtain rfl : n = k := by omega
                        go_wp2_with fail
                        go_meet
                        case rel => exact ⟨v, HST⟩
                  case rest =>
                    obtain ⟨v, HST⟩ := hcut
                    have HST2 := Lib.hid (show Sx w9 rd X (some ⟨b, o, none⟩) cap bs wc v (psR bs n n 0) 0 (1032 + 36 * n) from by have := HST.out; rwa [show 1032 + 32 * n + 4 * n = 1032 + 36 * n by omega] at this)
                    clear HST
                    obtain ⟨HST, -⟩ : ∃ _ : Hid (Sx w9 rd X (some ⟨b, o, none⟩) cap bs wc v (psR bs n n 0) 0 (1032 + 36 * n)), True := ⟨HST2, trivial⟩
                    go_step
                    go_upto_block 4 with fail
                    go_cut [] (fun wc => ∃ v, Hid (Sx w9 rd X (some ⟨b, o, none⟩) cap bs wc v (psR bs n n n) 0 (1032 + 36 * n + 4 * n)))
                    case first =>
                      go_wp2_with fail
                      go_loopg [11] n (fun kx s9 wr => ∃ (k : Nat), s9 = .int .i64 k ∧ k ≤ n ∧ n - k ≤ kx ∧ ∃ v, Hid (Sx w9 rd X (some ⟨b, o, none⟩) cap bs wr v (psR bs n n k) 0 (1032 + 36 * n + 4 * k)))
                      case atStart => exact ⟨0, rfl, by omega, by omega, v, HST⟩
                      case round =>
                        obtain ⟨k, rfl, hk, hkx, v, HST⟩ := hrel
                        obtain ⟨wo, rfl⟩ : ∃ wo, wo = wr := ⟨wr, rfl⟩
                        have wk := wrap_nat k (by omega)
                        by_cases hlt : k < n
                        · have hltz : (k : Int) < n := by omega
                          have hk0 : (0 : Int) ≤ k := by omega
                          have hu := u4_mid bs n (1024 + 36 * n + 4 * k) (by rw [HLn.out]; exact HLE.out) (by omega)
                          rw [show 8 + (1024 + 36 * n + 4 * k) = 1032 + 36 * n + 4 * k by omega] at hu
                          have hbg := fun wq (q : Qd wq rd (some ⟨b, o, none⟩) cap bs (1032 + 36 * n + 4 * k) 0) => qBig_ok rd (some ⟨b, o, none⟩) cap L bs (1032 + 36 * n + 4 * k) HLn.out (by have := HLE.out; omega) wq q
                          rw [hu] at hbg
                          have hset := psR_pos bs n n k hlt
                          rw [HNB.out] at hset
                          have hxl := u4_lt (midB bs) (1024 + 36 * n + 4 * k)
                          have hset2 : (flatP (psR bs n n k)).set (k * 34 + 32) (.int .i64 (u4 (midB bs) (1024 + 36 * n + 4 * k) : Nat)) = flatP (psR bs n n (k + 1)) := hset
                          obtain ⟨x, hx⟩ : ∃ x, u4 (midB bs) (1024 + 36 * n + 4 * k) = x := ⟨_, rfl⟩
                          rw [hx] at hbg hset2 hxl
                          have hwx : IntKind.i64.wrap (x : Int) = x := by rw [IntKind.wrap_i64]; omega
                          have HSET := Lib.hid hset2
                          have HBK := Lib.hid hbg
                          obtain ⟨g, c9, hv, hc9, hg9, hgl, hlg⟩ := HST.out.row (by rw [psR_len]; omega)
                          rw [psR_len] at hv hc9
                          subst hv
                          have HG9 := Lib.hid hg9
                          obtain ⟨P, hP⟩ : ∃ P, 1032 + 36 * n + 4 * k = P := ⟨_, rfl⟩
                          rw [hP] at HST HBK
                          have HPd : Hid (P + 4 = 1032 + 36 * n + 4 * (k + 1)) := Lib.hid (by omega)
                          clear hu hbg hset hset2 hx hP hg9 hgl hlg
                          go_upto_region 29 with fail
                          refine wp_region_held (S := fun _ => True) (by kernel_rfl) ?_
                          change wpAnyH _ _ _ _ _ _ _ _ (World.drew wo)
                          have HSD := Lib.hid (HST.out.frF (Fr.refl (fun _ => False) wo).drew)
                          obtain ⟨wd, hwd⟩ : ∃ wd, World.drew wo = wd := ⟨_, rfl⟩
                          rw [hwd] at HSD ⊢
                          clear hwd
                          have HSq := Lib.hid True.intro
                          have cX := HSD.out.at
                          (
                            refine wpAnyH_takeX (i := 0) (v := .pointer (some ⟨X, 0, none⟩)) 105 rfl rfl (by kernel_rfl) (by kernel_rfl) (by kernel_rfl) (fun _ _ _ h => h) (.inl ⟨by rfl, ?_⟩) HSq.out ?_
                            · intro wq hq
                              go_simp)
                          (
                            refine wpAnyH_takeX (i := 2) (v := .int .i64 k) 107 rfl rfl (by kernel_rfl) (by kernel_rfl) (by kernel_rfl) (fun _ _ _ h => h) (.inl ⟨by rfl, ?_⟩) HSq.out ?_
                            · intro wq hq
                              go_simp)
                          (
                            refine wpAnyH_takeX (i := 3) (v := .pointer (some ⟨rd, 0, none⟩)) 108 rfl rfl (by kernel_rfl) (by kernel_rfl) (by kernel_rfl) (fun _ _ _ h => h) (.inl ⟨by rfl, ?_⟩) HSq.out ?_
                            · intro wq hq
                              go_simp)
                          simp only [List.setIfInBounds_toArray, List.set_cons_succ, List.set_cons_zero]
                          refine wpAnyH_all (rs := [1, 4]) (by kernel_rfl) (by simp) ?_
                          intro i hi
                          simp only [List.mem_cons, List.not_mem_nil, or_false] at hi
                          rcases hi with rfl | rfl
                          · (
                            refine wpOp_step rfl (fun K hK => ?_)
                            go_simp
                            refine hK _ _ ⟨True.intro, ?_⟩
                            clear hK K)
                            (
                              try simp only [List.setIfInBounds_toArray]
                              refine wpAnyH_all (rs := [4]) (by kernel_rfl) (by simp) ?_
                              intro i hi
                              simp only [List.mem_cons, List.not_mem_nil, or_false] at hi
                              subst hi)
                            (
                              refine wpOp_step rfl (fun K hK => ?_)
                              go_simp
                              go_wp2_with (go_at_call 30; refine (HBK.out wd (HSD.out).q).mono ?_; rintro e wg ⟨rfl, qg, fg⟩; rw [HPd.out] at qg; have HSG := Lib.hid ((HSD.out).read qg fg HRX.out HXS.out); clear qg fg)
                              refine ⟨True.intro, ?_⟩)
                            (
                              refine wpAnyH_takeX (i := 5) (v := .int .i64 x) 110 rfl rfl (by kernel_rfl) (by kernel_rfl) (by kernel_rfl) (fun _ _ _ h => h) (.inl ⟨by rfl, ?_⟩) HSq.out ?_
                              · intro wq hq
                                go_simp)
                            (
                              (
                                refine wpAnyH_takeX (i := 6) (v := .pointer (some ⟨g, k * 34, none⟩)) 111 rfl rfl (by kernel_rfl) (by kernel_rfl) (by kernel_rfl) (fun _ _ _ h => h) (.inl ⟨by rfl, ?_⟩) HSq.out ?_
                                · intro wq hq
                                  go_simp)
                              (
                                refine wpAnyH_takeX (i := 7) (v := .pointer (some ⟨g, k * 34 + 32, none⟩)) 112 rfl rfl (by kernel_rfl) (by kernel_rfl) (by kernel_rfl) (fun _ _ _ h => h) (.inl ⟨by rfl, ?_⟩) HSq.out ?_
                                · intro wq hq
                                  go_simp)
                              have HN := Lib.hid (HSG.out.cell HRX.out HXS.out HNL.out (psR_len bs n _ _) (k * 34 + 32) (.int .i64 x) HSET.out (by rw [psR_len, psR_len]) HG9.out)
                              have hl9 := HSG.out.l
                              rw [psR_len] at hl9
                              have hc := World.ownsRow.cellAt hl9 (k * 34 + 32) (by omega)
                              have hz := World.ownsRow.frozenAt hl9 (k * 34 + 32)
                              obtain ⟨u0, hu0⟩ : ∃ u, (flatP (psR bs n n k))[k * 34 + 32]? = some u := ⟨_, List.getElem?_eq_getElem (by rw [flatP_len, psR_len]; omega)⟩
                              rw [hu0] at hc
                              clear hl9 hu0
                              (
                                try simp only [List.setIfInBounds_toArray, List.set_cons_succ, List.set_cons_zero]
                                refine wpAnyH_all (rs := [8]) (by kernel_rfl) (by simp) ?_
                                intro i hi
                                simp only [List.mem_cons, List.not_mem_nil, or_false] at hi
                                subst hi)
                              refine wpOp_step rfl (fun K hK => ?_)
                              go_simp
                              refine hK _ _ ⟨True.intro, ?_⟩
                              clear hK K
                              refine wpAnyH_done (by kernel_rfl) ?_ _
                              go_wp2_with fail
                              go_roundg (n - (k + 1))
                              case measure => omega
                              case rel => exact ⟨k + 1, by go_num, by omega, Nat.le_refl _, _, HN⟩)
                          · (
                            refine wpOp_step rfl (fun K hK => ?_)
                            go_simp
                            go_wp2_with (go_at_call 30; refine (HBK.out wd (HSD.out).q).mono ?_; rintro e wg ⟨rfl, qg, fg⟩; rw [HPd.out] at qg; have HSG := Lib.hid ((HSD.out).read qg fg HRX.out HXS.out); clear qg fg)
                            refine ⟨True.intro, ?_⟩)
                            have cX2 := HSG.out.at
                            (
                              refine wpAnyH_takeX (i := 5) (v := .int .i64 x) 110 rfl rfl (by kernel_rfl) (by kernel_rfl) (by kernel_rfl) (fun _ _ _ h => h) (.inl ⟨by rfl, ?_⟩) HSq.out ?_
                              · intro wq hq
                                go_simp)
                            (
                              try simp only [List.setIfInBounds_toArray, List.set_cons_succ, List.set_cons_zero]
                              refine wpAnyH_all (rs := [1]) (by kernel_rfl) (by simp) ?_
                              intro i hi
                              simp only [List.mem_cons, List.not_mem_nil, or_false] at hi
                              subst hi)
                            (
                              refine wpOp_step rfl (fun K hK => ?_)
                              go_simp
                              refine hK _ _ ⟨True.intro, ?_⟩
                              clear hK K)
                            (
                              (
                                refine wpAnyH_takeX (i := 6) (v := .pointer (some ⟨g, k * 34, none⟩)) 111 rfl rfl (by kernel_rfl) (by kernel_rfl) (by kernel_rfl) (fun _ _ _ h => h) (.inl ⟨by rfl, ?_⟩) HSq.out ?_
                                · intro wq hq
                                  go_simp)
                              (
                                refine wpAnyH_takeX (i := 7) (v := .pointer (some ⟨g, k * 34 + 32, none⟩)) 112 rfl rfl (by kernel_rfl) (by kernel_rfl) (by kernel_rfl) (fun _ _ _ h => h) (.inl ⟨by rfl, ?_⟩) HSq.out ?_
                                · intro wq hq
                                  go_simp)
                              have HN := Lib.hid (HSG.out.cell HRX.out HXS.out HNL.out (psR_len bs n _ _) (k * 34 + 32) (.int .i64 x) HSET.out (by rw [psR_len, psR_len]) HG9.out)
                              have hl9 := HSG.out.l
                              rw [psR_len] at hl9
                              have hc := World.ownsRow.cellAt hl9 (k * 34 + 32) (by omega)
                              have hz := World.ownsRow.frozenAt hl9 (k * 34 + 32)
                              obtain ⟨u0, hu0⟩ : ∃ u, (flatP (psR bs n n k))[k * 34 + 32]? = some u := ⟨_, List.getElem?_eq_getElem (by rw [flatP_len, psR_len]; omega)⟩
                              rw [hu0] at hc
                              clear hl9 hu0
                              (
                                try simp only [List.setIfInBounds_toArray, List.set_cons_succ, List.set_cons_zero]
                                refine wpAnyH_all (rs := [8]) (by kernel_rfl) (by simp) ?_
                                intro i hi
                                simp only [List.mem_cons, List.not_mem_nil, or_false] at hi
                                subst hi)
                              refine wpOp_step rfl (fun K hK => ?_)
                              go_simp
                              refine hK _ _ ⟨True.intro, ?_⟩
                              clear hK K
                              refine wpAnyH_done (by kernel_rfl) ?_ _
                              go_wp2_with fail
                              go_roundg (n - (k + 1))
                              case measure => omega
                              case rel => exact ⟨k + 1, by go_num, by omega, Nat.le_refl _, _, HN⟩)
                        · have hltz : ¬ ((k : Int) < n) := by omega
                          obtain rfl : n = k := by omega
                          go_wp2_with fail
                          go_meet
                          case rel => exact ⟨v, HST⟩
                    case rest =>
                      obtain ⟨v, HST⟩ := hcut
                      have hof : bigV ((bs.drop (1032 + 40 * n)).take 32) = ofR (midB bs) n := by
                        have h1 := id_mid bs n (1024 + 40 * n) (by rw [HLn.out]; exact HLE.out) (by omega)
                        rw [show 8 + (1024 + 40 * n) = 1032 + 40 * n by omega] at h1
                        rw [h1]; rfl
                      have hI2 : ((bs.drop (1032 + 40 * n)).take 32).length = 32 := by rw [List.length_take, List.length_drop, HLn.out, HLE.out]; omega
                      have hst := HST.out
                      rw [show 1032 + 36 * n + 4 * n = 1032 + 40 * n by omega] at hst
                      have HID2 := Lib.hid (QIid_any rd (some ⟨b, o, none⟩) cap L bs (1032 + 40 * n) HLn.out (by rw [HLE.out]; omega) wc hst.q)
                      rw [← cells_bytes hI2] at HID2
                      have HLO := Lib.hid (fun v => laid_of v 0 _ hI2)
                      rw [hof] at HLO
                      have HVS := Lib.hid (show (bytesV ((bs.drop (1032 + 40 * n)).take 32)).toArray.size = 32 from by rw [List.size_toArray, bytesV_length, hI2])
                      have HVO := Lib.hid (show (bytesV ((bs.drop (1032 + 40 * n)).take 32)).toArray.all (·.oneCell') = true from Array.all_eq_true_iff_forall_mem.2 (fun u hu => bytesV_one _ u (by simpa using hu)))
                      obtain ⟨V, hV⟩ : ∃ V, (bytesV ((bs.drop (1032 + 40 * n)).take 32)).toArray = V := ⟨_, rfl⟩
                      rw [hV] at HID2 HLO HVS HVO
                      have hpe := psR_end bs
                      rw [HNB.out] at hpe
                      rw [hpe] at hst
                      have HST3 := Lib.hid hst
                      clear hof hI2 hst hV hpe HST
                      obtain ⟨A9, c9, hv9, hc9⟩ : ∃ A9 c9, v = .slice A9 n c9 ∧ n ≤ c9 := by
                        obtain ⟨A9, c9, hv, hc, -⟩ := own_slice HST3.out.l
                        rw [plsB_len, HNB.out] at hv hc
                        exact ⟨A9, c9, hv, hc⟩
                      subst hv9
                      have HC9 := Lib.hid hc9
                      clear hc9
                      go_step
                      go_upto_region 31 with (first
                        | (go_at_call 31; refine HID2.out.mono ?_; rintro e wg ⟨rfl, qg, fg⟩; have HSG := Lib.hid (HST3.out.read qg fg HRX.out HXS.out); clear qg fg)
                        | (refine wpList_store_at rfl 24 _ _ rfl X 1 38 (qixC (.slice A9 n c9) (idC (dgt 0))) V rfl rfl HSG.out.x (by rw [HVS.out, qixC_size]; decide) (by rw [HVS.out]; exact size_IDs) HVO.out ?_
                           intro wi hwi hfi
                           rw [HLO.out] at hwi
                           have HXI := Lib.hid hwi
                           have HFI := Lib.hid hfi
                           clear hwi hfi))
                      have HOI := Lib.hid (own_fr HSG.out.l HFI.out (fun j e e2 => by have := HSG.out.own j e; have := HXS.out; omega))
                      have HPN : Hid ((plsB bs).length = n) := Lib.hid (by rw [plsB_len, HNB.out])
                      have hlp := HOI.out
                      rw [HPN.out] at hlp
                      have HLP := Lib.hid (own_liesQ hlp HPN.out)
                      have HFXI := Lib.hid (show Fr (fun _ => False) w0 wi from HFA.out.trans (Fr.trans HSG.out.f HFI.out (fun i _ e => .inr e)) (fun i hi e => by have := HRL.out; have := HXL.out; omega))
                      obtain ⟨w10, hw10⟩ : ∃ w10, wi.alloc (.cells #[.slice (some ⟨b, o, none⟩) L cap, .int .i64 8, .int .i64 0] 81) = w10 := ⟨_, rfl⟩
                      have HFI10 := Lib.hid (show Fr (fun _ => False) wi w10 from by subst hw10; exact (Fr.refl _ wi).alloc _)
                      have HFX := Lib.hid (HFXI.out.trans HFI10.out (fun _ _ e => e))
                      have HQF := Lib.hid (show Qd w10 wi.heap.size (some ⟨b, o, none⟩) cap bs 8 0 from ⟨by rw [HLn.out]; subst hw10; exact Whole.new wi 81 _, HLf.out _ HFX.out, by rw [HLn.out, HLE.out]; omega, by rw [HLn.out]; have := HEc.out; have := HEL.out; omega, by rw [HLn.out]; exact HC.out, fun ad e1 e2 => by
                        have := HNL.out ad e1 e2
                        have := HRX.out
                        have := HXI.out.lt
                        omega⟩)
                      have HXT := Lib.hid (HXI.out.fr HFI10.out (fun e => e))
                      have HLT := Lib.hid (HLP.out.fr HFI10.out (fun _ _ e => e))
                      obtain ⟨gf, hgf⟩ : ∃ g, wi.heap.size = g := ⟨_, rfl⟩
                      rw [hgf] at HQF
                      have HGF := Lib.hid (show X < gf ∧ ∀ ad, A9 = some ad → 0 < n → ad.block < gf from ⟨by rw [← hgf]; exact HXI.out.lt, fun ad e h0 => by rw [← hgf]; exact lies_below HLP.out (by rw [flatP_len, HPN.out]; omega) e⟩)
                      have HGE := Lib.hid (fun k (hk : k < n) => some_pl (ps := plsB bs) (i := k) (by rw [HPN.out]; exact hk))
                      have HPA := Lib.hid (fun k (hk : k < n) => plsB_at bs k (by rw [HNB.out]; exact hk))
                      have HGT := Lib.hid (fun k (hk : k < n) => (by rw [idsB, HNB.out]; exact keyL_gt n _ k hk : gt (idsB bs) k = keyR (midB bs) k))
                      have HIN : Hid ((idsB bs).length = n) := Lib.hid (by rw [idsB_len, HNB.out])
                      clear hlp
                      go_upto_block 6 with fail
                      clear hgf hw10
                      go_cut [] (fun wc => Hid (risB (idsB bs) = true) ∧ Hid (Fr (fun _ => False) w10 wc))
                      case first =>
                        go_wp2_with fail
                        go_loopg [13] n (fun kx s13 wr => ∃ k : Nat, s13 = .int .i64 k ∧ (k = 0 ∨ k < n) ∧ n - k ≤ kx ∧ Hid (∀ j, j < k → keyR (midB bs) j < keyR (midB bs) (j + 1)) ∧ Hid (Fr (fun _ => False) w10 wr))
                        case atStart => exact ⟨0, rfl, .inl rfl, by omega, Lib.hid (fun j hj => by omega), Lib.hid (Fr.refl _ _)⟩
                        case round =>
                          obtain ⟨k, rfl, hk, hkx, hz, HFr⟩ := hrel
                          have wk := wrap_nat k (by omega)
                          have wk1 := wrap_nat1 k (by omega)
                          by_cases hlt : k + 1 < n
                          · have hk1 : (k : Int) + 1 < n := by omega
                            have hk0 : (k : Int) < n := by omega
                            have tn1 := toNat_nat1 k
                            have nn1 := nonneg_nat1 k
                            obtain ⟨b2, o2, hA9⟩ := HLT.out.someP (by rw [HPN.out]; omega)
                            subst hA9
                            have l1 : ∀ q : Later wr, (loadCellsFrom ⟨b2, o2 + k * 34, none⟩ 0 n32 #[]).run Tryz.prog q.w' = .ok (idC (dgt ((plsB bs)[k]!).id)) q.w' := fun q => load_plid HLT.out (HGE.out k (by omega)) (HFr.out.trans q.fr (fun _ _ e => e)) n32 HN32.out
                            have l2 : ∀ q : Later wr, (loadCellsFrom ⟨b2, o2 + (k + 1) * 34, none⟩ 0 n32 #[]).run Tryz.prog q.w' = .ok (idC (dgt ((plsB bs)[k + 1]!).id)) q.w' := fun q => load_plid HLT.out (HGE.out (k + 1) hlt) (HFr.out.trans q.fr (fun _ _ e => e)) n32 HN32.out
                            have cX : ∀ q : Later wr, q.w'.cell? ⟨X, 0, none⟩ = some (.slice (some ⟨b2, o2, none⟩) n c9) := fun q => by rw [((HXT.out.fr HFr.out (fun e => e)).fr q.fr (fun e => e)).cell]; exact qixC_at _ _
                            rw [HPA.out k (by omega)] at l1
                            rw [HPA.out (k + 1) hlt] at l2
                            have cc := fun w => QBelow_any (keyR (midB bs) k) (keyR (midB bs) (k + 1)) (keyR_big _ _) (keyR_big _ _) w
                            obtain ⟨x, hx⟩ : ∃ x, keyR (midB bs) k = x := ⟨_, rfl⟩
                            obtain ⟨y, hy⟩ : ∃ y, keyR (midB bs) (k + 1) = y := ⟨_, rfl⟩
                            rw [hx] at l1 cc
                            rw [hy] at l2 cc
                            have HXd := Lib.hid hx
                            have HYd := Lib.hid hy
                            obtain ⟨ca, hca⟩ : ∃ c, idC (dgt x) = c := ⟨_, rfl⟩
                            obtain ⟨cb, hcb⟩ : ∃ c, idC (dgt y) = c := ⟨_, rfl⟩
                            rw [hca] at l1 cc
                            rw [hcb] at l2 cc
                            obtain ⟨rb, hrb⟩ : ∃ r, decide (x < y) = r := ⟨_, rfl⟩
                            rw [hrb] at cc
                            have HRB := Lib.hid hrb
                            have CC := Lib.hid cc
                            clear hx hy hca hcb hrb cc hk
                            go_upto_region 35 with fail
                            refine wp_region_later (w0 := wr) (Fr.refl _ _) (by kernel_rfl) (by kernel_rfl) ?_
                            repeat (quiet_step ((go_at_call 33; refine Calls.later_of (CC.out _))))
                            refine wpQuiet_nil ?_
                            intro _ hw'
                            obtain ⟨q, hw''⟩ := hw'
                            subst hw''
                            clear l1 l2 cX
                            cases rb
                            · have hC : Hid (opE bs = 18) := Lib.hid (by
                                rw [HE3.out, if_pos (.inl (ris_not k (by rw [HIN.out]; exact hlt) (by rw [HGT.out k (by omega), HGT.out (k + 1) hlt, HXd.out, HYd.out]; exact of_decide_eq_false HRB.out)))])
                              (
                                go_wp2_with (first
                                  | (refine wpList_build_toQ rfl 38 _ rfl #[] (by first | rfl | simp [Act.eval]) (.agg ZQ) (HBZ.out _) ?_)
                                  | (refine wpList_store_at rfl 38 _ _ rfl w.heap.size 0 38 ZQ ZQ rfl rfl (HR.out.fr ((HFX.out.trans HFr.out (fun _ _ e => e)).trans q.fr (fun _ _ e => e)) (fun e => e)) (by rw [HZS.out]; decide) (by rw [HZS.out]; exact size_qx) HZO.out ?_; intro w3 hw3 hf3; rw [laidAt_all _ _ rfl] at hw3; have HW3 := Lib.hid hw3; have HF3 := Lib.hid hf3; clear hw3 hf3))
                                (try simp only [Exit.inBlock, Exit.then])
                                refine bodyPost_ret (v := .tuple #[.agg ZQ, .int .i64 18]) (results_cell_slot (p := 2) (u := 3) rfl _ _ _ _ _ _ rfl HW3.out Tryz.underlying38 rfl (by rw [HZS.out]; exact size_qx)) rfl ?_
                                exact ⟨(HF0.out.trans ((HFX.out.trans HFr.out (fun _ _ e => e)).trans q.fr (fun _ _ e => e)) (fun _ _ e => e)).trans HF3.out (fun i hi e => by omega), .inl ⟨by rw [hC.out]; decide, by rw [hC.out, HZQ.out]⟩⟩)
                            · go_wp2_with fail
                              go_roundg (n - (k + 1))
                              case measure => omega
                              case rel => exact ⟨k + 1, by go_num, by omega, Nat.le_refl _, Lib.hid (fun j hj => (by omega : j < k ∨ j = k).elim (hz.out j) (fun e => by subst e; rw [HXd.out, HYd.out]; exact of_decide_eq_true HRB.out)), Lib.hid (HFr.out.trans q.fr (fun _ _ e => e))⟩
                          · have hk1 : ¬ ((k : Int) + 1 < n) := by omega
                            have HRI : Hid (risB (idsB bs) = true) := Lib.hid (ris_step (fun j hj => by rw [HIN.out] at hj; rw [HGT.out j (by omega), HGT.out (j + 1) hj]; exact hz.out j (by omega)))
                            clear hk hz
                            go_wp2_with fail
                            go_meet
                            case rel => exact ⟨HRI, HFr⟩
                      case rest =>
                        obtain ⟨HRI, HFr6⟩ := hcut
                        obtain ⟨w11, rfl⟩ : ∃ wz, wz = wc := ⟨wc, rfl⟩
                        have HE4 : Hid (opE bs = if fanOk bs = false then 18 else if atOk bs = false then 2 else 0) := Lib.hid (by
                          rw [HE3.out, HRI.out]
                          simp)
                        have HQ11 := Lib.hid (HQF.out.fr HFr6.out (fun e => e) (fun _ _ _ e => e))
                        have HXU := Lib.hid (HXT.out.fr HFr6.out (fun e => e))
                        have HLU := Lib.hid (HLT.out.fr HFr6.out (fun _ _ e => e))
                        have HF11 := Lib.hid (HFX.out.trans HFr6.out (fun _ _ e => e))
                        have HGW := Lib.hid (show w0.heap.size ≤ gf from by have := HXL.out; have := HGF.out.1; omega)
                        have HLV := Lib.hid (fun wq (f : Fr (fun j => j = gf) w11 wq) (h0 : 0 < n) => HLU.out.fr f (fun ad e1 e2 => by have := HGF.out.2 ad e1 h0; omega))
                        have HXV := Lib.hid (fun wq (f : Fr (fun j => j = gf) w11 wq) => HXU.out.fr f (fun e => by have := HGF.out.1; omega))
                        have HFV := Lib.hid (fun wq (f : Fr (fun j => j = gf) w11 wq) => HF11.out.trans f (fun i hi e => by have := HGW.out; omega))
                        have HIB : Hid (∀ k, k < n → idsB bs ≠ [] → True) := Lib.hid (fun _ _ _ => trivial)
                        go_step
                        go_upto_block 8 with fail
                        go_cut [] (fun wc => Hid (fanOk bs = true) ∧ Hid (Fr (fun j => j = gf) w11 wc))
                        case first =>
                          go_wp2_with fail
                          go_loopg [14] 256 (fun kx s14 wr => ∃ c : Nat, s14 = .int .i64 c ∧ c ≤ 256 ∧ 256 - c ≤ kx ∧ Hid (∀ j, j < c → fanR (midB bs) j = fanN (idsB bs) j) ∧ Hid (Qd wr gf (some ⟨b, o, none⟩) cap bs (8 + 4 * c) 0) ∧ Hid (Fr (fun j => j = gf) w11 wr))
                          case atStart => exact ⟨0, rfl, by omega, by omega, Lib.hid (fun j hj => by omega), HQ11, Lib.hid (Fr.refl _ _)⟩
                          case round =>
                            obtain ⟨c, rfl, hc, hcx, hz, HQr, HFr⟩ := hrel
                            obtain ⟨wo, rfl⟩ : ∃ wo, wo = wr := ⟨wr, rfl⟩
                            have wcc := wrap_nat c (by omega)
                            by_cases hlt : c < 256
                            · have hltz : (c : Int) < 256 := by omega
                              have hu := u4_mid bs n (4 * c) (by rw [HLn.out]; exact HLE.out) (by omega)
                              have hbg := qBig_ok gf (some ⟨b, o, none⟩) cap L bs (8 + 4 * c) HLn.out (by have := HLE.out; omega) wo HQr.out
                              rw [hu] at hbg
                              have hxl := u4_lt (midB bs) (4 * c)
                              have hfx : fanR (midB bs) c = u4 (midB bs) (4 * c) := rfl
                              obtain ⟨x, hx⟩ : ∃ x, u4 (midB bs) (4 * c) = x := ⟨_, rfl⟩
                              rw [hx] at hbg hxl hfx
                              have HFX2 := Lib.hid hfx
                              have HB9 := Lib.hid hbg
                              have hcX : wo.cell? ⟨X, 0, none⟩ = some (.slice A9 n c9) := by rw [(HXV.out wo HFr.out).cell]; exact qixC_at _ _
                              clear hu hbg hfx hx
                              go_wp2_with fail
                              go_loopg [15, 16] n (fun kx s11 s12 wq => ∃ k m : Nat, s12 = .int .i64 k ∧ s11 = .int .i64 m ∧ k ≤ n ∧ n - k ≤ kx ∧ m ≤ k ∧ wq = wo ∧ Hid (m = fanN ((idsB bs).take k) c))
                              case atStart => exact ⟨0, 0, rfl, rfl, by omega, by omega, by omega, rfl, Lib.hid (by simp [fanN])⟩
                              case round =>
                                obtain ⟨k, m, rfl, rfl, hk, hkx, hmk, rfl, HNK⟩ := hrel
                                have wk := wrap_nat k (by omega)
                                have wm := wrap_nat m (by omega)
                                by_cases hlt2 : k < n
                                · have hlt2z : (k : Int) < n := by omega
                                  have hll := HLV.out wr HFr.out (by omega)
                                  obtain ⟨b2, o2, hA9⟩ := hll.someP (by rw [HPN.out]; omega)
                                  subst hA9
                                  have c0 := b0_pl hll (HGE.out k hlt2) (Fr.refl _ wr)
                                  rw [HPA.out k hlt2] at c0
                                  have hx256 := b0_lt (keyR (midB bs) k)
                                  have hnx := fanN_take (idsB bs) k (by rw [HIN.out]; exact hlt2) c
                                  rw [HGT.out k hlt2, ← HNK.out] at hnx
                                  obtain ⟨z, hzz⟩ : ∃ z, b0 (keyR (midB bs) k) = z := ⟨_, rfl⟩
                                  simp only [hzz] at c0
                                  rw [hzz] at hx256 hnx
                                  have HNX := Lib.hid hnx
                                  have hwx : IntKind.i64.wrap (z : Int) = z := by rw [IntKind.wrap_i64]; omega
                                  clear hzz hnx hll
                                  by_cases hxc : z ≤ c
                                  · have hxz : (z : Int) ≤ c := by omega
                                    go_wp2_with fail
                                    go_roundg (n - (k + 1))
                                    case measure => omega
                                    case rel => exact ⟨k + 1, m + 1, by go_num, by go_num, by omega, Nat.le_refl _, by omega, rfl, Lib.hid (by rw [HNX.out, if_pos hxc])⟩
                                  · have hxz : ¬ ((z : Int) ≤ c) := by omega
                                    go_wp2_with fail
                                    go_roundg (n - (k + 1))
                                    case measure => omega
                                    case rel => exact ⟨k + 1, m, by go_num, rfl, by omega, Nat.le_refl _, by omega, rfl, Lib.hid (by rw [HNX.out, if_neg hxc]; rfl)⟩
                                · have hlt2z : ¬ ((k : Int) < n) := by omega
                                  obtain rfl : n = k := by omega
                                  have hfn : fanN (idsB bs) c = m := by rw [HNK.out, List.take_of_length_le (by rw [HIN.out]; exact Nat.le_refl _)]
                                  have HFN := Lib.hid hfn
                                  have hwu : IntKind.u64.wrap (m : Int) = m := by rw [IntKind.wrap_u64]; omega
                                  clear hfn HNK
                                  by_cases hxm : x = m
                                  · subst hxm
                                    go_wp2_with (go_at_call 30; refine HB9.out.mono ?_; rintro e wg ⟨rfl, qg, fg⟩; have HQg := Lib.hid qg; have HFg := Lib.hid (show Fr (fun j => j = gf) w11 wg from Fr.trans HFr.out fg (fun _ _ e => e)); clear qg fg)
                                    go_roundg (256 - (c + 1))
                                    case measure => omega
                                    case rel => exact ⟨c + 1, by go_num, by omega, Nat.le_refl _, Lib.hid (fun j hj => (by omega : j < c ∨ j = c).elim (hz.out j) (fun e => by subst e; rw [HFX2.out, HFN.out])), HQg, HFg⟩
                                  · have hxb : ((x : Int) == (m : Int)) = false := by simp; omega
                                    have hxn : ¬ ((x : Int) = (m : Int)) := by omega
                                    have hC : Hid (opE bs = 18) := Lib.hid (by
                                      rw [HE4.out, if_pos]
                                      cases hfo : fanOk bs
                                      · rfl
                                      · exact absurd ((sameF_iff _ _).1 hfo c hlt) (by rw [HFX2.out, HFN.out]; exact hxm))
                                    go_upto_if 166 with (go_at_call 30; refine HB9.out.mono ?_; rintro e wg ⟨rfl, qg, fg⟩; have HFg := Lib.hid (show Fr (fun j => j = gf) w11 wg from Fr.trans HFr.out fg (fun _ _ e => e)); clear qg fg)
                                    (
                                      go_wp2_with (first
                                        | (refine wpList_build_toQ rfl 38 _ rfl #[] (by first | rfl | simp [Act.eval]) (.agg ZQ) (HBZ.out _) ?_)
                                        | (refine wpList_store_at rfl 38 _ _ rfl w.heap.size 0 38 ZQ ZQ rfl rfl (HR.out.fr (HFV.out wg HFg.out) (fun e => e)) (by rw [HZS.out]; decide) (by rw [HZS.out]; exact size_qx) HZO.out ?_; intro w3 hw3 hf3; rw [laidAt_all _ _ rfl] at hw3; have HW3 := Lib.hid hw3; have HF3 := Lib.hid hf3; clear hw3 hf3))
                                      (try simp only [Exit.inBlock, Exit.then])
                                      refine bodyPost_ret (v := .tuple #[.agg ZQ, .int .i64 18]) (results_cell_slot (p := 2) (u := 3) rfl _ _ _ _ _ _ rfl HW3.out Tryz.underlying38 rfl (by rw [HZS.out]; exact size_qx)) rfl ?_
                                      exact ⟨(HF0.out.trans (HFV.out wg HFg.out) (fun _ _ e => e)).trans HF3.out (fun i hi e => by omega), .inl ⟨by rw [hC.out]; decide, by rw [hC.out, HZQ.out]⟩⟩)
                            · have hltz : ¬ ((c : Int) < 256) := by omega
                              obtain rfl : 256 = c := by omega
                              have HFO : Hid (fanOk bs = true) := Lib.hid ((sameF_iff _ _).2 (fun j hj => hz.out j hj))
                              go_wp2_with fail
                              go_meet
                              case rel => exact ⟨HFO, HFr⟩
                        case rest =>
                          obtain ⟨HFO, HFr8⟩ := hcut
                          obtain ⟨w12, rfl⟩ : ∃ wz, wz = wc := ⟨wc, rfl⟩
                          have HE5 : Hid (opE bs = if atOk bs = false then 2 else 0) := Lib.hid (by rw [HE4.out, HFO.out]; rfl)
                          have hcX : w12.cell? ⟨X, 0, none⟩ = some (.slice A9 n c9) := by rw [(HXV.out w12 HFr8.out).cell]; exact qixC_at _ _
                          go_step
                          go_wp2_with fail
                          go_loopg [17] n (fun kx s17 wr => ∃ k : Nat, s17 = .int .i64 k ∧ k ≤ n ∧ n - k ≤ kx ∧ wr = w12 ∧ Hid (∀ j, j < k → atR (midB bs) n j ≤ 1048576))
                          case atStart => exact ⟨0, rfl, by omega, by omega, rfl, Lib.hid (fun j hj => by omega)⟩
                          case round =>
                            obtain ⟨k, rfl, hk, hkx, rfl, hz⟩ := hrel
                            have wk := wrap_nat k (by omega)
                            by_cases hlt : k < n
                            · have hltz : (k : Int) < n := by omega
                              have hll := HLV.out wr HFr8.out (by omega)
                              obtain ⟨b2, o2, hA9⟩ := hll.someP (by rw [HPN.out]; omega)
                              subst hA9
                              have c0 := pos_pl hll (HGE.out k hlt) (Fr.refl _ wr)
                              rw [HPA.out k hlt, HNB.out] at c0
                              obtain ⟨z, hzz⟩ : ∃ z, atR (midB bs) n k = z := ⟨_, rfl⟩
                              simp only [hzz] at c0
                              have HZ := Lib.hid hzz
                              clear hzz hll
                              by_cases hbig : 1048576 < z
                              · have hbz : (1048576 : Int) < (z : Int) := by omega
                                have hC : Hid (opE bs = 2) := Lib.hid (by
                                  rw [HE5.out, if_pos]
                                  unfold atOk
                                  rw [HNB.out, List.all_eq_false]
                                  exact ⟨k, List.mem_range.2 hlt, by rw [HZ.out]; simpa using hbig⟩)
                                (
                                  go_wp2_with (first
                                    | (refine wpList_build_toQ rfl 38 _ rfl #[] (by first | rfl | simp [Act.eval]) (.agg ZQ) (HBZ.out _) ?_)
                                    | (refine wpList_store_at rfl 38 _ _ rfl w.heap.size 0 38 ZQ ZQ rfl rfl (HR.out.fr (HFV.out wr HFr8.out) (fun e => e)) (by rw [HZS.out]; decide) (by rw [HZS.out]; exact size_qx) HZO.out ?_; intro w3 hw3 hf3; rw [laidAt_all _ _ rfl] at hw3; have HW3 := Lib.hid hw3; have HF3 := Lib.hid hf3; clear hw3 hf3))
                                  (try simp only [Exit.inBlock, Exit.then])
                                  refine bodyPost_ret (v := .tuple #[.agg ZQ, .int .i64 2]) (results_cell_slot (p := 2) (u := 3) rfl _ _ _ _ _ _ rfl HW3.out Tryz.underlying38 rfl (by rw [HZS.out]; exact size_qx)) rfl ?_
                                  exact ⟨(HF0.out.trans (HFV.out wr HFr8.out) (fun _ _ e => e)).trans HF3.out (fun i hi e => by omega), .inl ⟨by rw [hC.out]; decide, by rw [hC.out, HZQ.out]⟩⟩)
                              · have hbz : ¬ ((1048576 : Int) < (z : Int)) := by omega
                                go_wp2_with fail
                                go_roundg (n - (k + 1))
                                case measure => omega
                                case rel => exact ⟨k + 1, by go_num, by omega, Nat.le_refl _, rfl, Lib.hid (fun j hj => (by omega : j < k ∨ j = k).elim (hz.out j) (fun e => by subst e; rw [HZ.out]; omega))⟩
                            · have hltz : ¬ ((k : Int) < n) := by omega
                              obtain rfl : n = k := by omega
                              have HE6 : Hid (opE bs = 0) := Lib.hid (by
                                rw [HE5.out, if_neg]
                                unfold atOk
                                rw [HNB.out, Bool.not_eq_false, List.all_eq_true]
                                intro j hj
                                exact decide_eq_true (hz.out j (List.mem_range.1 hj)))
                              have hxx := HXV.out wr HFr8.out
                              have HQS := Lib.hid (qixC_size (.slice A9 n c9) (ofR (midB bs) n))
                              have HQO := Lib.hid (qixC_one A9 n c9 (ofR (midB bs) n))
                              obtain ⟨QC, hQC⟩ : ∃ c, qixC (.slice A9 n c9) (idC (dgt (ofR (midB bs) n))) = c := ⟨_, rfl⟩
                              rw [hQC] at hxx HQS HQO
                              have HQCd := Lib.hid hQC
                              have l33 := load_wholeQ hxx n33 (by rw [HN33.out, HQS.out])
                              have HF12 := Lib.hid (HFV.out wr HFr8.out)
                              clear hxx hQC
                              go_wp2_with (refine wpList_store_at rfl 38 _ _ rfl w.heap.size 0 38 ZQ QC rfl rfl (HR.out.fr HF12.out (fun e => e)) (by rw [HZS.out, HQS.out]; decide) (by rw [HQS.out]; exact size_qx) HQO.out ?_; intro w3 hw3 hf3; rw [laidAt_all _ _ (by rw [HZS.out, HQS.out])] at hw3; have HW3 := Lib.hid hw3; have HF3 := Lib.hid hf3; clear hw3 hf3)
                              (try simp only [Exit.inBlock, Exit.then])
                              refine bodyPost_ret (v := .tuple #[.agg QC, .int .i64 0]) (results_cell_slot (p := 2) (u := 3) rfl _ _ _ _ _ _ rfl HW3.out Tryz.underlying38 rfl (by rw [HQS.out]; exact size_qx)) rfl ?_
                              refine ⟨(HF0.out.trans HF12.out (fun _ _ e => e)).trans HF3.out (fun i hi e => by omega), .inr ⟨HE6.out, A9, c9, by rw [HNB.out, HQCd.out], by rw [HNB.out]; exact HC9.out, ?_⟩⟩
                              have hnew : ∀ ad, A9 = some ad → w9.heap.size ≤ ad.block := fun ad e1 => by
                                have h3 := HOI.out
                                rw [HPN.out] at h3
                                exact (World.ownsRow.lt h3 ad.block (by rw [e1]; rfl)).1
                              refine ⟨?_, fun ad e1 => by have := hnew ad e1; have := HXS.out; have := HXL.out; have := HF0.out.size; omega⟩
                              rcases Nat.eq_zero_or_pos n with h0 | h0
                              · have hnil : plsB bs = [] := List.eq_nil_of_length_eq_zero (by rw [HPN.out]; exact h0)
                                rw [hnil]
                                exact .inl rfl
                              · exact (HLV.out wr HFr8.out h0).fr HF3.out (fun ad e1 e2 => by
                                  have := hnew ad e1
                                  have := HXS.out
                                  have := HXL.out
                                  have := HF0.out.size
                                  have := HR.out.lt
                                  omega)
end Go.Proofs.YtgbhdjncccmabaaGreatDoor

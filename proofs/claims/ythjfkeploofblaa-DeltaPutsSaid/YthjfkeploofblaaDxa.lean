/- What is proved: the walk of the law DeltaPuts, for any script. Conditions: the ops' cells are there. -/
import Derived.Test.YthjfkeploofblaaDer
import Derived.Test.YthjfkeploofblaaDeo
namespace Go.Proofs.Ythjfkeploofblaa
open Go.RowKit
set_option linter.unusedVariables false

set_option maxHeartbeats 12800000 in
set_option maxRecDepth 100000 in
theorem deltaPuts_walk (b t : Int) (A : Option Addr) (c : Nat) (ps : List POp) (w : World) (h : Scr w A c ps) :
    Calls Try.prog 3 #[.agg #[.int .i64 b, .int .i64 t, .slice A ps.length c]] w (Ans w (.bool true)) := by
  unfold Ans
  obtain ⟨w1, hw1⟩ : ∃ w1, w.alloc (.cells #[.int .i64 b, .int .i64 t, .slice A ps.length c] 24) = w1 := ⟨_, rfl⟩
  have HS : Hid (SAt w1 w.heap.size 24 b t (.slice A ps.length c)) := Lib.hid (by subst hw1; exact SAt.new w 24 b t _)
  have HF1 : Hid (Fr (fun _ => False) w w1) := Lib.hid (by subst hw1; exact (Fr.refl _ _).alloc _)
  have HSc := Lib.hid (h.fr HF1.out)
  obtain ⟨c0, c1, c2⟩ := HS.out.cells
  have hcap : ps.length ≤ 9223372036854775807 := by have := h.le; have := h.cap; omega
  obtain ⟨L, hL⟩ : ∃ L, ps.length = L := ⟨_, rfl⟩
  by_cases h4 : (400 : Int) < L
  · rw [hL] at c2 hw1 ⊢
    clear h hL
    go_enter Try.func3, Try.ntmps3
    go_wp2_with (go_at_call 9; refine (works9_any _).mono ?_; rintro e w2 ⟨rfl, b2⟩; have HB2 := Lib.hid b2; clear b2)
    go_ret
    exact ⟨rfl, (HF1.out.then_below HB2.out).below (fun _ _ e => e)⟩
  · have HPu := Lib.hid (DPut_any b t A c ps w1 HSc.out)
    have HPl := Lib.hid (fun w' (f : Fr (fun _ => False) w1 w') => plain9_any b t A c ps (by omega) w' (HSc.out.fr f))
    have HQp := Lib.hid (fun A' c' w' (hs : Scr w' A' c' ps) => QDPut_any b t A' c' ps w' hs)
    have HCh := Lib.hid (fun w' (f : Fr (fun _ => False) w1 w') => DCheck_any b t A c ps w' (HSc.out.fr f))
    have HQc := Lib.hid (fun A' c' w' (hs : Scr w' A' c' ps) => QDCheck_any b t A' c' ps w' hs)
    have HSs := Lib.hid (fun w' (f : Fr (fun _ => False) w1 w') => (HS.out.fr f).cells)
    obtain ⟨R1, R2, hR⟩ : ∃ R1 R2, putR b t (opsO ps) = (R1, R2) := ⟨_, _, rfl⟩
    obtain ⟨E, hE⟩ : ∃ E, chkS b t (opsO ps) = E := ⟨_, rfl⟩
    rw [hR] at HPu HQp
    rw [hE] at HCh HQc
    rw [hL] at c2 hw1 HPu HPl HQp HCh HQc HSs ⊢
    clear h hR hE
    obtain ⟨N, hN⟩ : ∃ N, R1.length = N := ⟨_, rfl⟩
    have HN := Lib.hid hN
    unfold PutPost at HPu HQp
    simp only [hN] at HPu HQp
    unfold ScrPost at HPl
    rw [hL] at HPl
    clear hN
    have hnl : ¬ (400 : Int) < L := h4
    go_enter Try.func3, Try.ntmps3
    go_upto_region 5 with (first
      | (go_at_call 10; refine HPu.out.mono ?_; rintro e w2 ⟨Ap, cp, rfl, -, -, lp, bp⟩; have HF2 := Lib.hid (Fr.of_below (S := fun _ => False) bp); have HLp := Lib.hid lp; obtain ⟨x0, x1, x2⟩ := HSs.out w2 HF2.out; clear lp bp)
      | (go_at_call 12; refine (HPl.out w2 HF2.out).mono ?_; rintro e w3 ⟨A3, c3, rfl, s3, b3⟩; have HS3 := Lib.hid s3; have HF3 := Lib.hid (HF2.out.then_below b3); have HLp3 := Lib.hid (HLp.out.fr (Fr.of_below (S := fun _ => False) b3) (fun _ _ e => e)); clear s3 b3)
      | (go_at_call 11; refine (HQp.out A3 c3 w3 HS3.out).mono ?_; rintro e w4 ⟨Aq, cq, rfl, -, -, lq, bq⟩; have HF4 := Lib.hid (HF3.out.then_below bq); have HLq := Lib.hid lq; have HLp4 := Lib.hid (HLp3.out.fr (Fr.of_below (S := fun _ => False) bq) (fun _ _ e => e)); clear lq bq))
    have q0 : ∀ q : Later w4, q.w'.cell? ⟨w.heap.size, 0, none⟩ = some (.int .i64 b) := fun q => (HSs.out _ (HF4.out.trans q.fr (fun _ _ e => e))).1
    have q1 : ∀ q : Later w4, q.w'.cell? ⟨w.heap.size, 1, none⟩ = some (.int .i64 t) := fun q => (HSs.out _ (HF4.out.trans q.fr (fun _ _ e => e))).2.1
    have q2 : ∀ q : Later w4, q.w'.cell? ⟨w.heap.size, 2, none⟩ = some (.slice A L c) := fun q => (HSs.out _ (HF4.out.trans q.fr (fun _ _ e => e))).2.2
    have HSq := Lib.hid (show ∃ q : Later w4, w4.drew = q.w' from ⟨⟨_, (Fr.refl _ w4).drew⟩, rfl⟩)
    have HFd := Lib.hid (show Fr (fun _ => False) w4 w4.drew from (Fr.refl _ w4).drew)
    refine wp_region_held (S := fun w' => ∃ q : Later w4, w' = q.w') (by kernel_rfl) ?_
    (
      refine wpAnyH_takeM (i := 0) (v := .slice Ap N cp) 23 rfl rfl (by kernel_rfl) (by kernel_rfl) (by kernel_rfl) (fun _ _ _ h => h) (.inl ⟨by rfl, ?_⟩) HSq.out ?_
      · rintro _ ⟨q, rfl⟩
        go_simp)
    (
      refine wpAnyH_takeM (i := 1) (v := .slice Aq N cq) 24 rfl rfl (by kernel_rfl) (by kernel_rfl) (by kernel_rfl) (fun _ _ _ h => h) (.inl ⟨by rfl, ?_⟩) HSq.out ?_
      · rintro _ ⟨q, rfl⟩
        go_simp)
    change wpAnyH _ _ _ _ _ _ _ _ (World.drew w4)
    obtain ⟨wd, hwd⟩ : ∃ wd, w4.drew = wd := ⟨_, rfl⟩
    rw [hwd]
    rw [hwd] at HFd
    clear hwd
    (
      try simp only [List.setIfInBounds_toArray, List.set_cons_succ, List.set_cons_zero]
      refine wpAnyH_all (rs := [2]) (by kernel_rfl) (by simp) ?_
      intro i hi
      simp only [List.mem_cons, List.not_mem_nil, or_false] at hi
      subst hi
      refine wpOp_step rfl (fun K hK => ?_)
      go_simp)
    go_wp2_with (go_at_call 13; refine (Same_n Ap Aq cp cq N N R1 R1 wd HN.out HN.out (HLp4.out.fr HFd.out (fun _ _ e => e)) (HLq.out.fr HFd.out (fun _ _ e => e))).mono ?_; rintro e w5 ⟨rfl, rfl⟩)
    refine ⟨⟨⟨_, HFd.out⟩, rfl⟩, ?_⟩
    replace HSq := Lib.hid (show ∃ q : Later w4, wd = q.w' from ⟨⟨_, HFd.out⟩, rfl⟩)
    (
      refine wpAnyH_takeM (i := 3) (v := .bool true) 26 rfl rfl (by kernel_rfl) (by kernel_rfl) (by kernel_rfl) (fun _ _ _ h => h) (.inl ⟨by rfl, ?_⟩) HSq.out ?_
      · rintro _ ⟨q, rfl⟩
        go_simp)
    (
      refine wpAnyH_takeM (i := 4) (v := .int .i64 R2) 27 rfl rfl (by kernel_rfl) (by kernel_rfl) (by kernel_rfl) (fun _ _ _ h => h) (.inl ⟨by rfl, ?_⟩) HSq.out ?_
      · rintro _ ⟨q, rfl⟩
        go_simp)
    (
      refine wpAnyH_takeM (i := 5) (v := .int .i64 R2) 28 rfl rfl (by kernel_rfl) (by kernel_rfl) (by kernel_rfl) (fun _ _ _ h => h) (.inl ⟨by rfl, ?_⟩) HSq.out ?_
      · rintro _ ⟨q, rfl⟩
        go_simp)
    (
      refine wpAnyH_takeM (i := 6) (v := .bool true) 29 rfl rfl (by kernel_rfl) (by kernel_rfl) (by kernel_rfl) (fun _ _ _ h => h) (.inl ⟨by rfl, ?_⟩) HSq.out ?_
      · rintro _ ⟨q, rfl⟩
        go_simp)
    (
      refine wpAnyH_takeM (i := 7) (v := .bool true) 30 rfl rfl (by kernel_rfl) (by kernel_rfl) (by kernel_rfl) (fun _ _ _ h => h) (.inl ⟨by rfl, ?_⟩) HSq.out ?_
      · rintro _ ⟨q, rfl⟩
        go_simp)
    (
      refine wpAnyH_takeM (i := 8) (v := .bool true) 31 rfl rfl (by kernel_rfl) (by kernel_rfl) (by kernel_rfl) (fun _ _ _ h => h) (.inl ⟨by rfl, ?_⟩) HSq.out ?_
      · rintro _ ⟨q, rfl⟩
        go_simp)
    (
      refine wpAnyH_takeM (i := 9) (v := .agg #[.int .i64 b, .int .i64 t, .slice A L c]) 32 rfl rfl (by kernel_rfl) (by kernel_rfl) (by kernel_rfl) (fun _ _ _ h => h) (.inl ⟨by rfl, ?_⟩) HSq.out ?_
      · rintro _ ⟨q, rfl⟩
        go_simp)
    (
      refine wpAnyH_takeM (i := 11) (v := .agg #[.int .i64 b, .int .i64 t, .slice A L c]) 34 rfl rfl (by kernel_rfl) (by kernel_rfl) (by kernel_rfl) (fun _ _ _ h => h) (.inl ⟨by rfl, ?_⟩) HSq.out ?_
      · rintro _ ⟨q, rfl⟩
        go_simp)
    (
      try simp only [List.setIfInBounds_toArray, List.set_cons_succ, List.set_cons_zero]
      refine wpAnyH_all (rs := [10]) (by kernel_rfl) (by simp) ?_
      intro i hi
      simp only [List.mem_cons, List.not_mem_nil, or_false] at hi
      subst hi
      refine wpOp_step rfl (fun K hK => ?_)
      go_simp)
    go_wp2_with (go_at_call 14; refine (HCh.out wd (HF4.out.trans HFd.out (fun _ _ e => e))).mono ?_; rintro e w6 ⟨rfl, b6⟩; have HF6 := Lib.hid (HFd.out.then_below b6); clear b6)
    refine ⟨⟨⟨_, HF6.out⟩, rfl⟩, ?_⟩
    (
      try simp only [List.setIfInBounds_toArray, List.set_cons_succ, List.set_cons_zero]
      refine wpAnyH_all (rs := [12]) (by kernel_rfl) (by simp) ?_
      intro i hi
      simp only [List.mem_cons, List.not_mem_nil, or_false] at hi
      subst hi
      refine wpOp_step rfl (fun K hK => ?_)
      go_simp)
    go_wp2_with (go_at_call 12; refine (HPl.out w6 (HF4.out.trans HF6.out (fun _ _ e => e))).mono ?_; rintro e w7 ⟨A7, c7, rfl, s7, b7⟩; have HS7 := Lib.hid s7; have HF7 := Lib.hid (HF6.out.then_below b7); clear s7 b7)
    refine ⟨⟨⟨_, HF7.out⟩, rfl⟩, ?_⟩
    (
      try simp only [List.setIfInBounds_toArray, List.set_cons_succ, List.set_cons_zero]
      refine wpAnyH_all (rs := [13]) (by kernel_rfl) (by simp) ?_
      intro i hi
      simp only [List.mem_cons, List.not_mem_nil, or_false] at hi
      subst hi
      refine wpOp_step rfl (fun K hK => ?_)
      go_simp)
    go_wp2_with (go_at_call 15; refine (HQc.out A7 c7 w7 HS7.out).mono ?_; rintro e w8 ⟨rfl, b8⟩; have HF8 := Lib.hid (HF7.out.then_below b8); clear b8)
    refine ⟨⟨⟨_, HF8.out⟩, rfl⟩, ?_⟩
    replace HSq := Lib.hid (show ∃ q : Later w4, w8 = q.w' from ⟨⟨_, HF8.out⟩, rfl⟩)
    (
      refine wpAnyH_takeM (i := 14) (v := .bool true) 37 rfl rfl (by kernel_rfl) (by kernel_rfl) (by kernel_rfl) (fun _ _ _ h => h) (.inl ⟨by rfl, ?_⟩) HSq.out ?_
      · rintro _ ⟨q, rfl⟩
        go_simp)
    (
      refine wpAnyH_takeM (i := 15) (v := .bool true) 38 rfl rfl (by kernel_rfl) (by kernel_rfl) (by kernel_rfl) (fun _ _ _ h => h) (.inl ⟨by rfl, ?_⟩) HSq.out ?_
      · rintro _ ⟨q, rfl⟩
        go_simp)
    (
      refine wpAnyH_takeM (i := 16) (v := .bool true) 39 rfl rfl (by kernel_rfl) (by kernel_rfl) (by kernel_rfl) (fun _ _ _ h => h) (.inl ⟨by rfl, ?_⟩) HSq.out ?_
      · rintro _ ⟨q, rfl⟩
        go_simp)
    (
      try simp only [List.setIfInBounds_toArray, List.set_cons_succ, List.set_cons_zero]
      refine wpAnyH_all (rs := [17]) (by kernel_rfl) (by simp) ?_
      intro i hi
      simp only [List.mem_cons, List.not_mem_nil, or_false] at hi
      subst hi
      refine wpOp_step rfl (fun K hK => ?_)
      go_simp)
    go_wp2_with (go_at_call 9; refine (works9_any w8).mono ?_; rintro e w9 ⟨rfl, b9⟩; have HF9 := Lib.hid (HF8.out.then_below b9); clear b9)
    refine ⟨⟨⟨_, HF9.out⟩, rfl⟩, ?_⟩
    replace HSq := Lib.hid (show ∃ q : Later w4, w9 = q.w' from ⟨⟨_, HF9.out⟩, rfl⟩)
    (
      refine wpAnyH_takeM (i := 18) (v := .bool true) 41 rfl rfl (by kernel_rfl) (by kernel_rfl) (by kernel_rfl) (fun _ _ _ h => h) (.inl ⟨by rfl, ?_⟩) HSq.out ?_
      · rintro _ ⟨q, rfl⟩
        go_simp)
    (
      try simp only [List.setIfInBounds_toArray, List.set_cons_succ, List.set_cons_zero]
      refine wpAnyH_all (rs := [19]) (by kernel_rfl) (by simp) ?_
      intro i hi
      simp only [List.mem_cons, List.not_mem_nil, or_false] at hi
      subst hi
      refine wpOp_step rfl (fun K hK => ?_)
      go_simp)
    refine hK _ _ ⟨⟨⟨_, HF9.out⟩, rfl⟩, ?_⟩
    clear hK K
    refine wpAnyH_done (by kernel_rfl) ?_ _
    go_wp2_with fail
    go_ret
    exact ⟨rfl, ((HF1.out.trans HF4.out (fun _ _ e => e)).trans HF9.out (fun _ _ e => e)).below (fun _ _ e => e)⟩
end Go.Proofs.Ythjfkeploofblaa

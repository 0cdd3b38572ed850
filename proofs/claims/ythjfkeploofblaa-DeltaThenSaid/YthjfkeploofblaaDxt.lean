/- What is proved: the walk of the law DeltaThen, for any two scripts. Conditions: the ops' cells are there. -/
import Derived.Test.YthjfkeploofblaaDtg
import Derived.Test.YthjfkeploofblaaDth
import Derived.Test.YthjfkeploofblaaDeo
import Derived.Test.YthjfkeploofblaaDef
namespace Go.Proofs.Ythjfkeploofblaa
open Go.RowKit
set_option linter.unusedVariables false

theorem Lies.frW {w w' : World} {A : Option Addr} {xs : List Value} {g : Nat} {t : TypeId} {cs : Array Value} (h : Lies w A xs) (f : Fr (fun j => j = g) w w') (hw : Whole w g t cs) (hd : ∀ u, xs[0]? = some u → ∀ i : Nat, cs[i]? ≠ some u) : Lies w' A xs := by
  rcases h with h | ⟨b, o, rfl, hc⟩
  · exact .inl h
  · by_cases e : b = g
    · left
      subst e
      cases xs with
      | nil => rfl
      | cons u xs => exact absurd ((hw.cell (o + 0)).symm.trans (hc 0 u rfl)) (hd u rfl _)
    · exact .inr ⟨b, o, rfl, fun j u hu => f.cell (hc j u hu) e⟩
theorem three_get {a b c u : Value} {i : Nat} (h : (#[a, b, c] : Array Value)[i]? = some u) : u = a ∨ u = b ∨ u = c := by
  rcases i with _ | _ | _ | i
  · simp at h; exact .inl h.symm
  · simp at h; exact .inr (.inl h.symm)
  · simp at h; exact .inr (.inr h.symm)
  · simp at h
theorem Scr.frW {w w' : World} {A : Option Addr} {c : Nat} {ps : List POp} {g : Nat} {t : TypeId} {a b : Int} {X : Option Addr} {m k : Nat} (h : Scr w A c ps) (f : Fr (fun j => j = g) w w') (hw : Whole w g t #[.int .i64 a, .int .i64 b, .slice X m k]) : Scr w' A c ps := by
  refine ⟨h.lies.frW f hw (fun u hu i e => ?_), fun p hp => ?_, h.le, h.cap⟩
  · cases ps with
    | nil => simp [flatP] at hu
    | cons p ps =>
      simp [flatP, POp.cells] at hu
      subst hu
      rcases three_get e with e | e | e <;> cases e
  · have h0 := h.ok p hp
    refine ⟨h0.f, h0.n, h0.le, h0.cap, h0.lies.frW f hw (fun u hu i e => ?_)⟩
    cases hb : p.o.b with
    | nil => rw [hb] at hu; simp [bytesV] at hu
    | cons x xs =>
      rw [hb] at hu
      simp [bytesV, byteV] at hu
      subst hu
      rcases three_get e with e | e | e <;> cases e
theorem us_len {os : List DOp} {rs us : List POp} {n : Nat} (h1 : opsO rs = os) (h2 : opsO us = os) (hn : rs.length = n) : us.length = n := by
  have := congrArg List.length (h1.trans h2.symm)
  simp [opsO] at this
  omega
set_option maxHeartbeats 12800000 in
set_option maxRecDepth 100000 in
theorem deltaThen_walk (b1 t1 : Int) (A : Option Addr) (c : Nat) (ps : List POp) (b2 t2 : Int) (D : Option Addr) (d : Nat) (qs : List POp) (w : World) (h : Scr w A c ps) (g : Scr w D d qs) :
    Calls Try.prog 7 #[.agg #[.int .i64 b1, .int .i64 t1, .slice A ps.length c], .agg #[.int .i64 b2, .int .i64 t2, .slice D qs.length d]] w (Ans w (.bool true)) := by
  unfold Ans
  obtain ⟨w1, hw1⟩ : ∃ w1, w.alloc (.cells #[.int .i64 b1, .int .i64 t1, .slice A ps.length c] 24) = w1 := ⟨_, rfl⟩
  obtain ⟨w2, hw2⟩ : ∃ w2, w1.alloc (.cells #[.int .i64 b2, .int .i64 t2, .slice D qs.length d] 24) = w2 := ⟨_, rfl⟩
  have F1 : Fr (fun _ => False) w w1 := by subst hw1; exact (Fr.refl _ _).alloc _
  have F2 : Fr (fun _ => False) w1 w2 := by subst hw2; exact (Fr.refl _ _).alloc _
  have HS1 := Lib.hid (show SAt w2 w.heap.size 24 b1 t1 (.slice A ps.length c) by subst hw1; exact (SAt.new w 24 b1 t1 _).fr F2)
  have HS2 := Lib.hid (show SAt w2 w1.heap.size 24 b2 t2 (.slice D qs.length d) by subst hw2; exact SAt.new w1 24 b2 t2 _)
  have HF := Lib.hid (F1.trans F2 (fun _ _ e => e))
  have HSa := Lib.hid (h.fr HF.out)
  have HSb := Lib.hid (g.fr HF.out)
  have hLc : ps.length ≤ 9223372036854775807 := by have := h.le; have := h.cap; omega
  have hKc : qs.length ≤ 9223372036854775807 := by have := g.le; have := g.cap; omega
  obtain ⟨c0, c1, c2⟩ := HS1.out.cells
  obtain ⟨d0, d1, d2⟩ := HS2.out.cells
  obtain ⟨L, hL⟩ : ∃ L, ps.length = L := ⟨_, rfl⟩
  obtain ⟨K, hK⟩ : ∃ K, qs.length = K := ⟨_, rfl⟩
  by_cases h4 : (60 : Int) < L
  · rw [hL] at c2 hw1 hLc ⊢
    rw [hK] at d2 hw2 hKc ⊢
    clear h g hL hK F1 F2
    (
      go_enter Try.func7, Try.ntmps7
      go_wp2_with (go_at_call 9; refine (works9_any _).mono ?_; rintro e wz ⟨rfl, b2⟩; have HB2 := Lib.hid b2; clear b2)
      go_ret
      exact ⟨rfl, (HF.out.then_below HB2.out).below (fun _ _ e => e)⟩)
  · by_cases h5 : (60 : Int) < K
    · rw [hL] at c2 hw1 hLc ⊢
      rw [hK] at d2 hw2 hKc ⊢
      clear h g hL hK F1 F2
      (
        go_enter Try.func7, Try.ntmps7
        go_wp2_with (go_at_call 9; refine (works9_any _).mono ?_; rintro e wz ⟨rfl, b2⟩; have HB2 := Lib.hid b2; clear b2)
        go_ret
        exact ⟨rfl, (HF.out.then_below HB2.out).below (fun _ _ e => e)⟩)
    · have HTh := Lib.hid (DThen_any b1 t1 A c ps b2 t2 D d qs (by omega) w2 HSa.out HSb.out)
      have HPa := Lib.hid (fun w' (f : Fr (fun _ => False) w2 w') => plain9_any b1 t1 A c ps (by omega) w' (HSa.out.fr f))
      have HPb := Lib.hid (fun w' (f : Fr (fun _ => False) w2 w') => plain9_any b2 t2 D d qs (by omega) w' (HSb.out.fr f))
      have HQt := Lib.hid (fun A' c' D' d' w' (hs : Scr w' A' c' ps) (hs' : Scr w' D' d' qs) => QDThen_any b1 t1 A' c' ps b2 t2 D' d' qs w' hs hs')
      obtain ⟨⟨⟨x, y, os⟩, E⟩, hR⟩ : ∃ R, thenR b1 t1 (opsO ps) b2 t2 (opsO qs) = R := ⟨_, rfl⟩
      rw [hR] at HTh HQt
      unfold ReadPost at HTh HQt
      unfold ScrPost at HPa HPb
      simp only at HTh HQt
      rw [hL] at c2 hw1 hLc HTh HPa HQt HS1 ⊢
      rw [hK] at d2 hw2 hKc HTh HPb HQt HS2 ⊢
      have hnl : ¬ (60 : Int) < L := h4
      have hnk : ¬ (60 : Int) < K := h5
      obtain ⟨ga, hga⟩ : ∃ ga, w.heap.size = ga := ⟨_, rfl⟩
      obtain ⟨gb, hgb⟩ : ∃ gb, w1.heap.size = gb := ⟨_, rfl⟩
      rw [hga] at HS1 c0 c1 c2
      rw [hgb] at HS2 d0 d1 d2
      clear h g hL hK F1 F2 hR
      go_enter Try.func7, Try.ntmps7
      go_upto_region 4 with (go_at_call 24; refine HTh.out.mono ?_; rintro e w3 ⟨A3, c3, rs, rfl, s3, o3, b3⟩; have HS3 := Lib.hid s3; have HO3 := Lib.hid o3; have HF3 := Lib.hid (Fr.of_below (S := fun _ => False) b3); clear s3 o3 b3)
      clear hw1 hw2 hga hgb c0 c1 c2 d0 d1 d2
      obtain ⟨n, hn⟩ : ∃ n, rs.length = n := ⟨_, rfl⟩
      have HN := Lib.hid hn
      rw [hn]
      obtain ⟨w4, hw4⟩ : ∃ w4, w3.alloc (.cells #[.int .i64 x, .int .i64 y, .slice A3 n c3] 24) = w4 := ⟨_, rfl⟩
      rw [hw4]
      have HF34 := Lib.hid (show Fr (fun _ => False) w3 w4 by subst hw4; exact (Fr.refl _ _).alloc _)
      have HT4 := Lib.hid (show SAt w4 w3.heap.size 24 x y (.slice A3 n c3) by subst hw4; exact SAt.new w3 24 x y _)
      have HF4 := Lib.hid (HF3.out.trans HF34.out (fun _ _ e => e))
      have HS4 := Lib.hid (HS3.out.fr HF34.out)
      obtain ⟨g4, hg4⟩ : ∃ g4, w3.heap.size = g4 := ⟨_, rfl⟩
      rw [hg4] at HT4 ⊢
      clear hw4 hg4 hn
      have q0 : ∀ q : Later w4, q.w'.cell? ⟨ga, 0, none⟩ = some (.int .i64 b1) := fun q => ((HS1.out.fr (HF4.out.trans q.fr (fun _ _ e => e))).cells).1
      have q1 : ∀ q : Later w4, q.w'.cell? ⟨ga, 1, none⟩ = some (.int .i64 t1) := fun q => ((HS1.out.fr (HF4.out.trans q.fr (fun _ _ e => e))).cells).2.1
      have q2 : ∀ q : Later w4, q.w'.cell? ⟨ga, 2, none⟩ = some (.slice A L c) := fun q => ((HS1.out.fr (HF4.out.trans q.fr (fun _ _ e => e))).cells).2.2
      have q3 : ∀ q : Later w4, q.w'.cell? ⟨gb, 0, none⟩ = some (.int .i64 b2) := fun q => ((HS2.out.fr (HF4.out.trans q.fr (fun _ _ e => e))).cells).1
      have q4 : ∀ q : Later w4, q.w'.cell? ⟨gb, 1, none⟩ = some (.int .i64 t2) := fun q => ((HS2.out.fr (HF4.out.trans q.fr (fun _ _ e => e))).cells).2.1
      have q5 : ∀ q : Later w4, q.w'.cell? ⟨gb, 2, none⟩ = some (.slice D K d) := fun q => ((HS2.out.fr (HF4.out.trans q.fr (fun _ _ e => e))).cells).2.2
      have HSq := Lib.hid (show ∃ q : Later w4, w4.drew = q.w' from ⟨⟨_, (Fr.refl _ w4).drew⟩, rfl⟩)
      have HFd := Lib.hid (show Fr (fun _ => False) w4 w4.drew from (Fr.refl _ w4).drew)
      refine wp_region_held (S := fun w' => ∃ q : Later w4, w' = q.w') (by kernel_rfl) ?_
      (
        refine wpAnyH_takeM (i := 0) (v := .agg #[.int .i64 b1, .int .i64 t1, .slice A L c]) 27 rfl rfl (by kernel_rfl) (by kernel_rfl) (by kernel_rfl) (fun _ _ _ h => h) (.inl ⟨by rfl, ?_⟩) HSq.out ?_
        · rintro _ ⟨q, rfl⟩
          go_simp)
      (
        refine wpAnyH_takeM (i := 2) (v := .agg #[.int .i64 b2, .int .i64 t2, .slice D K d]) 29 rfl rfl (by kernel_rfl) (by kernel_rfl) (by kernel_rfl) (fun _ _ _ h => h) (.inl ⟨by rfl, ?_⟩) HSq.out ?_
        · rintro _ ⟨q, rfl⟩
          go_simp)
      change wpAnyH _ _ _ _ _ _ _ _ (World.drew w4)
      obtain ⟨wd, hwd⟩ : ∃ wd, w4.drew = wd := ⟨_, rfl⟩
      rw [hwd]
      rw [hwd] at HFd
      clear hwd q0 q1 q2 q3 q4 q5
      have HFc := HFd
      obtain ⟨wc, hwc⟩ : ∃ wc, wd = wc := ⟨_, rfl⟩
      rw [hwc] at HFc ⊢
      clear hwc HFd HSq
      (
        try simp only [List.setIfInBounds_toArray, List.set_cons_succ, List.set_cons_zero]
        refine wpAnyH_all (rs := [1, 8]) (by kernel_rfl) (by simp) ?_
        intro i hi
        simp only [List.mem_cons, List.not_mem_nil, or_false] at hi
        rcases hi with rfl | rfl)
      · (
        refine wpOp_step rfl (fun K hK => ?_)
        go_simp)
        (
          go_wp2_with (go_at_call 12; refine (HPa.out wc (HF4.out.trans HFc.out (fun _ _ e => e))).mono ?_; rintro e wc ⟨A5, c5, rfl, s5, b5⟩; have HS5 := Lib.hid s5; skip; have HFc := Lib.hid (HFc.out.then_below b5); clear s5 b5)
          refine ⟨⟨⟨_, HFc.out⟩, rfl⟩, ?_⟩)
        (
          try simp only [List.setIfInBounds_toArray, List.set_cons_succ, List.set_cons_zero]
          refine wpAnyH_all (rs := [3, 8]) (by kernel_rfl) (by simp) ?_
          intro i hi
          simp only [List.mem_cons, List.not_mem_nil, or_false] at hi
          rcases hi with rfl | rfl)
        · (
          refine wpOp_step rfl (fun K hK => ?_)
          go_simp)
          (
            go_wp2_with (go_at_call 12; refine (HPb.out wc (HF4.out.trans HFc.out (fun _ _ e => e))).mono ?_; rintro e wc ⟨A6, c6, rfl, s6, b5⟩; have HS6 := Lib.hid s6; have HS5 := Lib.hid (HS5.out.below b5); skip; have HFc := Lib.hid (HFc.out.then_below b5); clear s6 b5)
            refine ⟨⟨⟨_, HFc.out⟩, rfl⟩, ?_⟩)
          (
            try simp only [List.setIfInBounds_toArray, List.set_cons_succ, List.set_cons_zero]
            refine wpAnyH_all (rs := [4, 8]) (by kernel_rfl) (by simp) ?_
            intro i hi
            simp only [List.mem_cons, List.not_mem_nil, or_false] at hi
            rcases hi with rfl | rfl)
          · (
            refine wpOp_step rfl (fun K hK => ?_)
            go_simp)
            (
              go_wp2_with (go_at_call 25; refine (HQt.out A5 c5 A6 c6 wc HS5.out HS6.out).mono ?_; rintro e wc ⟨A7, c7, us, rfl, s7, o7, b5⟩; have HS7 := Lib.hid s7; have HO7 := Lib.hid o7; skip; have HFc := Lib.hid (HFc.out.then_below b5); have hun := us_len HO3.out o7 HN.out; rw [hun]; have HUn := Lib.hid hun; clear s7 o7 b5 hun)
              refine ⟨⟨⟨_, HFc.out⟩, rfl⟩, ?_⟩
              have HSq := Lib.hid (show ∃ q : Later w4, wc = q.w' from ⟨⟨_, HFc.out⟩, rfl⟩)
              try simp only [List.setIfInBounds_toArray, List.set_cons_succ, List.set_cons_zero]
              (
                refine wpAnyH_takeM (i := 5) (v := .tuple #[.agg #[.int .i64 x, .int .i64 y, .slice A7 n c7], .int .i64 E]) 26 rfl rfl (by kernel_rfl) (by kernel_rfl) (by kernel_rfl) (fun _ _ _ h => h) (.inl ⟨by rfl, ?_⟩) HSq.out ?_
                · rintro _ ⟨q, rfl⟩
                  go_simp)
              (
                refine wpAnyH_takeM (i := 6) (v := .agg #[.int .i64 x, .int .i64 y, .slice A7 n c7]) 32 rfl rfl (by kernel_rfl) (by kernel_rfl) (by kernel_rfl) (fun _ _ _ h => h) (.inl ⟨by rfl, ?_⟩) HSq.out ?_
                · rintro _ ⟨q, rfl⟩
                  go_simp)
              (
                refine wpAnyH_takeM (i := 7) (v := .int .i64 E) 33 rfl rfl (by kernel_rfl) (by kernel_rfl) (by kernel_rfl) (fun _ _ _ h => h) (.inl ⟨by rfl, ?_⟩) HSq.out ?_
                · rintro _ ⟨q, rfl⟩
                  go_simp)
              clear HSq)
            (
              try simp only [List.setIfInBounds_toArray, List.set_cons_succ, List.set_cons_zero]
              refine wpAnyH_all (rs := [8]) (by kernel_rfl) (by simp) ?_
              intro i hi
              simp only [List.mem_cons, List.not_mem_nil, or_false] at hi
              subst hi)
            (
              refine wpOp_step rfl (fun K hK => ?_)
              obtain ⟨wold, hwold⟩ : ∃ wold, wold = wc := ⟨_, rfl⟩
              subst hwold
              obtain ⟨wc, hwa⟩ : ∃ wc, wold.alloc (.cells #[.int .i64 0, .int .i64 0, .slice none 0 0] 34) = wc := ⟨_, rfl⟩
              have hfa : Fr (fun _ => False) wold wc := by rw [← hwa]; exact (Fr.refl _ wold).alloc _
              have hWa : Whole wc wold.heap.size 34 #[.int .i64 0, .int .i64 0, .slice none 0 0] := by rw [← hwa]; exact Whole.new _ _ _
              obtain ⟨ga7, hga7⟩ : ∃ ga7, wold.heap.size = ga7 := ⟨_, rfl⟩
              rw [hga7] at hWa
              have HWa := Lib.hid hWa
              have HGa7 := Lib.hid (show w4.heap.size ≤ ga7 from by have := HFc.out.size; omega)
              have HFc := Lib.hid (HFc.out.trans hfa (fun _ _ e => e))
              skip
              skip
              have HS7 := Lib.hid (HS7.out.fr hfa)
              clear hfa hWa
              go_simp
              refine hK _ _ ⟨⟨⟨_, HFc.out⟩, rfl⟩, ?_⟩
              clear hK K hwa hga7)
            (
              obtain ⟨e0, e1, e2⟩ := HWa.out.three
              have z0 := HWa.out.frozen 0
              have z1 := HWa.out.frozen 1
              have z2 := HWa.out.frozen 2
              (
                try simp only [List.setIfInBounds_toArray, List.set_cons_succ, List.set_cons_zero]
                refine wpAnyH_all (rs := [9]) (by kernel_rfl) (by simp) ?_
                intro i hi
                simp only [List.mem_cons, List.not_mem_nil, or_false] at hi
                subst hi)
              refine wpOp_step rfl (fun K hK => ?_)
              obtain ⟨ws, hws⟩ : ∃ ws, ((wc.setCell ⟨ga7, 0, none⟩ (.int .i64 x)).setCell ⟨ga7, 1, none⟩ (.int .i64 y)).setCell ⟨ga7, 2, none⟩ (.slice A7 n c7) = ws := ⟨_, rfl⟩
              have HFs := Lib.hid (show Fr (fun _ => False) w4 ws from by rw [← hws]; exact HFc.out.trans (setScr_fr wc ga7 _ _ _) (fun i hi e => by have := HGa7.out; omega))
              have HTs := Lib.hid (show SAt ws ga7 34 x y (.slice A7 n c7) from by rw [← hws]; exact ⟨setScr_whole HWa.out⟩)
              have HSs7 := Lib.hid (show Scr ws A7 c7 us from by
                rw [← hws]
                have hl := HWa.out
                exact HS7.out.frW (setScr_fr wc ga7 _ _ _) HWa.out)
              go_simp
              refine hK _ _ ⟨⟨⟨_, HFs.out⟩, rfl⟩, ?_⟩
              clear hK K hws
              (
                try simp only [List.setIfInBounds_toArray, List.set_cons_succ, List.set_cons_zero]
                refine wpAnyH_all (rs := [10]) (by kernel_rfl) (by simp) ?_
                intro i hi
                simp only [List.mem_cons, List.not_mem_nil, or_false] at hi
                subst hi)
              refine wpOp_step rfl (fun K hK => ?_)
              go_simp
              refine hK _ _ ⟨⟨⟨_, HFs.out⟩, rfl⟩, ?_⟩
              clear hK K
              refine wpAnyH_done (by kernel_rfl) ?_ _
              clear e0 e1 e2 z0 z1 z2
              obtain ⟨t0, t1, t2⟩ := HTs.out.cells
              obtain ⟨s0, s1, s2⟩ := (HT4.out.fr HFs.out).cells
              have HSa9 := Lib.hid (same9_any x y A3 A7 c3 c7 rs us (HO3.out.trans HO7.out.symm) ws (HS4.out.fr HFs.out) HSs7.out)
              unfold Ans at HSa9
              rw [HN.out, HUn.out] at HSa9
              go_wp2_with (first
                | (go_at_call 18; refine HSa9.out.mono ?_; rintro e w8 ⟨rfl, b8⟩; have HF8 := Lib.hid (HFs.out.then_below b8); clear b8)
                | (go_at_call 9; refine (works9_any w8).mono ?_; rintro e w9 ⟨rfl, b9⟩; have HF9 := Lib.hid (HF8.out.then_below b9); clear b9))
              go_ret
              exact ⟨rfl, ((HF.out.trans HF4.out (fun _ _ e => e)).trans HF9.out (fun _ _ e => e)).below (fun _ _ e => e)⟩)
          · (
            refine wpOp_step rfl (fun K hK => ?_)
            obtain ⟨wold, hwold⟩ : ∃ wold, wold = wc := ⟨_, rfl⟩
            subst hwold
            obtain ⟨wc, hwa⟩ : ∃ wc, wold.alloc (.cells #[.int .i64 0, .int .i64 0, .slice none 0 0] 34) = wc := ⟨_, rfl⟩
            have hfa : Fr (fun _ => False) wold wc := by rw [← hwa]; exact (Fr.refl _ wold).alloc _
            have hWa : Whole wc wold.heap.size 34 #[.int .i64 0, .int .i64 0, .slice none 0 0] := by rw [← hwa]; exact Whole.new _ _ _
            obtain ⟨ga7, hga7⟩ : ∃ ga7, wold.heap.size = ga7 := ⟨_, rfl⟩
            rw [hga7] at hWa
            have HWa := Lib.hid hWa
            have HGa7 := Lib.hid (show w4.heap.size ≤ ga7 from by have := HFc.out.size; omega)
            have HFc := Lib.hid (HFc.out.trans hfa (fun _ _ e => e))
            have HS5 := Lib.hid (HS5.out.fr hfa)
            have HS6 := Lib.hid (HS6.out.fr hfa)
            skip
            clear hfa hWa
            go_simp
            refine hK _ _ ⟨⟨⟨_, HFc.out⟩, rfl⟩, ?_⟩
            clear hK K hwa hga7)
            (
              try simp only [List.setIfInBounds_toArray, List.set_cons_succ, List.set_cons_zero]
              refine wpAnyH_all (rs := [4]) (by kernel_rfl) (by simp) ?_
              intro i hi
              simp only [List.mem_cons, List.not_mem_nil, or_false] at hi
              subst hi)
            (
              refine wpOp_step rfl (fun K hK => ?_)
              go_simp)
            (
              go_wp2_with (go_at_call 25; refine (HQt.out A5 c5 A6 c6 wc HS5.out HS6.out).mono ?_; rintro e wc ⟨A7, c7, us, rfl, s7, o7, b5⟩; have HS7 := Lib.hid s7; have HO7 := Lib.hid o7; have HWa := Lib.hid (HWa.out.fr (Fr.of_below (S := fun _ => False) b5) (fun e => e)); have HFc := Lib.hid (HFc.out.then_below b5); have hun := us_len HO3.out o7 HN.out; rw [hun]; have HUn := Lib.hid hun; clear s7 o7 b5 hun)
              refine ⟨⟨⟨_, HFc.out⟩, rfl⟩, ?_⟩
              have HSq := Lib.hid (show ∃ q : Later w4, wc = q.w' from ⟨⟨_, HFc.out⟩, rfl⟩)
              try simp only [List.setIfInBounds_toArray, List.set_cons_succ, List.set_cons_zero]
              (
                refine wpAnyH_takeM (i := 5) (v := .tuple #[.agg #[.int .i64 x, .int .i64 y, .slice A7 n c7], .int .i64 E]) 26 rfl rfl (by kernel_rfl) (by kernel_rfl) (by kernel_rfl) (fun _ _ _ h => h) (.inl ⟨by rfl, ?_⟩) HSq.out ?_
                · rintro _ ⟨q, rfl⟩
                  go_simp)
              (
                refine wpAnyH_takeM (i := 6) (v := .agg #[.int .i64 x, .int .i64 y, .slice A7 n c7]) 32 rfl rfl (by kernel_rfl) (by kernel_rfl) (by kernel_rfl) (fun _ _ _ h => h) (.inl ⟨by rfl, ?_⟩) HSq.out ?_
                · rintro _ ⟨q, rfl⟩
                  go_simp)
              (
                refine wpAnyH_takeM (i := 7) (v := .int .i64 E) 33 rfl rfl (by kernel_rfl) (by kernel_rfl) (by kernel_rfl) (fun _ _ _ h => h) (.inl ⟨by rfl, ?_⟩) HSq.out ?_
                · rintro _ ⟨q, rfl⟩
                  go_simp)
              clear HSq)
            (
              obtain ⟨e0, e1, e2⟩ := HWa.out.three
              have z0 := HWa.out.frozen 0
              have z1 := HWa.out.frozen 1
              have z2 := HWa.out.frozen 2
              (
                try simp only [List.setIfInBounds_toArray, List.set_cons_succ, List.set_cons_zero]
                refine wpAnyH_all (rs := [9]) (by kernel_rfl) (by simp) ?_
                intro i hi
                simp only [List.mem_cons, List.not_mem_nil, or_false] at hi
                subst hi)
              refine wpOp_step rfl (fun K hK => ?_)
              obtain ⟨ws, hws⟩ : ∃ ws, ((wc.setCell ⟨ga7, 0, none⟩ (.int .i64 x)).setCell ⟨ga7, 1, none⟩ (.int .i64 y)).setCell ⟨ga7, 2, none⟩ (.slice A7 n c7) = ws := ⟨_, rfl⟩
              have HFs := Lib.hid (show Fr (fun _ => False) w4 ws from by rw [← hws]; exact HFc.out.trans (setScr_fr wc ga7 _ _ _) (fun i hi e => by have := HGa7.out; omega))
              have HTs := Lib.hid (show SAt ws ga7 34 x y (.slice A7 n c7) from by rw [← hws]; exact ⟨setScr_whole HWa.out⟩)
              have HSs7 := Lib.hid (show Scr ws A7 c7 us from by
                rw [← hws]
                have hl := HWa.out
                exact HS7.out.frW (setScr_fr wc ga7 _ _ _) HWa.out)
              go_simp
              refine hK _ _ ⟨⟨⟨_, HFs.out⟩, rfl⟩, ?_⟩
              clear hK K hws
              (
                try simp only [List.setIfInBounds_toArray, List.set_cons_succ, List.set_cons_zero]
                refine wpAnyH_all (rs := [10]) (by kernel_rfl) (by simp) ?_
                intro i hi
                simp only [List.mem_cons, List.not_mem_nil, or_false] at hi
                subst hi)
              refine wpOp_step rfl (fun K hK => ?_)
              go_simp
              refine hK _ _ ⟨⟨⟨_, HFs.out⟩, rfl⟩, ?_⟩
              clear hK K
              refine wpAnyH_done (by kernel_rfl) ?_ _
              clear e0 e1 e2 z0 z1 z2
              obtain ⟨t0, t1, t2⟩ := HTs.out.cells
              obtain ⟨s0, s1, s2⟩ := (HT4.out.fr HFs.out).cells
              have HSa9 := Lib.hid (same9_any x y A3 A7 c3 c7 rs us (HO3.out.trans HO7.out.symm) ws (HS4.out.fr HFs.out) HSs7.out)
              unfold Ans at HSa9
              rw [HN.out, HUn.out] at HSa9
              go_wp2_with (first
                | (go_at_call 18; refine HSa9.out.mono ?_; rintro e w8 ⟨rfl, b8⟩; have HF8 := Lib.hid (HFs.out.then_below b8); clear b8)
                | (go_at_call 9; refine (works9_any w8).mono ?_; rintro e w9 ⟨rfl, b9⟩; have HF9 := Lib.hid (HF8.out.then_below b9); clear b9))
              go_ret
              exact ⟨rfl, ((HF.out.trans HF4.out (fun _ _ e => e)).trans HF9.out (fun _ _ e => e)).below (fun _ _ e => e)⟩)
        · (
          refine wpOp_step rfl (fun K hK => ?_)
          obtain ⟨wold, hwold⟩ : ∃ wold, wold = wc := ⟨_, rfl⟩
          subst hwold
          obtain ⟨wc, hwa⟩ : ∃ wc, wold.alloc (.cells #[.int .i64 0, .int .i64 0, .slice none 0 0] 34) = wc := ⟨_, rfl⟩
          have hfa : Fr (fun _ => False) wold wc := by rw [← hwa]; exact (Fr.refl _ wold).alloc _
          have hWa : Whole wc wold.heap.size 34 #[.int .i64 0, .int .i64 0, .slice none 0 0] := by rw [← hwa]; exact Whole.new _ _ _
          obtain ⟨ga7, hga7⟩ : ∃ ga7, wold.heap.size = ga7 := ⟨_, rfl⟩
          rw [hga7] at hWa
          have HWa := Lib.hid hWa
          have HGa7 := Lib.hid (show w4.heap.size ≤ ga7 from by have := HFc.out.size; omega)
          have HFc := Lib.hid (HFc.out.trans hfa (fun _ _ e => e))
          have HS5 := Lib.hid (HS5.out.fr hfa)
          skip
          skip
          clear hfa hWa
          go_simp
          refine hK _ _ ⟨⟨⟨_, HFc.out⟩, rfl⟩, ?_⟩
          clear hK K hwa hga7)
          (
            try simp only [List.setIfInBounds_toArray, List.set_cons_succ, List.set_cons_zero]
            refine wpAnyH_all (rs := [3]) (by kernel_rfl) (by simp) ?_
            intro i hi
            simp only [List.mem_cons, List.not_mem_nil, or_false] at hi
            subst hi)
          (
            refine wpOp_step rfl (fun K hK => ?_)
            go_simp)
          (
            go_wp2_with (go_at_call 12; refine (HPb.out wc (HF4.out.trans HFc.out (fun _ _ e => e))).mono ?_; rintro e wc ⟨A6, c6, rfl, s6, b5⟩; have HS6 := Lib.hid s6; have HS5 := Lib.hid (HS5.out.below b5); have HWa := Lib.hid (HWa.out.fr (Fr.of_below (S := fun _ => False) b5) (fun e => e)); have HFc := Lib.hid (HFc.out.then_below b5); clear s6 b5)
            refine ⟨⟨⟨_, HFc.out⟩, rfl⟩, ?_⟩)
          (
            try simp only [List.setIfInBounds_toArray, List.set_cons_succ, List.set_cons_zero]
            refine wpAnyH_all (rs := [4]) (by kernel_rfl) (by simp) ?_
            intro i hi
            simp only [List.mem_cons, List.not_mem_nil, or_false] at hi
            subst hi)
          (
            refine wpOp_step rfl (fun K hK => ?_)
            go_simp)
          (
            go_wp2_with (go_at_call 25; refine (HQt.out A5 c5 A6 c6 wc HS5.out HS6.out).mono ?_; rintro e wc ⟨A7, c7, us, rfl, s7, o7, b5⟩; have HS7 := Lib.hid s7; have HO7 := Lib.hid o7; have HWa := Lib.hid (HWa.out.fr (Fr.of_below (S := fun _ => False) b5) (fun e => e)); have HFc := Lib.hid (HFc.out.then_below b5); have hun := us_len HO3.out o7 HN.out; rw [hun]; have HUn := Lib.hid hun; clear s7 o7 b5 hun)
            refine ⟨⟨⟨_, HFc.out⟩, rfl⟩, ?_⟩
            have HSq := Lib.hid (show ∃ q : Later w4, wc = q.w' from ⟨⟨_, HFc.out⟩, rfl⟩)
            try simp only [List.setIfInBounds_toArray, List.set_cons_succ, List.set_cons_zero]
            (
              refine wpAnyH_takeM (i := 5) (v := .tuple #[.agg #[.int .i64 x, .int .i64 y, .slice A7 n c7], .int .i64 E]) 26 rfl rfl (by kernel_rfl) (by kernel_rfl) (by kernel_rfl) (fun _ _ _ h => h) (.inl ⟨by rfl, ?_⟩) HSq.out ?_
              · rintro _ ⟨q, rfl⟩
                go_simp)
            (
              refine wpAnyH_takeM (i := 6) (v := .agg #[.int .i64 x, .int .i64 y, .slice A7 n c7]) 32 rfl rfl (by kernel_rfl) (by kernel_rfl) (by kernel_rfl) (fun _ _ _ h => h) (.inl ⟨by rfl, ?_⟩) HSq.out ?_
              · rintro _ ⟨q, rfl⟩
                go_simp)
            (
              refine wpAnyH_takeM (i := 7) (v := .int .i64 E) 33 rfl rfl (by kernel_rfl) (by kernel_rfl) (by kernel_rfl) (fun _ _ _ h => h) (.inl ⟨by rfl, ?_⟩) HSq.out ?_
              · rintro _ ⟨q, rfl⟩
                go_simp)
            clear HSq)
          (
            obtain ⟨e0, e1, e2⟩ := HWa.out.three
            have z0 := HWa.out.frozen 0
            have z1 := HWa.out.frozen 1
            have z2 := HWa.out.frozen 2
            (
              try simp only [List.setIfInBounds_toArray, List.set_cons_succ, List.set_cons_zero]
              refine wpAnyH_all (rs := [9]) (by kernel_rfl) (by simp) ?_
              intro i hi
              simp only [List.mem_cons, List.not_mem_nil, or_false] at hi
              subst hi)
            refine wpOp_step rfl (fun K hK => ?_)
            obtain ⟨ws, hws⟩ : ∃ ws, ((wc.setCell ⟨ga7, 0, none⟩ (.int .i64 x)).setCell ⟨ga7, 1, none⟩ (.int .i64 y)).setCell ⟨ga7, 2, none⟩ (.slice A7 n c7) = ws := ⟨_, rfl⟩
            have HFs := Lib.hid (show Fr (fun _ => False) w4 ws from by rw [← hws]; exact HFc.out.trans (setScr_fr wc ga7 _ _ _) (fun i hi e => by have := HGa7.out; omega))
            have HTs := Lib.hid (show SAt ws ga7 34 x y (.slice A7 n c7) from by rw [← hws]; exact ⟨setScr_whole HWa.out⟩)
            have HSs7 := Lib.hid (show Scr ws A7 c7 us from by
              rw [← hws]
              have hl := HWa.out
              exact HS7.out.frW (setScr_fr wc ga7 _ _ _) HWa.out)
            go_simp
            refine hK _ _ ⟨⟨⟨_, HFs.out⟩, rfl⟩, ?_⟩
            clear hK K hws
            (
              try simp only [List.setIfInBounds_toArray, List.set_cons_succ, List.set_cons_zero]
              refine wpAnyH_all (rs := [10]) (by kernel_rfl) (by simp) ?_
              intro i hi
              simp only [List.mem_cons, List.not_mem_nil, or_false] at hi
              subst hi)
            refine wpOp_step rfl (fun K hK => ?_)
            go_simp
            refine hK _ _ ⟨⟨⟨_, HFs.out⟩, rfl⟩, ?_⟩
            clear hK K
            refine wpAnyH_done (by kernel_rfl) ?_ _
            clear e0 e1 e2 z0 z1 z2
            obtain ⟨t0, t1, t2⟩ := HTs.out.cells
            obtain ⟨s0, s1, s2⟩ := (HT4.out.fr HFs.out).cells
            have HSa9 := Lib.hid (same9_any x y A3 A7 c3 c7 rs us (HO3.out.trans HO7.out.symm) ws (HS4.out.fr HFs.out) HSs7.out)
            unfold Ans at HSa9
            rw [HN.out, HUn.out] at HSa9
            go_wp2_with (first
              | (go_at_call 18; refine HSa9.out.mono ?_; rintro e w8 ⟨rfl, b8⟩; have HF8 := Lib.hid (HFs.out.then_below b8); clear b8)
              | (go_at_call 9; refine (works9_any w8).mono ?_; rintro e w9 ⟨rfl, b9⟩; have HF9 := Lib.hid (HF8.out.then_below b9); clear b9))
            go_ret
            exact ⟨rfl, ((HF.out.trans HF4.out (fun _ _ e => e)).trans HF9.out (fun _ _ e => e)).below (fun _ _ e => e)⟩)
      · (
        refine wpOp_step rfl (fun K hK => ?_)
        obtain ⟨wold, hwold⟩ : ∃ wold, wold = wc := ⟨_, rfl⟩
        subst hwold
        obtain ⟨wc, hwa⟩ : ∃ wc, wold.alloc (.cells #[.int .i64 0, .int .i64 0, .slice none 0 0] 34) = wc := ⟨_, rfl⟩
        have hfa : Fr (fun _ => False) wold wc := by rw [← hwa]; exact (Fr.refl _ wold).alloc _
        have hWa : Whole wc wold.heap.size 34 #[.int .i64 0, .int .i64 0, .slice none 0 0] := by rw [← hwa]; exact Whole.new _ _ _
        obtain ⟨ga7, hga7⟩ : ∃ ga7, wold.heap.size = ga7 := ⟨_, rfl⟩
        rw [hga7] at hWa
        have HWa := Lib.hid hWa
        have HGa7 := Lib.hid (show w4.heap.size ≤ ga7 from by have := HFc.out.size; omega)
        have HFc := Lib.hid (HFc.out.trans hfa (fun _ _ e => e))
        skip
        skip
        skip
        clear hfa hWa
        go_simp
        refine hK _ _ ⟨⟨⟨_, HFc.out⟩, rfl⟩, ?_⟩
        clear hK K hwa hga7)
        (
          try simp only [List.setIfInBounds_toArray, List.set_cons_succ, List.set_cons_zero]
          refine wpAnyH_all (rs := [1]) (by kernel_rfl) (by simp) ?_
          intro i hi
          simp only [List.mem_cons, List.not_mem_nil, or_false] at hi
          subst hi)
        (
          refine wpOp_step rfl (fun K hK => ?_)
          go_simp)
        (
          go_wp2_with (go_at_call 12; refine (HPa.out wc (HF4.out.trans HFc.out (fun _ _ e => e))).mono ?_; rintro e wc ⟨A5, c5, rfl, s5, b5⟩; have HS5 := Lib.hid s5; have HWa := Lib.hid (HWa.out.fr (Fr.of_below (S := fun _ => False) b5) (fun e => e)); have HFc := Lib.hid (HFc.out.then_below b5); clear s5 b5)
          refine ⟨⟨⟨_, HFc.out⟩, rfl⟩, ?_⟩)
        (
          try simp only [List.setIfInBounds_toArray, List.set_cons_succ, List.set_cons_zero]
          refine wpAnyH_all (rs := [3]) (by kernel_rfl) (by simp) ?_
          intro i hi
          simp only [List.mem_cons, List.not_mem_nil, or_false] at hi
          subst hi)
        (
          refine wpOp_step rfl (fun K hK => ?_)
          go_simp)
        (
          go_wp2_with (go_at_call 12; refine (HPb.out wc (HF4.out.trans HFc.out (fun _ _ e => e))).mono ?_; rintro e wc ⟨A6, c6, rfl, s6, b5⟩; have HS6 := Lib.hid s6; have HS5 := Lib.hid (HS5.out.below b5); have HWa := Lib.hid (HWa.out.fr (Fr.of_below (S := fun _ => False) b5) (fun e => e)); have HFc := Lib.hid (HFc.out.then_below b5); clear s6 b5)
          refine ⟨⟨⟨_, HFc.out⟩, rfl⟩, ?_⟩)
        (
          try simp only [List.setIfInBounds_toArray, List.set_cons_succ, List.set_cons_zero]
          refine wpAnyH_all (rs := [4]) (by kernel_rfl) (by simp) ?_
          intro i hi
          simp only [List.mem_cons, List.not_mem_nil, or_false] at hi
          subst hi)
        (
          refine wpOp_step rfl (fun K hK => ?_)
          go_simp)
        (
          go_wp2_with (go_at_call 25; refine (HQt.out A5 c5 A6 c6 wc HS5.out HS6.out).mono ?_; rintro e wc ⟨A7, c7, us, rfl, s7, o7, b5⟩; have HS7 := Lib.hid s7; have HO7 := Lib.hid o7; have HWa := Lib.hid (HWa.out.fr (Fr.of_below (S := fun _ => False) b5) (fun e => e)); have HFc := Lib.hid (HFc.out.then_below b5); have hun := us_len HO3.out o7 HN.out; rw [hun]; have HUn := Lib.hid hun; clear s7 o7 b5 hun)
          refine ⟨⟨⟨_, HFc.out⟩, rfl⟩, ?_⟩
          have HSq := Lib.hid (show ∃ q : Later w4, wc = q.w' from ⟨⟨_, HFc.out⟩, rfl⟩)
          try simp only [List.setIfInBounds_toArray, List.set_cons_succ, List.set_cons_zero]
          (
            refine wpAnyH_takeM (i := 5) (v := .tuple #[.agg #[.int .i64 x, .int .i64 y, .slice A7 n c7], .int .i64 E]) 26 rfl rfl (by kernel_rfl) (by kernel_rfl) (by kernel_rfl) (fun _ _ _ h => h) (.inl ⟨by rfl, ?_⟩) HSq.out ?_
            · rintro _ ⟨q, rfl⟩
              go_simp)
          (
            refine wpAnyH_takeM (i := 6) (v := .agg #[.int .i64 x, .int .i64 y, .slice A7 n c7]) 32 rfl rfl (by kernel_rfl) (by kernel_rfl) (by kernel_rfl) (fun _ _ _ h => h) (.inl ⟨by rfl, ?_⟩) HSq.out ?_
            · rintro _ ⟨q, rfl⟩
              go_simp)
          (
            refine wpAnyH_takeM (i := 7) (v := .int .i64 E) 33 rfl rfl (by kernel_rfl) (by kernel_rfl) (by kernel_rfl) (fun _ _ _ h => h) (.inl ⟨by rfl, ?_⟩) HSq.out ?_
            · rintro _ ⟨q, rfl⟩
              go_simp)
          clear HSq)
        (
          obtain ⟨e0, e1, e2⟩ := HWa.out.three
          have z0 := HWa.out.frozen 0
          have z1 := HWa.out.frozen 1
          have z2 := HWa.out.frozen 2
          (
            try simp only [List.setIfInBounds_toArray, List.set_cons_succ, List.set_cons_zero]
            refine wpAnyH_all (rs := [9]) (by kernel_rfl) (by simp) ?_
            intro i hi
            simp only [List.mem_cons, List.not_mem_nil, or_false] at hi
            subst hi)
          refine wpOp_step rfl (fun K hK => ?_)
          obtain ⟨ws, hws⟩ : ∃ ws, ((wc.setCell ⟨ga7, 0, none⟩ (.int .i64 x)).setCell ⟨ga7, 1, none⟩ (.int .i64 y)).setCell ⟨ga7, 2, none⟩ (.slice A7 n c7) = ws := ⟨_, rfl⟩
          have HFs := Lib.hid (show Fr (fun _ => False) w4 ws from by rw [← hws]; exact HFc.out.trans (setScr_fr wc ga7 _ _ _) (fun i hi e => by have := HGa7.out; omega))
          have HTs := Lib.hid (show SAt ws ga7 34 x y (.slice A7 n c7) from by rw [← hws]; exact ⟨setScr_whole HWa.out⟩)
          have HSs7 := Lib.hid (show Scr ws A7 c7 us from by
            rw [← hws]
            have hl := HWa.out
            exact HS7.out.frW (setScr_fr wc ga7 _ _ _) HWa.out)
          go_simp
          refine hK _ _ ⟨⟨⟨_, HFs.out⟩, rfl⟩, ?_⟩
          clear hK K hws
          (
            try simp only [List.setIfInBounds_toArray, List.set_cons_succ, List.set_cons_zero]
            refine wpAnyH_all (rs := [10]) (by kernel_rfl) (by simp) ?_
            intro i hi
            simp only [List.mem_cons, List.not_mem_nil, or_false] at hi
            subst hi)
          refine wpOp_step rfl (fun K hK => ?_)
          go_simp
          refine hK _ _ ⟨⟨⟨_, HFs.out⟩, rfl⟩, ?_⟩
          clear hK K
          refine wpAnyH_done (by kernel_rfl) ?_ _
          clear e0 e1 e2 z0 z1 z2
          obtain ⟨t0, t1, t2⟩ := HTs.out.cells
          obtain ⟨s0, s1, s2⟩ := (HT4.out.fr HFs.out).cells
          have HSa9 := Lib.hid (same9_any x y A3 A7 c3 c7 rs us (HO3.out.trans HO7.out.symm) ws (HS4.out.fr HFs.out) HSs7.out)
          unfold Ans at HSa9
          rw [HN.out, HUn.out] at HSa9
          go_wp2_with (first
            | (go_at_call 18; refine HSa9.out.mono ?_; rintro e w8 ⟨rfl, b8⟩; have HF8 := Lib.hid (HFs.out.then_below b8); clear b8)
            | (go_at_call 9; refine (works9_any w8).mono ?_; rintro e w9 ⟨rfl, b9⟩; have HF9 := Lib.hid (HF8.out.then_below b9); clear b9))
          go_ret
          exact ⟨rfl, ((HF.out.trans HF4.out (fun _ _ e => e)).trans HF9.out (fun _ _ e => e)).below (fun _ _ e => e)⟩)
end Go.Proofs.Ythjfkeploofblaa

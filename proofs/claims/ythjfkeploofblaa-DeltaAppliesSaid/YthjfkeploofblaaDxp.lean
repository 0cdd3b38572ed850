/- What is proved: the walk of the law DeltaApplies, for any base and script. Conditions: the bytes' and the ops' cells are there; no row of bytes is longer than any machine's. -/
import Derived.Test.YthjfkeploofblaaDpb
import Derived.Test.YthjfkeploofblaaDpc
import Derived.Test.YthjfkeploofblaaDeo
namespace Go.Proofs.Ythjfkeploofblaa
open Go.RowKit
set_option linter.unusedVariables false

set_option maxHeartbeats 12800000 in
set_option maxRecDepth 100000 in
theorem deltaApplies_walk (A : Option Addr) (c : Nat) (xs : List UInt8) (hc : xs.length ≤ c) (hcc : c ≤ 9223372036854775807) (b t : Int) (S : Option Addr) (d : Nat) (ps : List POp) (w : World) (ha : Lies w A (bytesV xs)) (h : Scr w S d ps) (hbs : ∀ p ∈ ps, p.o.b.length ≤ 140737488351232) :
    Calls Try.prog 6 #[.slice A xs.length c, .agg #[.int .i64 b, .int .i64 t, .slice S ps.length d]] w (Ans w (.bool true)) := by
  unfold Ans
  obtain ⟨w1, hw1⟩ : ∃ w1, w.alloc (.cells #[.int .i64 b, .int .i64 t, .slice S ps.length d] 24) = w1 := ⟨_, rfl⟩
  have HS : Hid (SAt w1 w.heap.size 24 b t (.slice S ps.length d)) := Lib.hid (by subst hw1; exact SAt.new w 24 b t _)
  have HF1 : Hid (Fr (fun _ => False) w w1) := Lib.hid (by subst hw1; exact (Fr.refl _ _).alloc _)
  have HSc := Lib.hid (h.fr HF1.out)
  have HA := Lib.hid (ha.fr HF1.out (fun _ _ e => e))
  obtain ⟨c0, c1, c2⟩ := HS.out.cells
  have hcap : ps.length ≤ 9223372036854775807 := by have := h.le; have := h.cap; omega
  obtain ⟨L, hL⟩ : ∃ L, ps.length = L := ⟨_, rfl⟩
  obtain ⟨X, hX⟩ : ∃ X, xs.length = X := ⟨_, rfl⟩
  by_cases h4 : (400 : Int) < L ∨ (5000 : Int) < X
  · rw [hL] at c2 hw1 ⊢
    rw [hX] at hc ⊢
    have hXc : X ≤ 9223372036854775807 := by omega
    clear h hL hX ha
    by_cases h5 : (400 : Int) < L
    · go_enter Try.func6, Try.ntmps6
      go_wp2_with (go_at_call 9; refine (works9_any _).mono ?_; rintro e w2 ⟨rfl, b2⟩; have HB2 := Lib.hid b2; clear b2)
      go_ret
      exact ⟨rfl, (HF1.out.then_below HB2.out).below (fun _ _ e => e)⟩
    · have h6 : (5000 : Int) < X := by omega
      go_enter Try.func6, Try.ntmps6
      go_wp2_with (go_at_call 9; refine (works9_any _).mono ?_; rintro e w2 ⟨rfl, b2⟩; have HB2 := Lib.hid b2; clear b2)
      go_ret
      exact ⟨rfl, (HF1.out.then_below HB2.out).below (fun _ _ e => e)⟩
  · have h5 : ¬ (400 : Int) < L := by omega
    have h6 : ¬ (5000 : Int) < X := by omega
    have HPl := Lib.hid (fun w' (sc : Scr w' S d ps) => plain9_any b t S d ps (by omega) w' sc)
    have HOw := Lib.hid (fun A' c' w' (sc : Scr w' A' c' ps) => own9_any b t A' c' ps (by omega) hbs w' sc)
    have HAp := Lib.hid (fun A' c' qs w' (hq : opsO qs = opsO ps) (la : Lies w' A (bytesV xs)) (sc : Scr w' A' c' qs) => DApply_any A c xs hc hcc b t A' c' qs w' la sc)
    have HQp := Lib.hid (fun A' c' w' (la : Lies w' A (bytesV xs)) (sc : Scr w' A' c' ps) => QDApply_any A c xs hc hcc b t A' c' ps w' la sc)
    obtain ⟨R1, R2, hR⟩ : ∃ R1 R2, appR xs b t (opsO ps) = (R1, R2) := ⟨_, _, rfl⟩
    obtain ⟨N, hN⟩ : ∃ N, R1.length = N := ⟨_, rfl⟩
    have HN := Lib.hid hN
    have HQl := Lib.hid (fun (qs : List POp) (hq : opsO qs = opsO ps) => (by have := congrArg List.length hq; simp [opsO] at this; omega : qs.length = L))
    have HAp2 := Lib.hid (fun A' c' qs w' (hq : opsO qs = opsO ps) (la : Lies w' A (bytesV xs)) (sc : Scr w' A' c' qs) => (by
      have h1 := HAp.out A' c' qs w' hq la sc
      rw [hq, hR, HQl.out qs hq, hX] at h1
      simp only [hN] at h1
      exact h1 : Calls Try.prog 21 #[.slice A X c, .agg #[.int .i64 b, .int .i64 t, .slice A' L c']] w' fun e w'' => ∃ v, e = .returned (.tuple #[v, .int .i64 R2]) ∧ w''.ownsRow w'.heap.size 5 1 v N (bytesV R1) ∧ Below w'.heap.size w' w''))
    have HQp2 := Lib.hid (fun A' c' w' (la : Lies w' A (bytesV xs)) (sc : Scr w' A' c' ps) => (by
      have h1 := HQp.out A' c' w' la sc
      rw [hR, hL, hX] at h1
      simp only [hN] at h1
      exact h1 : Calls Try.prog 23 #[.slice A X c, .agg #[.int .i64 b, .int .i64 t, .slice A' L c']] w' fun e w'' => ∃ v, e = .returned (.tuple #[v, .int .i64 R2]) ∧ w''.ownsRow w'.heap.size 5 1 v N (bytesV R1) ∧ Below w'.heap.size w' w''))
    have HSa := Lib.hid (fun A' c' qs w' D' d' (hq : opsO qs = opsO ps) (sc : Scr w' A' c' qs) (sd : Scr w' D' d' ps) => (by
      have h1 := same9_any b t A' D' c' d' qs ps hq w' sc sd
      rwa [HQl.out qs hq, hL] at h1 : Calls Try.prog 18 #[.agg #[.int .i64 b, .int .i64 t, .slice A' L c'], .agg #[.int .i64 b, .int .i64 t, .slice D' L d']] w' (Ans w' (.bool true))))
    have HSs := Lib.hid (fun w' (f : Fr (fun _ => False) w1 w') => (HS.out.fr f).cells)
    unfold ScrPost at HPl
    rw [hL] at c2 hw1 HPl HOw HSs ⊢
    rw [hX] at hc ⊢
    clear h hR hN hL hX ha HAp HQp
    go_enter Try.func6, Try.ntmps6
    go_upto_region 6 with (first
      | (go_at_call 23; refine (HQp2.out A6 c6 w6 (HA.out.fr HF6.out (fun _ _ e => e)) HS6.out).mono ?_; rintro e w7 ⟨vy, rfl, oy, by7⟩; have HY := Lib.hid oy; have HB7 := Lib.hid by7; obtain ⟨Ay, cy, hvy, -, -⟩ := own_slice oy; subst hvy; clear oy by7)
      | (go_at_call 21; refine (HAp2.out A4 c4 qs w4 HQ4.out (HA.out.fr HF4.out (fun _ _ e => e)) HS4.out).mono ?_; rintro e w5 ⟨vx, rfl, ox, bx⟩; have HXr := Lib.hid ox; have HB5 := Lib.hid bx; have HF5 := Lib.hid (HF4.out.then_below bx); obtain ⟨Ax, cx, hvx, -, -⟩ := own_slice ox; subst hvx; obtain ⟨y0, y1, y2⟩ := HSs.out w5 HF5.out; have M5 := True.intro; clear ox bx)
      | (go_at_call 22; refine (HOw.out A2 c2' w2 HS2.out).mono ?_; rintro e w3 ⟨A4, c4, qs, rfl, s3, q3, b3⟩
         obtain ⟨w4, hw4⟩ : ∃ w4, w3.alloc (.cells #[.int .i64 b, .int .i64 t, .slice A4 L c4] 24) = w4 := ⟨_, rfl⟩
         have f4 : Fr (fun _ => False) w3 w4 := by rw [← hw4]; exact (Fr.refl _ w3).alloc _
         have HT4 := Lib.hid (show SAt w4 w3.heap.size 24 b t (.slice A4 L c4) from by rw [← hw4]; exact SAt.new w3 24 b t _)
         have HS4 := Lib.hid (s3.fr f4)
         have HQ4 := Lib.hid q3
         have HF4 := Lib.hid ((HF2.out.then_below b3).trans f4 (fun _ _ e => e))
         obtain ⟨t0, t1, t2⟩ := HT4.out.cells
         clear s3 q3 b3 f4)
      | (go_at_call 12; have _ := M5; refine (HPl.out w5 (HSc.out.fr HF5.out)).mono ?_; rintro e w6 ⟨A6, c6, rfl, s6, b6⟩; have HS6 := Lib.hid s6; have HB6 := Lib.hid b6; have HF6 := Lib.hid (HF5.out.then_below b6); clear s6 b6)
      | (go_at_call 12; refine (HPl.out w1 HSc.out).mono ?_; rintro e w2 ⟨A2, c2', rfl, s2, b2⟩; have HS2 := Lib.hid s2; have HF2 := Lib.hid (Fr.of_below (S := fun _ => False) b2); clear s2 b2))
    have HF7 := Lib.hid (HF6.out.then_below HB7.out)
    have HF47 := Lib.hid (show Fr (fun _ => False) w4 w7 from (((Fr.refl (fun _ => False) w4).then_below HB5.out).then_below HB6.out).then_below HB7.out)
    have HX7 := Lib.hid (own_fr (own_fr HXr.out (Fr.of_below (S := fun _ => False) HB6.out) (fun _ _ e => e)) (Fr.of_below (S := fun _ => False) HB7.out) (fun _ _ e => e))
    have q0 : ∀ q : Later w7, q.w'.cell? ⟨w.heap.size, 0, none⟩ = some (.int .i64 b) := fun q => (HSs.out _ (HF7.out.trans q.fr (fun _ _ e => e))).1
    have q1 : ∀ q : Later w7, q.w'.cell? ⟨w.heap.size, 1, none⟩ = some (.int .i64 t) := fun q => (HSs.out _ (HF7.out.trans q.fr (fun _ _ e => e))).2.1
    have q2 : ∀ q : Later w7, q.w'.cell? ⟨w.heap.size, 2, none⟩ = some (.slice S L d) := fun q => (HSs.out _ (HF7.out.trans q.fr (fun _ _ e => e))).2.2
    have q3 : ∀ q : Later w7, q.w'.cell? ⟨w3.heap.size, 0, none⟩ = some (.int .i64 b) := fun q => (HT4.out.fr (HF47.out.trans q.fr (fun _ _ e => e))).cells.1
    have q4 : ∀ q : Later w7, q.w'.cell? ⟨w3.heap.size, 1, none⟩ = some (.int .i64 t) := fun q => (HT4.out.fr (HF47.out.trans q.fr (fun _ _ e => e))).cells.2.1
    have q5 : ∀ q : Later w7, q.w'.cell? ⟨w3.heap.size, 2, none⟩ = some (.slice A4 L c4) := fun q => (HT4.out.fr (HF47.out.trans q.fr (fun _ _ e => e))).cells.2.2
    have HSq := Lib.hid (show ∃ q : Later w7, w7.drew = q.w' from ⟨⟨_, (Fr.refl _ w7).drew⟩, rfl⟩)
    have HFd := Lib.hid (show Fr (fun _ => False) w7 w7.drew from (Fr.refl _ w7).drew)
    clear hw4 t0 t1 t2 y0 y1 y2 c0 c1 c2
    refine wp_region_held (S := fun w' => ∃ q : Later w7, w' = q.w') (by kernel_rfl) ?_
    (
      refine wpAnyH_takeM (i := 0) (v := .slice Ax N cx) 39 rfl rfl (by kernel_rfl) (by kernel_rfl) (by kernel_rfl) (fun _ _ _ h => h) (.inl ⟨by kernel_rfl, ?_⟩) HSq.out ?_
      · rintro _ ⟨q, rfl⟩
        go_simp)
    (
      refine wpAnyH_takeM (i := 1) (v := .slice Ay N cy) 40 rfl rfl (by kernel_rfl) (by kernel_rfl) (by kernel_rfl) (fun _ _ _ h => h) (.inl ⟨by kernel_rfl, ?_⟩) HSq.out ?_
      · rintro _ ⟨q, rfl⟩
        go_simp)
    change wpAnyH _ _ _ _ _ _ _ _ (World.drew w7)
    obtain ⟨wd, hwd⟩ : ∃ wd, w7.drew = wd := ⟨_, rfl⟩
    rw [hwd]
    rw [hwd] at HFd
    clear hwd
    (
      try simp only [List.setIfInBounds_toArray, List.set_cons_succ, List.set_cons_zero]
      refine wpAnyH_all (rs := [2]) (by kernel_rfl) (by simp) ?_
      intro i hi
      simp only [List.mem_cons, List.not_mem_nil, or_false] at hi
      subst hi
      refine wpOp_step rfl (fun K hK => ?_)
      go_simp)
    go_wp2_with (go_at_call 13; refine (Same_n Ax Ay cx cy N N R1 R1 wd HN.out HN.out ((Lies.of_own HX7.out).fr HFd.out (fun _ _ e => e)) ((Lies.of_own HY.out).fr HFd.out (fun _ _ e => e))).mono ?_; rintro e wx ⟨rfl, rfl⟩)
    refine ⟨⟨⟨_, HFd.out⟩, rfl⟩, ?_⟩
    replace HSq := Lib.hid (show ∃ q : Later w7, wd = q.w' from ⟨⟨_, HFd.out⟩, rfl⟩)
    (
      refine wpAnyH_takeM (i := 3) (v := .bool false) 42 rfl rfl (by kernel_rfl) (by kernel_rfl) (by kernel_rfl) (fun _ _ _ h => h) (.inl ⟨by kernel_rfl, ?_⟩) HSq.out ?_
      · rintro _ ⟨q, rfl⟩
        go_simp)
    (
      refine wpAnyH_takeM (i := 4) (v := .bool false) 43 rfl rfl (by kernel_rfl) (by kernel_rfl) (by kernel_rfl) (fun _ _ _ h => h) (.inl ⟨by kernel_rfl, ?_⟩) HSq.out ?_
      · rintro _ ⟨q, rfl⟩
        go_simp)
    (
      refine wpAnyH_takeM (i := 5) (v := .int .i64 R2) 44 rfl rfl (by kernel_rfl) (by kernel_rfl) (by kernel_rfl) (fun _ _ _ h => h) (.inl ⟨by kernel_rfl, ?_⟩) HSq.out ?_
      · rintro _ ⟨q, rfl⟩
        go_simp)
    (
      refine wpAnyH_takeM (i := 6) (v := .int .i64 R2) 45 rfl rfl (by kernel_rfl) (by kernel_rfl) (by kernel_rfl) (fun _ _ _ h => h) (.inl ⟨by kernel_rfl, ?_⟩) HSq.out ?_
      · rintro _ ⟨q, rfl⟩
        go_simp)
    (
      refine wpAnyH_takeM (i := 7) (v := .bool false) 46 rfl rfl (by kernel_rfl) (by kernel_rfl) (by kernel_rfl) (fun _ _ _ h => h) (.inl ⟨by kernel_rfl, ?_⟩) HSq.out ?_
      · rintro _ ⟨q, rfl⟩
        go_simp)
    (
      refine wpAnyH_takeM (i := 8) (v := .bool false) 47 rfl rfl (by kernel_rfl) (by kernel_rfl) (by kernel_rfl) (fun _ _ _ h => h) (.inl ⟨by kernel_rfl, ?_⟩) HSq.out ?_
      · rintro _ ⟨q, rfl⟩
        go_simp)
    (
      refine wpAnyH_takeM (i := 9) (v := .bool false) 48 rfl rfl (by kernel_rfl) (by kernel_rfl) (by kernel_rfl) (fun _ _ _ h => h) (.inl ⟨by kernel_rfl, ?_⟩) HSq.out ?_
      · rintro _ ⟨q, rfl⟩
        go_simp)
    (
      refine wpAnyH_takeM (i := 10) (v := .agg #[.int .i64 b, .int .i64 t, .slice A4 L c4]) 49 rfl rfl (by kernel_rfl) (by kernel_rfl) (by kernel_rfl) (fun _ _ _ h => h) (.inl ⟨by kernel_rfl, ?_⟩) HSq.out ?_
      · rintro _ ⟨q, rfl⟩
        go_simp)
    (
      refine wpAnyH_takeM (i := 11) (v := .agg #[.int .i64 b, .int .i64 t, .slice S L d]) 50 rfl rfl (by kernel_rfl) (by kernel_rfl) (by kernel_rfl) (fun _ _ _ h => h) (.inl ⟨by kernel_rfl, ?_⟩) HSq.out ?_
      · rintro _ ⟨q, rfl⟩
        go_simp)
    (
      try simp only [List.setIfInBounds_toArray, List.set_cons_succ, List.set_cons_zero]
      refine wpAnyH_all (rs := [12]) (by kernel_rfl) (by simp) ?_
      intro i hi
      simp only [List.mem_cons, List.not_mem_nil, or_false] at hi
      subst hi
      refine wpOp_step rfl (fun K hK => ?_)
      go_simp)
    go_wp2_with (go_at_call 12; refine (HPl.out wd (HSc.out.fr (HF7.out.trans HFd.out (fun _ _ e => e)))).mono ?_; rintro e w8 ⟨A8, c8, rfl, s8, b8⟩; have HS8 := Lib.hid s8; have HF8 := Lib.hid (HFd.out.then_below b8); clear s8 b8)
    refine ⟨⟨⟨_, HF8.out⟩, rfl⟩, ?_⟩
    (
      try simp only [List.setIfInBounds_toArray, List.set_cons_succ, List.set_cons_zero]
      refine wpAnyH_all (rs := [13]) (by kernel_rfl) (by simp) ?_
      intro i hi
      simp only [List.mem_cons, List.not_mem_nil, or_false] at hi
      subst hi
      refine wpOp_step rfl (fun K hK => ?_)
      go_simp)
    go_wp2_with (go_at_call 18; refine (HSa.out A4 c4 qs w8 A8 c8 HQ4.out (HS4.out.fr (HF47.out.trans HF8.out (fun _ _ e => e))) HS8.out).mono ?_; rintro e w9 ⟨rfl, b9⟩; have HF9 := Lib.hid (HF8.out.then_below b9); clear b9)
    refine ⟨⟨⟨_, HF9.out⟩, rfl⟩, ?_⟩
    replace HSq := Lib.hid (show ∃ q : Later w7, w9 = q.w' from ⟨⟨_, HF9.out⟩, rfl⟩)
    (
      refine wpAnyH_takeM (i := 14) (v := .bool false) 53 rfl rfl (by kernel_rfl) (by kernel_rfl) (by kernel_rfl) (fun _ _ _ h => h) (.inl ⟨by kernel_rfl, ?_⟩) HSq.out ?_
      · rintro _ ⟨q, rfl⟩
        go_simp)
    (
      refine wpAnyH_takeM (i := 15) (v := .bool false) 54 rfl rfl (by kernel_rfl) (by kernel_rfl) (by kernel_rfl) (fun _ _ _ h => h) (.inl ⟨by kernel_rfl, ?_⟩) HSq.out ?_
      · rintro _ ⟨q, rfl⟩
        go_simp)
    refine wpAnyH_done (by kernel_rfl) ?_ _
    try simp only [List.setIfInBounds_toArray, List.set_cons_succ, List.set_cons_zero]
    clear HSq q0 q1 q2 q3 q4 q5
    have HX9 := Lib.hid (own_fr HX7.out HF9.out (fun _ _ e => e))
    have HY9 := Lib.hid (own_fr HY.out HF9.out (fun _ _ e => e))
    have HF19 := Lib.hid (HF7.out.trans HF9.out (fun _ _ e => e))
    have HF49 := Lib.hid (HF47.out.trans HF9.out (fun _ _ e => e))
    have HNm := Lib.hid (show N ≤ 9223372036854775807 from by
      rcases own_shape HX9.out with ⟨_, h0, _⟩ | ⟨g, cap, hv, h1, h2, _⟩
      · omega
      · unfold maxLen at h2; omega)
    have hNm := HNm.out
    have HBx := Lib.hid (show ∀ j, Value.ownBlock (.slice Ax N cx) = some j → w4.heap.size ≤ j ∧ j < w5.heap.size from fun j hj => World.ownsRow.lt HXr.out j hj)
    have HBy := Lib.hid (show ∀ j, Value.ownBlock (.slice Ay N cy) = some j → w6.heap.size ≤ j from fun j hj => (World.ownsRow.lt HY.out j hj).1)
    have HBz := Lib.hid (show w5.heap.size ≤ w6.heap.size from HB6.out.size)
    go_wp2_with fail
    go_loopw [10] (fun i wr => ∃ (k : Nat) (cs : List Value), k ≤ N ∧ i = .int .i64 k ∧ Hid (wr.ownsRow w4.heap.size 5 1 (.slice Ax N cx) N cs) ∧ Hid (∀ j, k ≤ j → cs[j]? = (bytesV R1)[j]?) ∧ Hid (Fr (fun j => Value.ownBlock (.slice Ax N cx) = some j) w9 wr)) (fun i _ => N - (intOf i).toNat)
    case atStart => exact ⟨0, bytesV R1, by omega, rfl, HX9, Lib.hid (fun _ _ => rfl), Lib.hid (Fr.refl _ _)⟩
    case round =>
      obtain ⟨k, cs, hk, rfl, HO, HCs, HFr⟩ := hrel
      have hk1 : (0 : Int) ≤ k := by omega
      by_cases hlt : k < N
      · have hk2 : (k : Int) < N := by omega
        obtain ⟨g, rfl⟩ := own_g0 HO.out (by omega)
        have hkc : k < cs.length := by have := HO.out.1; omega
        obtain ⟨u, hu⟩ : ∃ u : UInt8, R1[k]? = some u := ⟨R1[k]'(by rw [HN.out]; exact hlt), List.getElem?_eq_getElem (by rw [HN.out]; exact hlt)⟩
        have hcu : wr.cell? ⟨g, k, none⟩ = some (.int .u8 u.toNat) := by
          rw [World.ownsRow.cellAt HO.out k (by omega), HCs.out k (Nat.le_refl _), bytesV, List.getElem?_map, hu]
          rfl
        have hfz : wr.frozen? ⟨g, k, none⟩ = false := World.ownsRow.frozenAt HO.out k
        clear hu
        go_wp2_with fail
        go_roundw
        case rel =>
          refine ⟨k + 1, cs.set k _, by omega, by go_num, Lib.hid (World.ownsRow.stored HO.out k _).1, Lib.hid (fun j hj => ?_), Lib.hid ?_⟩
          · rw [List.getElem?_set_ne (by omega)]; exact HCs.out j (by omega)
          · exact HFr.out.setCell (p := ⟨g, k, none⟩) (fun _ => rfl) _
        case measure => simp [intOf]; omega
      · obtain rfl : N = k := by omega
        have HG1 := Lib.hid (show Fr (fun _ => False) w1 wr from HF19.out.trans HFr.out (fun i hi e => by have h1 := (HBx.out i e).1; have h2 := HF4.out.size; omega))
        have HG4 := Lib.hid (show Fr (fun _ => False) w4 wr from HF49.out.trans HFr.out (fun i hi e => by have h1 := (HBx.out i e).1; omega))
        have HYr := Lib.hid (own_fr HY9.out HFr.out (fun k hk e => by have h1 := (HBx.out k e).2; have h2 := HBy.out k hk; have h3 := HBz.out; omega))
        obtain ⟨z0, z1, z2⟩ := HSs.out wr HG1.out
        clear HO HCs HX9 HX7 HXr
        go_upto_region 13 with (first
          | (go_at_call 12; refine (HPl.out wr (HSc.out.fr HG1.out)).mono ?_; rintro e w10 ⟨A10, c10, rfl, s10, b10⟩; have HS10 := Lib.hid s10; have HF10 := Lib.hid (HG1.out.then_below b10); have HH10 := Lib.hid (HG4.out.then_below b10); have HY10 := Lib.hid (own_fr HYr.out (Fr.of_below (S := fun _ => False) b10) (fun _ _ e => e)); clear s10 b10)
          | (go_at_call 23; refine (HQp2.out A10 c10 w10 (HA.out.fr HF10.out (fun _ _ e => e)) HS10.out).mono ?_; rintro e w11 ⟨vz, rfl, oz, bz⟩; have HZ := Lib.hid oz; have HF11 := Lib.hid (HF10.out.then_below bz); have HH11 := Lib.hid (HH10.out.then_below bz); have HY11 := Lib.hid (own_fr HY10.out (Fr.of_below (S := fun _ => False) bz) (fun _ _ e => e)); obtain ⟨Az, cz, hvz, -, -⟩ := own_slice oz; subst hvz; clear oz bz))
        have e0 : ∀ q : Later w11, q.w'.cell? ⟨w.heap.size, 0, none⟩ = some (.int .i64 b) := fun q => (HSs.out _ (HF11.out.trans q.fr (fun _ _ e => e))).1
        have e1 : ∀ q : Later w11, q.w'.cell? ⟨w.heap.size, 1, none⟩ = some (.int .i64 t) := fun q => (HSs.out _ (HF11.out.trans q.fr (fun _ _ e => e))).2.1
        have e2 : ∀ q : Later w11, q.w'.cell? ⟨w.heap.size, 2, none⟩ = some (.slice S L d) := fun q => (HSs.out _ (HF11.out.trans q.fr (fun _ _ e => e))).2.2
        have e3 : ∀ q : Later w11, q.w'.cell? ⟨w3.heap.size, 0, none⟩ = some (.int .i64 b) := fun q => (HT4.out.fr (HH11.out.trans q.fr (fun _ _ e => e))).cells.1
        have e4 : ∀ q : Later w11, q.w'.cell? ⟨w3.heap.size, 1, none⟩ = some (.int .i64 t) := fun q => (HT4.out.fr (HH11.out.trans q.fr (fun _ _ e => e))).cells.2.1
        have e5 : ∀ q : Later w11, q.w'.cell? ⟨w3.heap.size, 2, none⟩ = some (.slice A4 L c4) := fun q => (HT4.out.fr (HH11.out.trans q.fr (fun _ _ e => e))).cells.2.2
        have HSq := Lib.hid (show ∃ q : Later w11, w11.drew = q.w' from ⟨⟨_, (Fr.refl _ w11).drew⟩, rfl⟩)
        have HFe := Lib.hid (show Fr (fun _ => False) w11 w11.drew from (Fr.refl _ w11).drew)
        clear z0 z1 z2
        refine wp_region_held (S := fun w' => ∃ q : Later w11, w' = q.w') (by kernel_rfl) ?_
        (
          refine wpAnyH_takeM (i := 0) (v := .slice Az N cz) 74 rfl rfl (by kernel_rfl) (by kernel_rfl) (by kernel_rfl) (fun _ _ _ h => h) (.inl ⟨by kernel_rfl, ?_⟩) HSq.out ?_
          · rintro _ ⟨q, rfl⟩
            go_simp)
        (
          refine wpAnyH_takeM (i := 1) (v := .slice Ay N cy) 75 rfl rfl (by kernel_rfl) (by kernel_rfl) (by kernel_rfl) (fun _ _ _ h => h) (.inl ⟨by kernel_rfl, ?_⟩) HSq.out ?_
          · rintro _ ⟨q, rfl⟩
            go_simp)
        change wpAnyH _ _ _ _ _ _ _ _ (World.drew w11)
        obtain ⟨we, hwe⟩ : ∃ we, w11.drew = we := ⟨_, rfl⟩
        rw [hwe]
        rw [hwe] at HFe
        clear hwe
        (
          try simp only [List.setIfInBounds_toArray, List.set_cons_succ, List.set_cons_zero]
          refine wpAnyH_all (rs := [2]) (by kernel_rfl) (by simp) ?_
          intro i hi
          simp only [List.mem_cons, List.not_mem_nil, or_false] at hi
          subst hi
          refine wpOp_step rfl (fun K hK => ?_)
          go_simp)
        go_wp2_with (go_at_call 13; refine (Same_n Az Ay cz cy N N R1 R1 we HN.out HN.out ((Lies.of_own HZ.out).fr HFe.out (fun _ _ e => e)) ((Lies.of_own HY11.out).fr HFe.out (fun _ _ e => e))).mono ?_; rintro e wx ⟨rfl, rfl⟩)
        refine ⟨⟨⟨_, HFe.out⟩, rfl⟩, ?_⟩
        replace HSq := Lib.hid (show ∃ q : Later w11, we = q.w' from ⟨⟨_, HFe.out⟩, rfl⟩)
        (
          refine wpAnyH_takeM (i := 3) (v := .bool true) 77 rfl rfl (by kernel_rfl) (by kernel_rfl) (by kernel_rfl) (fun _ _ _ h => h) (.inl ⟨by kernel_rfl, ?_⟩) HSq.out ?_
          · rintro _ ⟨q, rfl⟩
            go_simp)
        (
          refine wpAnyH_takeM (i := 4) (v := .agg #[.int .i64 b, .int .i64 t, .slice A4 L c4]) 78 rfl rfl (by kernel_rfl) (by kernel_rfl) (by kernel_rfl) (fun _ _ _ h => h) (.inl ⟨by kernel_rfl, ?_⟩) HSq.out ?_
          · rintro _ ⟨q, rfl⟩
            go_simp)
        (
          refine wpAnyH_takeM (i := 5) (v := .agg #[.int .i64 b, .int .i64 t, .slice S L d]) 79 rfl rfl (by kernel_rfl) (by kernel_rfl) (by kernel_rfl) (fun _ _ _ h => h) (.inl ⟨by kernel_rfl, ?_⟩) HSq.out ?_
          · rintro _ ⟨q, rfl⟩
            go_simp)
        (
          try simp only [List.setIfInBounds_toArray, List.set_cons_succ, List.set_cons_zero]
          refine wpAnyH_all (rs := [6]) (by kernel_rfl) (by simp) ?_
          intro i hi
          simp only [List.mem_cons, List.not_mem_nil, or_false] at hi
          subst hi
          refine wpOp_step rfl (fun K hK => ?_)
          go_simp)
        go_wp2_with (go_at_call 12; refine (HPl.out we (HSc.out.fr (HF11.out.trans HFe.out (fun _ _ e => e)))).mono ?_; rintro e wf ⟨Af, cf, rfl, sf, bf⟩; have HSf := Lib.hid sf; have HFf := Lib.hid (HFe.out.then_below bf); clear sf bf)
        refine ⟨⟨⟨_, HFf.out⟩, rfl⟩, ?_⟩
        (
          try simp only [List.setIfInBounds_toArray, List.set_cons_succ, List.set_cons_zero]
          refine wpAnyH_all (rs := [7]) (by kernel_rfl) (by simp) ?_
          intro i hi
          simp only [List.mem_cons, List.not_mem_nil, or_false] at hi
          subst hi
          refine wpOp_step rfl (fun K hK => ?_)
          go_simp)
        go_wp2_with (go_at_call 18; refine (HSa.out A4 c4 qs wf Af cf HQ4.out (HS4.out.fr (HH11.out.trans HFf.out (fun _ _ e => e))) HSf.out).mono ?_; rintro e wg ⟨rfl, bg⟩; have HFg := Lib.hid (HFf.out.then_below bg); clear bg)
        refine ⟨⟨⟨_, HFg.out⟩, rfl⟩, ?_⟩
        replace HSq := Lib.hid (show ∃ q : Later w11, wg = q.w' from ⟨⟨_, HFg.out⟩, rfl⟩)
        (
          refine wpAnyH_takeM (i := 8) (v := .bool true) 82 rfl rfl (by kernel_rfl) (by kernel_rfl) (by kernel_rfl) (fun _ _ _ h => h) (.inl ⟨by kernel_rfl, ?_⟩) HSq.out ?_
          · rintro _ ⟨q, rfl⟩
            go_simp)
        (
          refine wpAnyH_takeM (i := 9) (v := .bool true) 83 rfl rfl (by kernel_rfl) (by kernel_rfl) (by kernel_rfl) (fun _ _ _ h => h) (.inl ⟨by kernel_rfl, ?_⟩) HSq.out ?_
          · rintro _ ⟨q, rfl⟩
            go_simp)
        (
          try simp only [List.setIfInBounds_toArray, List.set_cons_succ, List.set_cons_zero]
          refine wpAnyH_all (rs := [10]) (by kernel_rfl) (by simp) ?_
          intro i hi
          simp only [List.mem_cons, List.not_mem_nil, or_false] at hi
          subst hi
          refine wpOp_step rfl (fun K hK => ?_)
          go_simp)
        go_wp2_with (go_at_call 9; refine (works9_any wg).mono ?_; rintro e wh ⟨rfl, bh⟩; have HFh := Lib.hid (HFg.out.then_below bh); clear bh)
        refine ⟨⟨⟨_, HFh.out⟩, rfl⟩, ?_⟩
        replace HSq := Lib.hid (show ∃ q : Later w11, wh = q.w' from ⟨⟨_, HFh.out⟩, rfl⟩)
        (
          refine wpAnyH_takeM (i := 11) (v := .bool true) 85 rfl rfl (by kernel_rfl) (by kernel_rfl) (by kernel_rfl) (fun _ _ _ h => h) (.inl ⟨by kernel_rfl, ?_⟩) HSq.out ?_
          · rintro _ ⟨q, rfl⟩
            go_simp)
        (
          try simp only [List.setIfInBounds_toArray, List.set_cons_succ, List.set_cons_zero]
          refine wpAnyH_all (rs := [12]) (by kernel_rfl) (by simp) ?_
          intro i hi
          simp only [List.mem_cons, List.not_mem_nil, or_false] at hi
          subst hi
          refine wpOp_step rfl (fun K hK => ?_)
          go_simp)
        refine hK _ _ ⟨⟨⟨_, HFh.out⟩, rfl⟩, ?_⟩
        clear hK K
        refine wpAnyH_done (by kernel_rfl) ?_ _
        go_wp2_with fail
        go_ret
        exact ⟨rfl, ((HF1.out.trans HF11.out (fun _ _ e => e)).trans HFh.out (fun _ _ e => e)).below (fun _ _ e => e)⟩
end Go.Proofs.Ythjfkeploofblaa

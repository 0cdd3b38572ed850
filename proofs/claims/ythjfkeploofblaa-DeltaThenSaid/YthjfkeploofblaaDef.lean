/- What is proved: two like scripts are held to be one. Conditions: the ops' cells are there. -/
import Derived.Test.YthjfkeploofblaaDee
import Derived.OrdersHeld
namespace Go.Proofs.Ythjfkeploofblaa
open Go.RowKit
set_option linter.unusedVariables false

theorem op_all (cp : Bool) (f n : Int) (v : Value) (hv : v.oneCell' = true := by rfl) : (#[.bool cp, .int .i64 f, .int .i64 n, v] : Array Value).all (·.oneCell') = true := by
  simp [hv]
  exact ⟨rfl, rfl, rfl⟩
/-- As wpAnyH_take; the destination is set at once. -/
theorem wpAnyH_takeM {P : Program} {ops : Array Oper} {Q : Exit → Act → World → Prop} {md : Region.Mode} {S : World → Prop} {i : Nat} {oi : Oper} {v : Value} {fuel : Nat} {listed : Array Bool} {t : Array Value} {df : List Deferred} {w : World} (d : Tmp) (hi : ops[i]? = some oi) (hd : oi.dst = some d)
    (hs : Region.noSelect ops = true) (hf : Region.free md ops listed i = true) (hr : (Region.ready md ops listed).contains i = true)
    (hQ : ∀ c a w, Q (.panic c) (a.put oi.dst v) w → Q (.panic c) a w) (hy : YieldsIf P ops S oi v { tmps := t, defers := df }) (hS : S w)
    (h : wpAnyH P md ops Q S fuel (listed.setIfInBounds i true) { tmps := t.setIfInBounds d v, defers := df } w) : wpAnyH P md ops Q S (fuel + 1) listed { tmps := t, defers := df } w :=
  wpAnyH_take hi hs hf hr hQ hy hS (by rw [hd]; exact h)

set_option maxHeartbeats 6400000 in
set_option maxRecDepth 100000 in
theorem same9_any (b t : Int) (A D : Option Addr) (c d : Nat) (ps qs : List POp) (heq : opsO ps = opsO qs) (w : World) (h : Scr w A c ps) (g : Scr w D d qs) :
    Calls Try.prog 18 #[.agg #[.int .i64 b, .int .i64 t, .slice A ps.length c], .agg #[.int .i64 b, .int .i64 t, .slice D qs.length d]] w (Ans w (.bool true)) := by
  unfold Ans
  have hlen : qs.length = ps.length := by have := congrArg List.length heq; simpa [opsO] using this.symm
  rw [hlen]
  obtain ⟨L, hL⟩ : ∃ L, ps.length = L := ⟨_, rfl⟩
  have HL := Lib.hid hL
  have hLc : L ≤ 9223372036854775807 := by have := h.le; have := h.cap; omega
  rw [hL]
  obtain ⟨w1, hw1⟩ : ∃ w1, w.alloc (.cells #[.int .i64 b, .int .i64 t, .slice A L c] 24) = w1 := ⟨_, rfl⟩
  obtain ⟨w2, hw2⟩ : ∃ w2, w1.alloc (.cells #[.int .i64 b, .int .i64 t, .slice D L d] 34) = w2 := ⟨_, rfl⟩
  have F1 : Fr (fun _ => False) w w1 := by subst hw1; exact (Fr.refl _ _).alloc _
  have F2 : Fr (fun _ => False) w1 w2 := by subst hw2; exact (Fr.refl _ _).alloc _
  have HS1 := Lib.hid (show SAt w2 w.heap.size 24 b t (.slice A L c) from SAt.fr (by subst hw1; exact SAt.new w 24 b t _) F2)
  have HS2 := Lib.hid (show SAt w2 w1.heap.size 34 b t (.slice D L d) from by subst hw2; exact SAt.new w1 34 b t _)
  have HF02 := Lib.hid (F1.trans F2 (fun _ _ e => e))
  have HA := Lib.hid (h.fr HF02.out)
  have HD := Lib.hid (g.fr HF02.out)
  have HLq := Lib.hid (hlen.trans hL)
  have HEQ := Lib.hid heq
  obtain ⟨a0, a1, a2⟩ := HS1.out.cells
  obtain ⟨b0, b1, b2⟩ := HS2.out.cells
  clear F1 F2 h g hL hlen heq
  go_enter Try.func18, Try.ntmps18
  go_wp2_with fail
  go_loopw [5] (fun i wr => ∃ k : Nat, k ≤ L ∧ i = .int .i64 k ∧ Hid (Fr (fun _ => False) w2 wr)) (fun i _ => L - (intOf i).toNat)
  case atStart => exact ⟨0, by omega, rfl, Lib.hid (Fr.refl _ _)⟩
  case round =>
    obtain ⟨k, hk, rfl, HF⟩ := hrel
    have hk1 : (0 : Int) ≤ k := by omega
    obtain ⟨c0, c1, c2⟩ := (HS1.out.fr HF.out).cells
    obtain ⟨d0, d1, d2⟩ := (HS2.out.fr HF.out).cells
    by_cases hlt : k < L
    · have hk2 : (k : Int) < L := by omega
      obtain ⟨p, hp⟩ : ∃ p, ps[k]? = some p := ⟨ps[k]'(by rw [HL.out]; exact hlt), List.getElem?_eq_getElem (by rw [HL.out]; exact hlt)⟩
      obtain ⟨q, hq⟩ : ∃ q, qs[k]? = some q := ⟨qs[k]'(by rw [HLq.out]; exact hlt), List.getElem?_eq_getElem (by rw [HLq.out]; exact hlt)⟩
      have hpq : q.o = p.o := by
        have e1 : (opsO ps)[k]? = some p.o := by simp [opsO, hp]
        have e2 : (opsO qs)[k]? = some q.o := by simp [opsO, hq]
        rw [HEQ.out, e2] at e1
        exact Option.some.inj e1
      obtain ⟨ab, ao, rfl⟩ := HA.out.addr (k := k) (by rw [HL.out]; exact hlt)
      obtain ⟨db, do', rfl⟩ := HD.out.addr (k := k) (by rw [HLq.out]; exact hlt)
      obtain ⟨e0, e1, e2, e3⟩ := (HA.out.fr HF.out).cells hp
      obtain ⟨f0, f1, f2, f3⟩ := (HD.out.fr HF.out).cells hq
      have HPl := Lib.hid ((HA.out.fr HF.out).at_ok hp).lies
      have HQl := Lib.hid ((HD.out.fr HF.out).at_ok hq).lies
      rw [hpq] at f0 f1 f2 f3 HQl
      obtain ⟨o, B, pc⟩ := p
      obtain ⟨o', B', pc'⟩ := q
      simp only at e0 e1 e2 e3 f0 f1 f2 f3 HPl HQl
      clear hp hq hpq
      have q0 : ∀ q : Later wr, q.w'.cell? ⟨w.heap.size, 2, none⟩ = some (.slice (some ⟨ab, ao, none⟩) L c) := fun q => ((HS1.out.fr HF.out).fr q.fr).cells.2.2
      have q1 : ∀ q : Later wr, q.w'.cell? ⟨w1.heap.size, 2, none⟩ = some (.slice (some ⟨db, do', none⟩) L d) := fun q => ((HS2.out.fr HF.out).fr q.fr).cells.2.2
      have q2 : ∀ q : Later wr, q.w'.cell? ⟨ab, ao + k * 4, none⟩ = some (.bool o.copy) := fun q => q.fr.cell e0 (fun e => e)
      have q3 : ∀ q : Later wr, q.w'.cell? ⟨ab, ao + k * 4 + 1, none⟩ = some (.int .i64 o.frm) := fun q => q.fr.cell e1 (fun e => e)
      have q4 : ∀ q : Later wr, q.w'.cell? ⟨ab, ao + k * 4 + 2, none⟩ = some (.int .i64 o.n) := fun q => q.fr.cell e2 (fun e => e)
      have q5 : ∀ q : Later wr, q.w'.cell? ⟨ab, ao + k * 4 + 3, none⟩ = some (.slice B o.b.length pc) := fun q => q.fr.cell e3 (fun e => e)
      have q6 : ∀ q : Later wr, q.w'.cell? ⟨db, do' + k * 4, none⟩ = some (.bool o.copy) := fun q => q.fr.cell f0 (fun e => e)
      have q7 : ∀ q : Later wr, q.w'.cell? ⟨db, do' + k * 4 + 1, none⟩ = some (.int .i64 o.frm) := fun q => q.fr.cell f1 (fun e => e)
      have q8 : ∀ q : Later wr, q.w'.cell? ⟨db, do' + k * 4 + 2, none⟩ = some (.int .i64 o.n) := fun q => q.fr.cell f2 (fun e => e)
      have q9 : ∀ q : Later wr, q.w'.cell? ⟨db, do' + k * 4 + 3, none⟩ = some (.slice B' o.b.length pc') := fun q => q.fr.cell f3 (fun e => e)
      have HSame := Lib.hid (fun w' (f : Fr (fun _ => False) wr w') => by
        have := Same_any B B' pc pc' o.b o.b w' (HPl.out.fr f (fun _ _ e => e)) (HQl.out.fr f (fun _ _ e => e))
        simpa using this)
      clear e0 e1 e2 e3 f0 f1 f2 f3
      go_wp2_with fail
      have HSq := Lib.hid (show ∃ q : Later wr, wr.drew = q.w' from ⟨⟨_, (Fr.refl _ wr).drew⟩, rfl⟩)
      refine wp_region_held (S := fun w' => ∃ q : Later wr, w' = q.w') (by kernel_rfl) ?_
      (
        refine wpAnyH_takeM (i := 0) (v := .pointer (some ⟨w.heap.size, 2, none⟩)) 36 rfl rfl (by kernel_rfl) (by kernel_rfl) (by kernel_rfl) (fun _ _ _ h => h) (.inl ⟨by rfl, ?_⟩) HSq.out ?_
        · rintro _ ⟨q, rfl⟩
          go_simp)
      (
        refine wpAnyH_takeM (i := 1) (v := .slice (some ⟨ab, ao, none⟩) L c) 37 rfl rfl (by kernel_rfl) (by kernel_rfl) (by kernel_rfl) (fun _ _ _ h => h) (.inl ⟨by rfl, ?_⟩) HSq.out ?_
        · rintro _ ⟨q, rfl⟩
          go_simp)
      (
        refine wpAnyH_takeM (i := 2) (v := .int .i64 k) 38 rfl rfl (by kernel_rfl) (by kernel_rfl) (by kernel_rfl) (fun _ _ _ h => h) (.inl ⟨by rfl, ?_⟩) HSq.out ?_
        · rintro _ ⟨q, rfl⟩
          go_simp)
      (
        refine wpAnyH_takeM (i := 3) (v := .pointer (some ⟨ab, ao + k * 4, none⟩)) 39 rfl rfl (by kernel_rfl) (by kernel_rfl) (by kernel_rfl) (fun _ _ _ h => h) (.inl ⟨by rfl, ?_⟩) HSq.out ?_
        · rintro _ ⟨q, rfl⟩
          go_simp)
      (
        refine wpAnyH_takeM (i := 4) (v := .agg #[.bool o.copy, .int .i64 o.frm, .int .i64 o.n, .slice B o.b.length pc]) 40 rfl rfl (by kernel_rfl) (by kernel_rfl) (by kernel_rfl) (fun _ _ _ h => h) (.inl ⟨by rfl, ?_⟩) HSq.out ?_
        · rintro _ ⟨q, rfl⟩
          go_simp)
      (
        refine wpAnyH_takeM (i := 5) (v := .pointer (some ⟨w1.heap.size, 2, none⟩)) 41 rfl rfl (by kernel_rfl) (by kernel_rfl) (by kernel_rfl) (fun _ _ _ h => h) (.inl ⟨by rfl, ?_⟩) HSq.out ?_
        · rintro _ ⟨q, rfl⟩
          go_simp)
      (
        refine wpAnyH_takeM (i := 6) (v := .slice (some ⟨db, do', none⟩) L d) 42 rfl rfl (by kernel_rfl) (by kernel_rfl) (by kernel_rfl) (fun _ _ _ h => h) (.inl ⟨by rfl, ?_⟩) HSq.out ?_
        · rintro _ ⟨q, rfl⟩
          go_simp)
      (
        refine wpAnyH_takeM (i := 7) (v := .int .i64 k) 43 rfl rfl (by kernel_rfl) (by kernel_rfl) (by kernel_rfl) (fun _ _ _ h => h) (.inl ⟨by rfl, ?_⟩) HSq.out ?_
        · rintro _ ⟨q, rfl⟩
          go_simp)
      (
        refine wpAnyH_takeM (i := 8) (v := .pointer (some ⟨db, do' + k * 4, none⟩)) 44 rfl rfl (by kernel_rfl) (by kernel_rfl) (by kernel_rfl) (fun _ _ _ h => h) (.inl ⟨by rfl, ?_⟩) HSq.out ?_
        · rintro _ ⟨q, rfl⟩
          go_simp)
      (
        refine wpAnyH_takeM (i := 9) (v := .agg #[.bool o.copy, .int .i64 o.frm, .int .i64 o.n, .slice B' o.b.length pc']) 45 rfl rfl (by kernel_rfl) (by kernel_rfl) (by kernel_rfl) (fun _ _ _ h => h) (.inl ⟨by rfl, ?_⟩) HSq.out ?_
        · rintro _ ⟨q, rfl⟩
          go_simp)
      refine wpAnyH_all (rs := [10, 11]) (by kernel_rfl) (by simp) ?_
      simp only [List.setIfInBounds_toArray, List.set_cons_succ, List.set_cons_zero]
      intro i hi
      simp only [List.mem_cons, List.not_mem_nil, or_false] at hi
      rcases hi with rfl | rfl
      · (
        refine wpOp_step rfl (fun K hK => ?_)
        go_simp
        refine hK _ _ ⟨⟨⟨_, ((Fr.refl _ wr).alloc _).drew⟩, rfl⟩, ?_⟩
        clear hK K
        refine wpAnyH_all (rs := [11]) (by kernel_rfl) (by simp) ?_
        intro i hi
        simp only [List.mem_cons, List.not_mem_nil, or_false] at hi
        subst hi
        refine wpOp_step rfl (fun K hK => ?_)
        go_simp
        refine hK _ _ ⟨⟨⟨_, (((Fr.refl _ wr).alloc _).alloc _).drew⟩, rfl⟩, ?_⟩
        clear hK K
        have hfb := (((Fr.refl (fun _ => False) wr).alloc (.cells zeroO 57)).alloc (.cells zeroO 66)).drew
        generalize hwb : World.drew (World.alloc _ _) = wb
        replace hfb : Fr (fun _ => False) wr wb := by rw [← hwb]; exact hfb)
        have hP : Whole wb wr.heap.size 57 zeroO := by
          subst hwb
          exact (Whole.new wr 57 zeroO).fr (((Fr.refl (fun _ => False) _).alloc _).drew) (fun e => e)
        have hI : Whole wb (wr.heap.size + 1) 66 zeroO := by
          subst hwb
          have h := (Whole.new (wr.alloc (.cells zeroO 57)) 66 zeroO).fr ((Fr.refl (fun _ => False) _).drew) (fun e => e)
          have e : (wr.alloc (.cells zeroO 57)).heap.size = wr.heap.size + 1 := by simp
          rwa [e] at h
        obtain ⟨G5, hG5⟩ : ∃ G, G = wr.heap.size + 1 := ⟨_, rfl⟩
        obtain ⟨G4, hG4⟩ : ∃ G, G = wr.heap.size := ⟨_, rfl⟩
        rw [← hG5] at hI ⊢
        rw [← hG4] at hP ⊢
        have HG4 := Lib.hid hG4
        have HG5 := Lib.hid hG5
        clear hG4 hG5
        (
          refine wpAnyH_all (rs := [12]) (by kernel_rfl) (by simp) ?_
          intro i hi
          simp only [List.mem_cons, List.not_mem_nil, or_false] at hi
          subst hi
          refine wpOp_step rfl (fun K hK => ?_)
          rw [if_pos (by rfl)]
          refine wp_store_at 57 (.tmp 6) (.tmp 40) rfl G4 0 57 zeroO #[.bool o.copy, .int .i64 o.frm, .int .i64 o.n, .slice B o.b.length pc] rfl rfl hP (by simp [zeroO]) (by kernel_rfl) (op_all _ _ _ _) ?_
          intro wc hP2 hfc
          rw [laidAt_all _ _ (by rfl)] at hP2
          have hI2 := hI.fr hfc (fun e => by have := HG4.out; have := HG5.out; omega)
          have hfc2 : Fr (fun _ => False) wr wc := hfb.trans hfc (fun k hk e => by have := HG4.out; omega)
          clear hfc hP hI hfb
          go_simp
          refine hK _ _ ⟨⟨⟨_, hfc2⟩, rfl⟩, ?_⟩
          clear hK K
          refine wpAnyH_all (rs := [13]) (by kernel_rfl) (by simp) ?_
          intro i hi
          simp only [List.mem_cons, List.not_mem_nil, or_false] at hi
          subst hi
          refine wpOp_step rfl (fun K hK => ?_)
          rw [if_pos (by rfl)]
          refine wp_store_at 66 (.tmp 7) (.tmp 45) rfl G5 0 66 zeroO #[.bool o.copy, .int .i64 o.frm, .int .i64 o.n, .slice B' o.b.length pc'] rfl rfl hI2 (by simp [zeroO]) (by kernel_rfl) (op_all _ _ _ _) ?_
          intro wd hI3 hfd
          rw [laidAt_all _ _ (by rfl)] at hI3
          have hP3 := hP2.fr hfd (fun e => by have := HG4.out; have := HG5.out; omega)
          have hfd2 : Fr (fun _ => False) wr wd := hfc2.trans hfd (fun k hk e => by have := HG5.out; omega)
          clear hfd hP2 hI2 hfc2
          go_simp
          refine hK _ _ ⟨⟨⟨_, hfd2⟩, rfl⟩, ?_⟩
          clear hK K
          refine wpAnyH_done (by kernel_rfl) ?_ _
          have HP := Lib.hid (OpAt.mk hP3)
          have HI := Lib.hid (OpAt.mk hI3)
          have HFd := Lib.hid hfd2
          clear hP3 hI3 hfd2 HG4 HG5 hwb
          obtain ⟨x0, x1, x2, x3⟩ := HP.out.cells
          obtain ⟨y0, y1, y2, y3⟩ := HI.out.cells
          go_wp2_with (go_at_call 13; refine (HSame.out _ HFd.out).mono ?_; rintro e w9 ⟨rfl, rfl⟩)
          go_roundw
          case rel => exact ⟨k + 1, by omega, by go_num, Lib.hid (HF.out.trans HFd.out (fun _ _ e => e))⟩
          case measure => simp [intOf]; omega)
      · (
        refine wpOp_step rfl (fun K hK => ?_)
        go_simp
        refine hK _ _ ⟨⟨⟨_, ((Fr.refl _ wr).alloc _).drew⟩, rfl⟩, ?_⟩
        clear hK K
        refine wpAnyH_all (rs := [10]) (by kernel_rfl) (by simp) ?_
        intro i hi
        simp only [List.mem_cons, List.not_mem_nil, or_false] at hi
        subst hi
        refine wpOp_step rfl (fun K hK => ?_)
        go_simp
        refine hK _ _ ⟨⟨⟨_, (((Fr.refl _ wr).alloc _).alloc _).drew⟩, rfl⟩, ?_⟩
        clear hK K
        have hfb := (((Fr.refl (fun _ => False) wr).alloc (.cells zeroO 66)).alloc (.cells zeroO 57)).drew
        generalize hwb : World.drew (World.alloc _ _) = wb
        replace hfb : Fr (fun _ => False) wr wb := by rw [← hwb]; exact hfb)
        have hI : Whole wb wr.heap.size 66 zeroO := by
          subst hwb
          exact (Whole.new wr 66 zeroO).fr (((Fr.refl (fun _ => False) _).alloc _).drew) (fun e => e)
        have hP : Whole wb (wr.heap.size + 1) 57 zeroO := by
          subst hwb
          have h := (Whole.new (wr.alloc (.cells zeroO 66)) 57 zeroO).fr ((Fr.refl (fun _ => False) _).drew) (fun e => e)
          have e : (wr.alloc (.cells zeroO 66)).heap.size = wr.heap.size + 1 := by simp
          rwa [e] at h
        obtain ⟨G4, hG4⟩ : ∃ G, G = wr.heap.size + 1 := ⟨_, rfl⟩
        obtain ⟨G5, hG5⟩ : ∃ G, G = wr.heap.size := ⟨_, rfl⟩
        rw [← hG4] at hP ⊢
        rw [← hG5] at hI ⊢
        have HG4 := Lib.hid hG4
        have HG5 := Lib.hid hG5
        clear hG4 hG5
        (
          refine wpAnyH_all (rs := [12]) (by kernel_rfl) (by simp) ?_
          intro i hi
          simp only [List.mem_cons, List.not_mem_nil, or_false] at hi
          subst hi
          refine wpOp_step rfl (fun K hK => ?_)
          rw [if_pos (by rfl)]
          refine wp_store_at 57 (.tmp 6) (.tmp 40) rfl G4 0 57 zeroO #[.bool o.copy, .int .i64 o.frm, .int .i64 o.n, .slice B o.b.length pc] rfl rfl hP (by simp [zeroO]) (by kernel_rfl) (op_all _ _ _ _) ?_
          intro wc hP2 hfc
          rw [laidAt_all _ _ (by rfl)] at hP2
          have hI2 := hI.fr hfc (fun e => by have := HG4.out; have := HG5.out; omega)
          have hfc2 : Fr (fun _ => False) wr wc := hfb.trans hfc (fun k hk e => by have := HG4.out; omega)
          clear hfc hP hI hfb
          go_simp
          refine hK _ _ ⟨⟨⟨_, hfc2⟩, rfl⟩, ?_⟩
          clear hK K
          refine wpAnyH_all (rs := [13]) (by kernel_rfl) (by simp) ?_
          intro i hi
          simp only [List.mem_cons, List.not_mem_nil, or_false] at hi
          subst hi
          refine wpOp_step rfl (fun K hK => ?_)
          rw [if_pos (by rfl)]
          refine wp_store_at 66 (.tmp 7) (.tmp 45) rfl G5 0 66 zeroO #[.bool o.copy, .int .i64 o.frm, .int .i64 o.n, .slice B' o.b.length pc'] rfl rfl hI2 (by simp [zeroO]) (by kernel_rfl) (op_all _ _ _ _) ?_
          intro wd hI3 hfd
          rw [laidAt_all _ _ (by rfl)] at hI3
          have hP3 := hP2.fr hfd (fun e => by have := HG4.out; have := HG5.out; omega)
          have hfd2 : Fr (fun _ => False) wr wd := hfc2.trans hfd (fun k hk e => by have := HG5.out; omega)
          clear hfd hP2 hI2 hfc2
          go_simp
          refine hK _ _ ⟨⟨⟨_, hfd2⟩, rfl⟩, ?_⟩
          clear hK K
          refine wpAnyH_done (by kernel_rfl) ?_ _
          have HP := Lib.hid (OpAt.mk hP3)
          have HI := Lib.hid (OpAt.mk hI3)
          have HFd := Lib.hid hfd2
          clear hP3 hI3 hfd2 HG4 HG5 hwb
          obtain ⟨x0, x1, x2, x3⟩ := HP.out.cells
          obtain ⟨y0, y1, y2, y3⟩ := HI.out.cells
          go_wp2_with (go_at_call 13; refine (HSame.out _ HFd.out).mono ?_; rintro e w9 ⟨rfl, rfl⟩)
          go_roundw
          case rel => exact ⟨k + 1, by omega, by go_num, Lib.hid (HF.out.trans HFd.out (fun _ _ e => e))⟩
          case measure => simp [intOf]; omega)
    · obtain rfl : k = L := by omega
      go_wp2_with fail
      go_ret
      exact ⟨rfl, (HF02.out.trans HF.out (fun _ _ e => e)).below (fun _ _ e => e)⟩
end Go.Proofs.Ythjfkeploofblaa

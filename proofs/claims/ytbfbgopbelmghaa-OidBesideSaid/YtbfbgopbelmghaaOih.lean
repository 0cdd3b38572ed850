/- What is proved: which of two ids is above, by the program and by the document. Conditions: none. -/
import Derived.Test.YtbfbgopbelmghaaOig
import Derived.Lib.BytesEntry
namespace Go.Proofs.Ytbfbgopbelmghaa
open Go.RowKit
set_option linter.unusedVariables false

/-- An id's bytes are read. -/
theorem load_id (a g : Nat) (w : World) (h : Whole w g 23 (idC (dgt a))) (c : Nat) : (Extern.Bytes.bytesOf (.slice (some ⟨g, 0, none⟩) 32 c)).run Try.prog w = .ok ⟨(idB (dgt a) 0 32).toArray⟩ w := by
  have hl := Lib.run_loadBytesX (P := Try.prog) w ((List.range 32).map fun i => ((byt (dgt a) i : Nat) : Int)) ⟨g, 0, none⟩ .empty (fun j x hj => by
    rw [add_off, Nat.zero_add, h.cell]
    rw [List.getElem?_map] at hj
    rcases Nat.lt_or_ge j 32 with hj2 | hj2
    · rw [List.getElem?_range hj2] at hj
      simp at hj
      rw [idC_get _ j hj2, ← hj]; rfl
    · rw [List.getElem?_eq_none (by simp; omega)] at hj
      simp at hj)
  rw [List.length_map, List.length_range] at hl
  have e : (ByteArray.empty.data ++ (Lib.bytesOf ((List.range 32).map fun i => ((byt (dgt a) i : Nat) : Int))).toArray) = (idB (dgt a) 0 32).toArray := by
    simp [Lib.bytesOf, idB, List.range_eq_range', List.map_map, Function.comp_def]
  rw [e] at hl
  exact hl

set_option maxHeartbeats 1000000 in
theorem GCompare_any (a b : Nat) (ha : a < big) (hb : b < big) (ga gb c d : Nat) (w : World) (h1 : Whole w ga 23 (idC (dgt a))) (h2 : Whole w gb 23 (idC (dgt b))) :
    Calls Try.prog 37 #[.slice (some ⟨ga, 0, none⟩) 32 c, .slice (some ⟨gb, 0, none⟩) 32 d] w fun e w' => e = .returned (.int .i64 (cmpN a b)) ∧ w = w' := by
  have hrun : (Extern.BytealgCompare.compare #[.slice (some ⟨ga, 0, none⟩) 32 c, .slice (some ⟨gb, 0, none⟩) 32 d]).run Try.prog w = .ok (.int .i64 (cmpN a b)) w := by
    change Sem.run Try.prog (do pure (goInt (Extern.BytealgCompare.cmp (← Extern.Bytes.bytesOf (.slice (some ⟨ga, 0, none⟩) 32 c)) (← Extern.Bytes.bytesOf (.slice (some ⟨gb, 0, none⟩) 32 d))))) w = _
    simp only [Sem.run_bind, load_id a ga w h1 c, load_id b gb w h2 d, Sem.run_pure, Result.andThen]
    rw [Lib.cmp_eq, cmp_bytes a b ha hb 32 0 rfl (fun i hi => absurd hi (Nat.not_lt_zero _))]
    rfl
  have HR := Lib.hid hrun
  clear h1 h2 hrun
  go_enter Try.func37, Try.ntmps37
  go_wp2
  rw [run_callFunc_extern Try.func46 (by kernel_rfl) (by kernel_rfl) (by kernel_rfl) (e := Extern.BytealgCompare.compare) (by kernel_rfl), HR.out]
  simp only [Result.andThen]
  rw [Oper.upon_value]
  go_wp2
  go_ret
  exact ⟨rfl, rfl⟩

set_option maxHeartbeats 1600000 in
theorem OCompare_any (a b : Nat) (ha : a < big) (hb : b < big) (w : World) : Calls Try.prog 20 #[.agg (idC (dgt a)), .agg (idC (dgt b))] w fun e w' => e = .returned (.int .i64 (cmpN a b)) ∧ Below w.heap.size w w' := by
  obtain ⟨w1, hw1⟩ : ∃ w1, w.alloc (.cells (idC (dgt a)) 23) = w1 := ⟨_, rfl⟩
  obtain ⟨w2, hw2⟩ : ∃ w2, w1.alloc (.cells (idC (dgt b)) 23) = w2 := ⟨_, rfl⟩
  have hF1 : Fr (fun _ => False) w w1 := by subst hw1; exact (Fr.refl _ w).alloc _
  have hF2 : Fr (fun _ => False) w1 w2 := by subst hw2; exact (Fr.refl _ w1).alloc _
  have hA : Whole w2 w.heap.size 23 (idC (dgt a)) := by subst hw1; exact (Whole.new w 23 _).fr hF2 (fun e => e)
  have hB : Whole w2 w1.heap.size 23 (idC (dgt b)) := by subst hw2; exact Whole.new w1 23 _
  have HC := Lib.hid (fun (q : Later w2) => GCompare_any a b ha hb w.heap.size w1.heap.size 32 32 q.w' (hA.fr q.fr (fun e => e)) (hB.fr q.fr (fun e => e)))
  have HF := Lib.hid (hF1.trans hF2 (fun _ _ e => e))
  obtain ⟨ca, hca⟩ : ∃ ca, idC (dgt a) = ca := ⟨_, rfl⟩
  obtain ⟨cb, hcb⟩ : ∃ cb, idC (dgt b) = cb := ⟨_, rfl⟩
  obtain ⟨r, hr⟩ : ∃ r, cmpN a b = r := ⟨_, rfl⟩
  rw [hca] at hw1 ⊢
  rw [hcb] at hw2 ⊢
  rw [hr] at HC ⊢
  have i1 := fun (g : Nat) w => slice_all g w
  clear hF1 hF2 hA hB hca hcb hr
  go_enter Try.func20, Try.ntmps20
  go_wp2_with fail
  refine wp_region_later (w0 := w2) (Fr.refl _ _) (by kernel_rfl) (by kernel_rfl) ?_
  repeat (quiet_step ((go_at_call 37; refine Calls.later_of_same (HC.out _))))
  refine wpQuiet_nil ?_
  intro _ hw'
  obtain ⟨q, hw''⟩ := hw'
  subst hw''
  go_wp2_with fail
  go_ret
  exact ⟨rfl, (HF.out.trans q.fr (fun _ _ e => e)).below (fun _ _ e => e)⟩

set_option maxHeartbeats 1600000 in
theorem QBelow_any (a b : Nat) (ha : a < big) (hb : b < big) (w : World) : Calls Try.prog 38 #[.agg (idC (dgt a)), .agg (idC (dgt b))] w fun e w' => e = .returned (.bool (decide (a < b))) ∧ Below w.heap.size w w' := by
  obtain ⟨w1, hw1⟩ : ∃ w1, w.alloc (.cells (idC (dgt a)) 23) = w1 := ⟨_, rfl⟩
  obtain ⟨w2, hw2⟩ : ∃ w2, w1.alloc (.cells (idC (dgt b)) 23) = w2 := ⟨_, rfl⟩
  have hF1 : Fr (fun _ => False) w w1 := by subst hw1; exact (Fr.refl _ w).alloc _
  have hF2 : Fr (fun _ => False) w1 w2 := by subst hw2; exact (Fr.refl _ w1).alloc _
  have hA : Whole w2 w.heap.size 23 (idC (dgt a)) := by subst hw1; exact (Whole.new w 23 _).fr hF2 (fun e => e)
  have hB : Whole w2 w1.heap.size 23 (idC (dgt b)) := by subst hw2; exact Whole.new w1 23 _
  have HA := Lib.hid hA
  have HB := Lib.hid hB
  have HF := Lib.hid (hF1.trans hF2 (fun _ _ e => e))
  obtain ⟨ca, hca⟩ : ∃ ca, idC (dgt a) = ca := ⟨_, rfl⟩
  obtain ⟨cb, hcb⟩ : ∃ cb, idC (dgt b) = cb := ⟨_, rfl⟩
  rw [hca] at hw1 ⊢
  rw [hcb] at hw2 ⊢
  clear hF1 hF2 hA hB hca hcb
  go_enter Try.func38, Try.ntmps38
  go_wp2
  clear hw1 hw2
  go_loopw [5] (fun i wr => ∃ k : Nat, k ≤ 32 ∧ i = .int .i64 k ∧ Hid (∀ j, j < k → byt (dgt a) j = byt (dgt b) j) ∧ Fr (fun _ => False) w2 wr) (fun i _ => 32 - (intOf i).toNat)
  case atStart => exact ⟨0, by omega, rfl, Lib.hid (fun j hj => by omega), Fr.refl _ _⟩
  case round =>
    obtain ⟨k, hk, rfl, hn, hf⟩ := hrel
    have HFr := Lib.hid hf
    by_cases hlt : k < 32
    · obtain ⟨x, hx⟩ : ∃ x : Int, x = (byt (dgt a) k : Nat) := ⟨_, rfl⟩
      obtain ⟨y, hy⟩ : ∃ y : Int, y = (byt (dgt b) k : Nat) := ⟨_, rfl⟩
      have c1 : ∀ q : Later wr, q.w'.cell? ⟨w.heap.size, k, none⟩ = some (.int .u8 x) := fun q => by rw [((HA.out.fr hf (fun e => e)).fr q.fr (fun e => e)).cell, idC_get _ k hlt, hx]; rfl
      have c2 : ∀ q : Later wr, q.w'.cell? ⟨w1.heap.size, k, none⟩ = some (.int .u8 y) := fun q => by rw [((HB.out.fr hf (fun e => e)).fr q.fr (fun e => e)).cell, idC_get _ k hlt, hy]; rfl
      have HX := Lib.hid hx
      have HY := Lib.hid hy
      clear hx hy hf
      by_cases hxy : x = y
      · have hne : (x != y) = false := by simpa using hxy
        clear hxy
        go_wp2_with fail
        refine wp_region_later (w0 := wr) (Fr.refl _ _) (by kernel_rfl) (by kernel_rfl) ?_
        repeat (quiet_step (fail))
        refine wpQuiet_nil ?_
        intro _ hw'
        obtain ⟨q, hw''⟩ := hw'
        subst hw''
        have HNE := Lib.hid hne
        go_wp2_with fail
        go_roundw
        case rel =>
          refine ⟨k + 1, by omega, by go_num, Lib.hid (fun j hj => ?_), HFr.out.trans q.fr (fun _ _ e => e)⟩
          rcases (by omega : j < k ∨ j = k) with h | rfl
          · exact hn.out j h
          · have e : x = y := by simpa using HNE.out
            rw [HX.out, HY.out] at e
            omega
        case measure => simp [intOf]; omega
      · have hne : (x != y) = true := by simpa using hxy
        have HXY := Lib.hid hxy
        clear hxy
        go_wp2_with fail
        refine wp_region_later (w0 := wr) (Fr.refl _ _) (by kernel_rfl) (by kernel_rfl) ?_
        repeat (quiet_step (fail))
        refine wpQuiet_nil ?_
        intro _ hw'
        obtain ⟨q, hw''⟩ := hw'
        subst hw''
        have c3 : ∀ p : Later q.w', p.w'.cell? ⟨w.heap.size, k, none⟩ = some (.int .u8 x) := fun p => c1 ⟨_, q.fr.trans p.fr (fun _ _ e => e)⟩
        have c4 : ∀ p : Later q.w', p.w'.cell? ⟨w1.heap.size, k, none⟩ = some (.int .u8 y) := fun p => c2 ⟨_, q.fr.trans p.fr (fun _ _ e => e)⟩
        clear c1 c2
        go_wp2_with fail
        refine wp_region_later (w0 := q.w') (Fr.refl _ _) (by kernel_rfl) (by kernel_rfl) ?_
        repeat (quiet_step (fail))
        refine wpQuiet_nil ?_
        intro _ hw'
        obtain ⟨p, hw''⟩ := hw'
        subst hw''
        go_wp2_with fail
        go_ret
        refine ⟨?_, (HF.out.trans ((HFr.out.trans q.fr (fun _ _ e => e)).trans p.fr (fun _ _ e => e)) (fun _ _ e => e)).below (fun _ _ e => e)⟩
        have e : decide (x < y) = decide (a < b) := by
          have h1 := HX.out
          have h2 := HY.out
          have h3 := HXY.out
          rw [decide_eq_decide]
          constructor
          · intro h
            exact below_at a b ha hb k hlt hn.out (by omega)
          · intro h
            by_cases h4 : x < y
            · exact h4
            · have := below_at b a hb ha k hlt (fun j hj => (hn.out j hj).symm) (by omega)
              omega
        rw [← e]; rfl
    · obtain rfl : k = 32 := by omega
      have e : decide (a < b) = false := by
        have := same_bytes a b ha hb hn.out
        subst this
        exact decide_eq_false (Nat.lt_irrefl _)
      have HE := Lib.hid e
      clear e
      go_wp2_with fail
      go_ret
      exact ⟨by rw [HE.out]; rfl, (HF.out.trans HFr.out (fun _ _ e => e)).below (fun _ _ e => e)⟩

set_option maxHeartbeats 1600000 in
theorem QCompare_any (a b : Nat) (ha : a < big) (hb : b < big) (w : World) : Calls Try.prog 21 #[.agg (idC (dgt a)), .agg (idC (dgt b))] w fun e w' => e = .returned (.int .i64 (cmpN a b)) ∧ Below w.heap.size w w' := by
  obtain ⟨w1, hw1⟩ : ∃ w1, w.alloc (.cells (idC (dgt a)) 23) = w1 := ⟨_, rfl⟩
  obtain ⟨w2, hw2⟩ : ∃ w2, w1.alloc (.cells (idC (dgt b)) 23) = w2 := ⟨_, rfl⟩
  have hF1 : Fr (fun _ => False) w w1 := by subst hw1; exact (Fr.refl _ w).alloc _
  have hF2 : Fr (fun _ => False) w1 w2 := by subst hw2; exact (Fr.refl _ w1).alloc _
  have hA : Whole w2 w.heap.size 23 (idC (dgt a)) := by subst hw1; exact (Whole.new w 23 _).fr hF2 (fun e => e)
  have hB : Whole w2 w1.heap.size 23 (idC (dgt b)) := by subst hw2; exact Whole.new w1 23 _
  have hba := fun w => QBelow_any b a hb ha w
  have hab := fun w => QBelow_any a b ha hb w
  have HF := Lib.hid (hF1.trans hF2 (fun _ _ e => e))
  obtain ⟨ca, hca⟩ : ∃ ca, idC (dgt a) = ca := ⟨_, rfl⟩
  obtain ⟨cb, hcb⟩ : ∃ cb, idC (dgt b) = cb := ⟨_, rfl⟩
  have hcas : ca.size = 32 := by rw [← hca]; exact idC_size _
  have hcbs : cb.size = 32 := by rw [← hcb]; exact idC_size _
  rw [hca] at hw1 hA hab hba ⊢
  rw [hcb] at hw2 hB hab hba ⊢
  have HA := Lib.hid hA
  have HB := Lib.hid hB
  obtain ⟨p, hp⟩ : ∃ p, decide (a < b) = p := ⟨_, rfl⟩
  obtain ⟨q, hq⟩ : ∃ q, decide (b < a) = q := ⟨_, rfl⟩
  have hc : cmpN a b = if p = true then -1 else if q = true then 1 else 0 := by
    rw [← hp, ← hq]; simp [cmpN]
  rw [hp] at hab
  rw [hq] at hba
  rw [hc]
  have HAB := Lib.hid hab
  have HBA := Lib.hid hba
  clear hF1 hF2 hA hB hca hcb hp hq hc hab hba
  cases p
  · cases q
    · go_enter Try.func21, Try.ntmps21
      go_wp2_with (first
        | (refine wpList_load_row rfl 23 _ rfl _ rfl 23 _ _ _ HA.out Try.underlying23 rfl (by rw [hcas]; exact size32) ?_)
        | (refine wpList_load_row rfl 23 _ rfl _ rfl 23 _ _ _ HB.out Try.underlying23 rfl (by rw [hcbs]; exact size32) ?_)
        | (refine wpList_load_row rfl 23 _ rfl _ rfl 23 _ _ _ (HA.out.fr F3 (fun e => e)) Try.underlying23 rfl (by rw [hcas]; exact size32) ?_)
        | (refine wpList_load_row rfl 23 _ rfl _ rfl 23 _ _ _ (HB.out.fr F3 (fun e => e)) Try.underlying23 rfl (by rw [hcbs]; exact size32) ?_)
        | (go_at_call 38; have _ := M1; refine (HBA.out _).mono ?_; rintro e w4 ⟨rfl, b4⟩)
        | (go_at_call 38; refine (HAB.out _).mono ?_; rintro e w3 ⟨rfl, b3⟩
           have M1 := True.intro
           have F3 := (Fr.refl (fun _ => False) w2).then_below b3))
      go_ret
      exact ⟨rfl, (HF.out.trans (F3.then_below b4) (fun _ _ e => e)).below (fun _ _ e => e)⟩
    · go_enter Try.func21, Try.ntmps21
      go_wp2_with (first
        | (refine wpList_load_row rfl 23 _ rfl _ rfl 23 _ _ _ HA.out Try.underlying23 rfl (by rw [hcas]; exact size32) ?_)
        | (refine wpList_load_row rfl 23 _ rfl _ rfl 23 _ _ _ HB.out Try.underlying23 rfl (by rw [hcbs]; exact size32) ?_)
        | (refine wpList_load_row rfl 23 _ rfl _ rfl 23 _ _ _ (HA.out.fr F3 (fun e => e)) Try.underlying23 rfl (by rw [hcas]; exact size32) ?_)
        | (refine wpList_load_row rfl 23 _ rfl _ rfl 23 _ _ _ (HB.out.fr F3 (fun e => e)) Try.underlying23 rfl (by rw [hcbs]; exact size32) ?_)
        | (go_at_call 38; have _ := M1; refine (HBA.out _).mono ?_; rintro e w4 ⟨rfl, b4⟩)
        | (go_at_call 38; refine (HAB.out _).mono ?_; rintro e w3 ⟨rfl, b3⟩
           have M1 := True.intro
           have F3 := (Fr.refl (fun _ => False) w2).then_below b3))
      go_ret
      exact ⟨rfl, (HF.out.trans (F3.then_below b4) (fun _ _ e => e)).below (fun _ _ e => e)⟩
  · go_enter Try.func21, Try.ntmps21
    go_wp2_with (first
      | (refine wpList_load_row rfl 23 _ rfl _ rfl 23 _ _ _ HA.out Try.underlying23 rfl (by rw [hcas]; exact size32) ?_)
      | (refine wpList_load_row rfl 23 _ rfl _ rfl 23 _ _ _ HB.out Try.underlying23 rfl (by rw [hcbs]; exact size32) ?_)
      | (go_at_call 38; refine (HAB.out _).mono ?_; rintro e w3 ⟨rfl, b3⟩
         have F3 := (Fr.refl (fun _ => False) w2).then_below b3))
    go_ret
    exact ⟨rfl, (HF.out.trans F3 (fun _ _ e => e)).below (fun _ _ e => e)⟩
end Go.Proofs.Ytbfbgopbelmghaa

/- What is proved: one ref is put into a row of the call's own that has no room, ahead of its end, by the library. Conditions: the row is the call's own, the ref lies elsewhere. -/
import Derived.Test.YtoakbdmfoepdgaaDoorRgc
namespace Go.Proofs.YtoakbdmfoepdgaaDoor
open Go.RowKit Go.Sort Go.Shelf
set_option linter.unusedVariables false

theorem splice_at (P R cs : List Value) (o : Nat) (ho : P.length = o) : ((P ++ R).take o ++ cs ++ (P ++ R).drop (o + cs.length)) = P ++ (cs ++ R.drop cs.length) := by
  subst ho
  rw [List.take_left, List.append_assoc]
  congr 2
  rw [List.drop_append, List.drop_of_length_le (by omega), Nat.add_sub_cancel_left, List.nil_append]
theorem flatR_put (l : List Rf) (x : Rf) (i : Nat) : flatR (l.take i ++ x :: l.drop i) = (flatR (l.take i) ++ refV x) ++ flatR (l.drop i) := by
  rw [flatR_append, flatR_cons, List.append_assoc]
theorem take_len {l : List Rf} {i : Nat} (h : i ≤ l.length) : (flatR (l.take i)).length = i * 33 := by rw [flatR_len, List.length_take]; congr 1; omega
theorem OwnR.lies {w0 w : World} {A : Option Addr} {n c : Nat} {l : List Rf} (h : OwnR w0 w (.slice A n c) l) : Lies w A (flatR l) := by
  obtain ⟨B, d, hv, _, _, _, hl⟩ := h.slice
  injection hv with h1 h2 h3
  rw [h1]; exact hl

set_option maxHeartbeats 3200000 in
set_option maxRecDepth 100000 in
theorem GrInsert_grow (w0 : World) (g n i : Nat) (l : List Rf) (x : Rf) (gb : Nat) (hn : l.length ≤ 1000) (hi : i < l.length) (w : World) (h : OwnR w0 w (.slice (some ⟨g, 0, none⟩) n n) l) (hb : Whole w gb 50 (refV x).toArray) :
    Calls Tryd.prog 41 #[.slice (some ⟨g, 0, none⟩) n n, .int .i64 i, .slice (some ⟨gb, 0, none⟩) 1 1] w fun e w' => ∃ v, e = .returned v ∧ OwnR w0 w' v (l.take i ++ x :: l.drop i) := by
  obtain ⟨i0, hi0, hz0, hz1, hz2⟩ := info_parts info_ref
  have hz3 := zeroR_cells
  obtain ⟨Z, hZ⟩ : ∃ Z, (refV default).toArray = Z := ⟨_, rfl⟩
  rw [hZ] at hz0 hz3
  have HOw := Lib.hid h
  obtain ⟨rest, hW, hlen, hnl, hnc, hcm, hbase⟩ := h.row
  have hl := h.lies
  obtain ⟨k, hk⟩ : ∃ k, n + 1 - i = k := ⟨_, rfl⟩
  have hik : i + k = n + 1 := by omega
  have hKz : (n : Int) + 1 - (i : Int) = (k : Int) := by omega
  have hold : (Builtin.firstCells i0.size i (.slice (some ⟨g, 0, none⟩) i n)).run Tryd.prog w.drew = .ok (flatR (l.take i)).toArray w.drew := by
    rw [hz1]
    refine run_firstCells_some w.drew 33 i ⟨g, 0, none⟩ i n (flatR (l.take i)) (take_len (by omega)) (fun j v hj => ?_)
    rw [add_off]
    rcases (hl.takeR i).fr (Fr.refl (fun _ => False) w).drew (fun _ _ e => e) with h0 | ⟨b, o, hA, hc⟩
    · rw [h0] at hj; simp at hj
    · cases hA; exact hc j v hj
  have hrz : ∀ ty, (Builtin.append_ #[22, 3] ty #[.slice (some ⟨g, 0, none⟩) i n, .int .i64 ((n : Int) + 1 - (i : Int))]).run Tryd.prog w =
      .ok (.slice (some ⟨w.heap.size, 0, none⟩) (i + k) (grownCap w (i + k) n 50)) (w.drew.alloc (.cells ((flatR (l.take i)).toArray ++ Builtin.zeroCells (Value.agg Z).cells k ++ Builtin.zeroCells (Value.agg Z).cells (grownCap w (i + k) n 50 - (i + k))) 50)) := fun ty => by
    rw [hKz]
    exact Lib.run_append_grow_zeros (P := Tryd.prog) w 22 3 ty 50 i0 (.agg Z) .i64 .i64 Tryd.underlying22 Tryd.underlying3 hi0 hz0 (some ⟨g, 0, none⟩) i n (flatR (l.take i)) hold k (by omega) (by rw [hz1]; decide) (by omega) (by omega) (by rw [hz2]; omega) (by rw [hz2]; exact growslice_fits (by omega) (by omega))
  have hge := grownCap_ge w (i + k) n 50
  have hcm2 := grownCap_le_maxLen w (i + k) n 50 (by unfold maxLen; omega)
  rw [hik] at hrz hge hcm2
  obtain ⟨C, hC⟩ : ∃ C, grownCap w (n + 1) n 50 = C := ⟨_, rfl⟩
  rw [hC] at hrz hge hcm2
  obtain ⟨R0, hR0⟩ : ∃ R0 : List Value, (Builtin.zeroCells (Value.agg Z).cells k ++ Builtin.zeroCells (Value.agg Z).cells (C - (n + 1))).toList = R0 := ⟨_, rfl⟩
  have hRl : R0.length = k * 33 + (C - (n + 1)) * 33 := by
    rw [← hR0, Array.toList_append, List.length_append, Array.length_toList, Array.length_toList, size_zeroCells, size_zeroCells, hz3]
  have hROW : (flatR (l.take i)).toArray ++ Builtin.zeroCells (Value.agg Z).cells k ++ Builtin.zeroCells (Value.agg Z).cells (C - (n + 1)) = (flatR (l.take i) ++ R0).toArray := by
    apply Array.toList_inj.1
    rw [← hR0]
    simp
  rw [hROW] at hrz
  obtain ⟨w1, hw1⟩ : ∃ w1, w.drew.alloc (.cells (flatR (l.take i) ++ R0).toArray 50) = w1 := ⟨_, rfl⟩
  rw [hw1] at hrz
  have HW1 := Lib.hid (show Whole w1 w.heap.size 50 (flatR (l.take i) ++ R0).toArray from by rw [← hw1]; exact Whole.new w.drew 50 _)
  have HF1 := Lib.hid (show Fr (fun _ => False) w w1 from by rw [← hw1]; exact (Fr.refl (fun _ => False) w).drew.alloc _)
  have hgl := Whole.lt hW
  obtain ⟨B, hB⟩ : ∃ B, w.heap.size = B := ⟨_, rfl⟩
  rw [hB] at hrz HW1 hgl
  have HGl := Lib.hid hgl
  have HBB := Lib.hid hB
  have hTk := take_len (l := l) (i := i) (by omega)
  have HTk := Lib.hid hTk
  have s1 : ∀ w, (Instr.slice 22 (.slice (some ⟨g, 0, none⟩) n n) (some (.int .i64 i)) none none).run Tryd.prog w = .ok (.slice (some ⟨g, i * 33, none⟩) (n - i) (n - i)) w := fun w => by
    have := slice_tlR (some ⟨g, 0, none⟩) n n i (by omega) w
    rwa [tlR_some g n i (by omega)] at this
  have s2 : ∀ w, (Instr.slice 22 (.slice (some ⟨g, 0, none⟩) n n) none (some (.int .i64 i)) none).run Tryd.prog w = .ok (.slice (some ⟨g, 0, none⟩) i n) w := fun w => slice_hdR _ (.inr ⟨_, _, rfl⟩) n n i (by omega) w
  have s3 : ∀ w, (Instr.slice 22 (.slice (some ⟨B, 0, none⟩) (n + 1) C) (some (.int .i64 i)) none none).run Tryd.prog w = .ok (.slice (some ⟨B, i * 33, none⟩) k (C - i)) w := fun w => by
    have := slice_tlR (some ⟨B, 0, none⟩) (n + 1) C i (by omega) w
    rwa [tlR_some B C i (by omega), hk] at this
  have s4 : ∀ w, (Instr.slice 22 (.slice (some ⟨B, 0, none⟩) (n + 1) C) (some (.int .i64 ((i : Int) + 1))) none none).run Tryd.prog w = .ok (.slice (some ⟨B, (i + 1) * 33, none⟩) (n - i) (C - (i + 1))) w := fun w => by
    have := slice_tlR (some ⟨B, 0, none⟩) (n + 1) C (i + 1) (by omega) w
    rw [tlR_some B C (i + 1) (by omega)] at this
    rwa [show ((i + 1 : Nat) : Int) = (i : Int) + 1 by omega, show n + 1 - (i + 1) = n - i by omega] at this
  have k1 : IntKind.i64.wrap ((n : Int) + 1) = (n : Int) + 1 := wrap_nat1 n (by omega)
  have k2 : IntKind.i64.wrap ((n : Int) + 1 - (i : Int)) = (n : Int) + 1 - (i : Int) := by rw [IntKind.wrap_i64]; omega
  have k3 : IntKind.i64.wrap ((i : Int) + 1) = (i : Int) + 1 := wrap_nat1 i (by omega)
  have hne : ¬ ((i : Int) = (n : Int)) := by omega
  have hgt : (n : Int) < (n : Int) + 1 := by omega
  have HIK := Lib.hid hik
  have HNl := Lib.hid hnl
  have HLt := Lib.hid hi
  have HL := Lib.hid hl
  have HGe := Lib.hid hge
  have HCm := Lib.hid hcm2
  have HRl := Lib.hid hRl
  have HBb := Lib.hid hb
  have HRZ := Lib.hid hrz
  clear hrz hl hW hlen hold hB hC hR0 hROW hgl hTk hk hik hKz hbase hcm hnc hnl h hb hz0 hz1 hz2 hz3 hge hcm2 hRl hZ hi0 hw1 hi
  go_enter Tryd.func41, Tryd.ntmps41
  go_upto_region 11 with (first
    | (at_builtin; refine wpList_append_to rfl (.tmp 34) (.tmp 39) 22 3 rfl (.slice (some ⟨g, 0, none⟩) i n) (.int .i64 ((n : Int) + 1 - (i : Int))) (.slice (some ⟨B, 0, none⟩) (n + 1) C) w1 rfl rfl HRZ.out ?_; have M1 := True.intro)
    | (have _ := M1; refine wpList_copyK rfl (.tmp 43) (.tmp 44) 22 22 rfl 50 33 Tryd.underlying22 size_ref B (i * 33) k (C - i) gb 0 1 1 rfl rfl _ 50 HW1.out (refV x) 1 (by have := HIK.out; have := HLt.out; have := HNl.out; simp only [Nat.min_def]; split <;> omega) (by rw [refV_len]) (fun j v hj => by rw [Nat.zero_add, (HBb.out.fr HF1.out (fun e => e)).cell, List.getElem?_toArray]; exact hj) (by rw [List.size_toArray, List.length_append, HTk.out, refV_len, HRl.out]; have := HIK.out; have := HLt.out; have := HNl.out; omega) (refV_one x) ?_
       intro w2 hw2 hf2
       have HW2 := Lib.hid hw2
       have HF2 := Lib.hid hf2
       clear hw2 hf2))
  have hx33 : (refV x).length = 33 := refV_len x
  have hW2 := HW2.out
  rw [show (flatR (l.take i) ++ R0).toArray.toList = flatR (l.take i) ++ R0 from rfl, splice_at _ _ _ _ HTk.out, ← List.append_assoc] at hW2
  obtain ⟨R1, hR1⟩ : ∃ R1, R0.drop (refV x).length = R1 := ⟨_, rfl⟩
  have HR1l : Hid (R1.length = R0.length - 33) := Lib.hid (by rw [← hR1, List.length_drop, hx33])
  rw [hR1] at hW2
  obtain ⟨P2, hP2⟩ : ∃ P2, flatR (l.take i) ++ refV x = P2 := ⟨_, rfl⟩
  have HP2 := Lib.hid hP2
  have HP2l : Hid (P2.length = (i + 1) * 33) := Lib.hid (by rw [← hP2, List.length_append, HTk.out, hx33]; omega)
  rw [hP2] at hW2
  have HW2' := Lib.hid hW2
  have HSr : Hid (∀ w', Fr (fun j => j = B) w1 w' → ∀ j v, (flatR (l.drop i))[j]? = some v → w'.cell? ⟨g, i * 33 + j, none⟩ = some v) := Lib.hid (fun w' f j v hj => by
    rw [flatR_drop, List.getElem?_drop] at hj
    rcases HL.out with h0 | ⟨b, o, hA, hc⟩
    · rw [h0] at hj; simp at hj
    · cases hA
      have h1 := HF1.out.cell (hc _ _ hj) (fun e => e)
      have h2 := f.cell h1 (fun e => by have := HGl.out; have h3 : g = B := e; omega)
      rwa [Nat.zero_add] at h2)
  have HDl : Hid ((flatR (l.drop i)).length = (n - i) * 33) := Lib.hid (by rw [flatR_len, List.length_drop, HNl.out])
  have HCn : Hid (n + 1 ≤ C) := Lib.hid HGe.out
  have HIn : Hid (i < n) := Lib.hid (by have := HLt.out; have := HNl.out; omega)
  have HKk : Hid (k = n + 1 - i) := Lib.hid (by have := HIK.out; omega)
  have HFc := Lib.hid (show Fr (fun j => j = B) w2 w2.drew from (Fr.refl _ w2).drew)
  have HSq := Lib.hid (show Fr (fun j => j = B) w2 w2.drew from HFc.out)
  clear hW2 hR1 hP2 hx33
  refine wp_region_held (S := fun w' => Fr (fun j => j = B) w2 w') (by kernel_rfl) ?_
  change wpAnyH _ _ _ _ _ _ _ _ (World.drew w2)
  have HWc := Lib.hid (show Whole w2.drew B 50 (P2 ++ R1).toArray from HW2'.out.fr (Fr.refl (fun _ => False) w2).drew (fun e => e))
  obtain ⟨wc, hwc⟩ : ∃ wc, w2.drew = wc := ⟨_, rfl⟩
  rw [hwc] at HFc HSq HWc ⊢
  clear hwc
  (
    refine wpAnyH_takeM (i := 0) (v := .slice (some ⟨B, 0, none⟩) (n + 1) C) 46 rfl rfl (by kernel_rfl) (by kernel_rfl) (by kernel_rfl) (fun _ _ _ h => h) (.inl ⟨by rfl, ?_⟩) HSq.out ?_
    · intro wq hq
      go_simp)
  (
    refine wpAnyH_takeM (i := 1) (v := .int .i64 i) 47 rfl rfl (by kernel_rfl) (by kernel_rfl) (by kernel_rfl) (fun _ _ _ h => h) (.inl ⟨by rfl, ?_⟩) HSq.out ?_
    · intro wq hq
      go_simp)
  (
    refine wpAnyH_takeM (i := 2) (v := .int .i64 1) 48 rfl rfl (by kernel_rfl) (by kernel_rfl) (by kernel_rfl) (fun _ _ _ h => h) (.inl ⟨by rfl, ?_⟩) HSq.out ?_
    · intro wq hq
      go_simp)
  (
    refine wpAnyH_takeM (i := 3) (v := .int .i64 ((i : Int) + 1)) 49 rfl rfl (by kernel_rfl) (by kernel_rfl) (by kernel_rfl) (fun _ _ _ h => h) (.inl ⟨by rfl, ?_⟩) HSq.out ?_
    · intro wq hq
      go_simp)
  (
    refine wpAnyH_takeM (i := 4) (v := .slice (some ⟨B, (i + 1) * 33, none⟩) (n - i) (C - (i + 1))) 50 rfl rfl (by kernel_rfl) (by kernel_rfl) (by kernel_rfl) (fun _ _ _ h => h) (.inl ⟨by rfl, ?_⟩) HSq.out ?_
    · intro wq hq
      go_simp)
  (
    refine wpAnyH_takeM (i := 5) (v := .slice (some ⟨g, 0, none⟩) n n) 51 rfl rfl (by kernel_rfl) (by kernel_rfl) (by kernel_rfl) (fun _ _ _ h => h) (.inl ⟨by rfl, ?_⟩) HSq.out ?_
    · intro wq hq
      go_simp)
  (
    refine wpAnyH_takeM (i := 6) (v := .int .i64 i) 52 rfl rfl (by kernel_rfl) (by kernel_rfl) (by kernel_rfl) (fun _ _ _ h => h) (.inl ⟨by rfl, ?_⟩) HSq.out ?_
    · intro wq hq
      go_simp)
  (
    refine wpAnyH_takeM (i := 7) (v := .slice (some ⟨g, i * 33, none⟩) (n - i) (n - i)) 53 rfl rfl (by kernel_rfl) (by kernel_rfl) (by kernel_rfl) (fun _ _ _ h => h) (.inl ⟨by rfl, ?_⟩) HSq.out ?_
    · intro wq hq
      go_simp)
  (
    try simp only [List.setIfInBounds_toArray, List.set_cons_succ, List.set_cons_zero]
    refine wpAnyH_all (rs := [8]) (by kernel_rfl) (by simp) ?_
    intro i hi
    simp only [List.mem_cons, List.not_mem_nil, or_false] at hi
    subst hi)
  refine wpOp_step rfl (fun K hK => ?_)
  refine wp_copyK (.tmp 50) (.tmp 53) 22 22 (by rfl) 50 33 Tryd.underlying22 size_ref B ((i + 1) * 33) (n - i) (C - (i + 1)) g (i * 33) (n - i) (n - i) (by rfl) (by rfl) _ 50 HWc.out (flatR (l.drop i)) (n - i) (by simp) HDl.out (HSr.out wc (HF2.out.trans HFc.out (fun _ _ e => e))) (by rw [List.size_toArray, List.length_append, HDl.out, HP2l.out, HR1l.out, HRl.out]; have h1 := HCn.out; have h2 := HIn.out; have h3 := HKk.out; omega) (flatR_one _) ?_
  intro w4 hw4 hf4
  have hW4 := hw4
  rw [show (P2 ++ R1).toArray.toList = P2 ++ R1 from rfl, splice_at _ _ _ _ HP2l.out, ← List.append_assoc, ← HP2.out, ← flatR_put] at hW4
  have HW4 := Lib.hid hW4
  have HF4 := Lib.hid (HSq.out.trans hf4 (fun _ _ e => e))
  have HFz := Lib.hid (show Fr (fun _ => False) w w4 from (HF1.out.trans (HF2.out.trans HF4.out (fun _ _ e => e)) (T := fun j => j = B) (fun j hj e => by have := HBB.out; omega)))
  clear hw4 hf4 hW4
  refine hK _ _ ⟨HF4.out, ?_⟩
  clear hK K
  refine wpAnyH_done (by kernel_rfl) ?_ _
  go_wp2_with fail
  go_ret
  refine ⟨_, rfl, ?_⟩
  have hll : (l.take i ++ x :: l.drop i).length = n + 1 := by rw [List.length_append, List.length_cons, List.length_take, List.length_drop]; have := HLt.out; have := HNl.out; omega
  have := OwnR.of_row (w0 := w0) (c := C) HW4.out (by
    rw [List.length_append, flatR_len, hll, List.length_drop, HDl.out, HR1l.out, HRl.out]
    have h1 := HCn.out; have h2 := HIn.out; have h3 := HKk.out
    omega) (by rw [hll]; exact HCn.out) HCm.out (by have := HOw.out.2.size; have := HBB.out; omega) (HOw.out.2.trans HFz.out (fun _ _ e => e))
  rwa [hll] at this
end Go.Proofs.YtoakbdmfoepdgaaDoor

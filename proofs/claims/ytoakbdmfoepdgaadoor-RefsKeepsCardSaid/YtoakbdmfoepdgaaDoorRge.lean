/- What is proved: one ref is put into a row of the call's own that has room, ahead of its end; in general; by the library. Conditions: the row is the call's own, the ref lies elsewhere. -/
import Derived.Test.YtoakbdmfoepdgaaDoorRgd
namespace Go.Proofs.YtoakbdmfoepdgaaDoor
open Go.RowKit Go.Sort Go.Shelf
set_option linter.unusedVariables false

set_option maxHeartbeats 3200000 in
set_option maxRecDepth 100000 in
theorem GrInsert_room (w0 : World) (g n c i : Nat) (l : List Rf) (x : Rf) (gb : Nat) (hn : l.length ≤ 1000) (hi : i < l.length) (hr : n < c) (w : World) (h : OwnR w0 w (.slice (some ⟨g, 0, none⟩) n c) l) (hb : Whole w gb 50 (refV x).toArray) (hg : gb ≠ g) :
    Calls Tryd.prog 41 #[.slice (some ⟨g, 0, none⟩) n c, .int .i64 i, .slice (some ⟨gb, 0, none⟩) 1 1] w fun e w' => ∃ v, e = .returned v ∧ OwnR w0 w' v (l.take i ++ x :: l.drop i) := by
  have HOw := Lib.hid h
  obtain ⟨rest, hW, hlen, hnl, hnc, hcm, hbase⟩ := h.row
  have hl := h.lies
  have hrl : rest.length = (c - n) * 33 := by rw [List.length_append, flatR_len, ← hnl] at hlen; rw [Nat.sub_mul]; omega
  obtain ⟨k, hk⟩ : ∃ k, n + 1 - i = k := ⟨_, rfl⟩
  have s1 : ∀ w, (Instr.slice 22 (.slice (some ⟨g, 0, none⟩) n c) (some (.int .i64 i)) none none).run Tryd.prog w = .ok (.slice (some ⟨g, i * 33, none⟩) (n - i) (c - i)) w := fun w => by
    have := slice_tlR (some ⟨g, 0, none⟩) n c i (by omega) w
    rwa [tlR_some g c i (by omega)] at this
  have s2 : ∀ w, (Instr.slice 22 (.slice (some ⟨g, 0, none⟩) n c) none (some (.int .i64 ((n : Int) + 1))) none).run Tryd.prog w = .ok (.slice (some ⟨g, 0, none⟩) (n + 1) c) w := fun w => by
    have := slice_hdR (some ⟨g, 0, none⟩) (.inr ⟨_, _, rfl⟩) n c (n + 1) (by omega) w
    rwa [show ((n + 1 : Nat) : Int) = (n : Int) + 1 by omega] at this
  have s3 : ∀ w, (Instr.slice 22 (.slice (some ⟨g, 0, none⟩) (n + 1) c) (some (.int .i64 i)) none none).run Tryd.prog w = .ok (.slice (some ⟨g, i * 33, none⟩) k (c - i)) w := fun w => by
    have := slice_tlR (some ⟨g, 0, none⟩) (n + 1) c i (by omega) w
    rwa [tlR_some g c i (by omega), hk] at this
  have s4 : ∀ w, (Instr.slice 22 (.slice (some ⟨g, 0, none⟩) (n + 1) c) (some (.int .i64 ((i : Int) + 1))) none none).run Tryd.prog w = .ok (.slice (some ⟨g, (i + 1) * 33, none⟩) (n - i) (c - (i + 1))) w := fun w => by
    have := slice_tlR (some ⟨g, 0, none⟩) (n + 1) c (i + 1) (by omega) w
    rw [tlR_some g c (i + 1) (by omega)] at this
    rwa [show ((i + 1 : Nat) : Int) = (i : Int) + 1 by omega, show n + 1 - (i + 1) = n - i by omega] at this
  have hov := Lib.run_overlaps_apart (P := Tryd.prog) w 22 4 50 Tryd.underlying22 33 (fun _ => by kernel_rfl) ⟨gb, 0, none⟩ ⟨g, (i + 1) * 33, none⟩ 1 1 (n - i) (c - (i + 1)) hg 50 50 (refV x).toArray.size (flatR l ++ rest).toArray.size
    (by unfold Whole at hb; simp [World.shape?, hb]) (by unfold Whole at hW; simp [World.shape?, hW]) (by rw [List.size_toArray, hlen]; omega) (hb.frozen 0) (hb.frozen _)
  have HOv := Lib.hid hov
  have k1 : IntKind.i64.wrap ((n : Int) + 1) = (n : Int) + 1 := wrap_nat1 n (by omega)
  have k3 : IntKind.i64.wrap ((i : Int) + 1) = (i : Int) + 1 := wrap_nat1 i (by omega)
  have hne : ¬ ((i : Int) = (n : Int)) := by omega
  have hgt : ¬ ((c : Int) < (n : Int) + 1) := by omega
  -- the row in pieces
  have hp1 : flatR l ++ rest = flatR (l.take (i + 1)) ++ (flatR (l.drop (i + 1)) ++ rest) := by rw [← List.append_assoc, ← flatR_append, List.take_append_drop]
  have HTk := Lib.hid (take_len (l := l) (i := i) (by omega))
  have HTk1 := Lib.hid (take_len (l := l) (i := i + 1) (by omega))
  have HDl : Hid ((flatR (l.drop i)).length = (n - i) * 33) := Lib.hid (by rw [flatR_len, List.length_drop, hnl])
  have HDl1 : Hid ((flatR (l.drop (i + 1))).length = (n - (i + 1)) * 33) := Lib.hid (by rw [flatR_len, List.length_drop, hnl])
  have HP3 : Hid (flatR (l.take (i + 1)) = flatR (l.take i) ++ refV l[i]!) := Lib.hid (by rw [rf_snoc l i hi, flatR_append, flatR_one1])
  rw [hp1] at hW
  have HW := Lib.hid hW
  have HSr : Hid (∀ w', Fr (fun _ => False) w w' → ∀ j v, (flatR (l.drop i))[j]? = some v → w'.cell? ⟨g, i * 33 + j, none⟩ = some v) := Lib.hid (fun w' f j v hj => by
    rw [flatR_drop, List.getElem?_drop] at hj
    rcases hl with h0 | ⟨b, o, hA, hc⟩
    · rw [h0] at hj; simp at hj
    · cases hA
      have h1 := f.cell (hc _ _ hj) (fun e => e)
      rwa [Nat.zero_add] at h1)
  have HNl := Lib.hid hnl
  have HLt := Lib.hid hi
  have HR := Lib.hid hr
  have HCm := Lib.hid hcm
  have HBase := Lib.hid hbase
  have HRl := Lib.hid hrl
  have HKk : Hid (k = n + 1 - i) := Lib.hid hk.symm
  have HBb := Lib.hid hb
  have HGg := Lib.hid hg
  clear hl hW hlen hbase hcm hnc hnl h hb hi hr hrl hg hk hp1 hov
  go_enter Tryd.func41, Tryd.ntmps41
  go_upto_region 14 with fail
  go_wp2
  rw [run_callFunc_extern Tryd.func60 (by kernel_rfl) (by kernel_rfl) (by kernel_rfl) (e := Extern.SlicesOverlaps.overlaps #[22, 22] #[4]) (by kernel_rfl), HOv.out]
  simp only [Result.andThen]
  rw [Oper.upon_value]
  go_upto_region 15 with fail
  have HFc := Lib.hid (show Fr (fun _ => False) w w.drew from (Fr.refl _ w).drew)
  have HSq := Lib.hid (show Fr (fun j => j = g) w w.drew from HFc.out.mono (fun _ _ e => e.elim))
  refine wp_region_held (S := fun w' => Fr (fun j => j = g) w w') (by kernel_rfl) ?_
  change wpAnyH _ _ _ _ _ _ _ _ (World.drew w)
  have HWc := Lib.hid (show Whole w.drew g 50 (flatR (l.take (i + 1)) ++ (flatR (l.drop (i + 1)) ++ rest)).toArray from HW.out.fr (Fr.refl (fun _ => False) w).drew (fun e => e))
  obtain ⟨wc, hwc⟩ : ∃ wc, w.drew = wc := ⟨_, rfl⟩
  rw [hwc] at HFc HSq HWc ⊢
  clear hwc
  (
    refine wpAnyH_takeM (i := 0) (v := .slice (some ⟨g, 0, none⟩) (n + 1) c) 69 rfl rfl (by kernel_rfl) (by kernel_rfl) (by kernel_rfl) (fun _ _ _ h => h) (.inl ⟨by rfl, ?_⟩) HSq.out ?_
    · intro wq hq
      go_simp)
  (
    refine wpAnyH_takeM (i := 1) (v := .int .i64 i) 70 rfl rfl (by kernel_rfl) (by kernel_rfl) (by kernel_rfl) (fun _ _ _ h => h) (.inl ⟨by rfl, ?_⟩) HSq.out ?_
    · intro wq hq
      go_simp)
  (
    refine wpAnyH_takeM (i := 2) (v := .int .i64 1) 71 rfl rfl (by kernel_rfl) (by kernel_rfl) (by kernel_rfl) (fun _ _ _ h => h) (.inl ⟨by rfl, ?_⟩) HSq.out ?_
    · intro wq hq
      go_simp)
  (
    refine wpAnyH_takeM (i := 3) (v := .int .i64 ((i : Int) + 1)) 72 rfl rfl (by kernel_rfl) (by kernel_rfl) (by kernel_rfl) (fun _ _ _ h => h) (.inl ⟨by rfl, ?_⟩) HSq.out ?_
    · intro wq hq
      go_simp)
  (
    refine wpAnyH_takeM (i := 4) (v := .slice (some ⟨g, (i + 1) * 33, none⟩) (n - i) (c - (i + 1))) 73 rfl rfl (by kernel_rfl) (by kernel_rfl) (by kernel_rfl) (fun _ _ _ h => h) (.inl ⟨by rfl, ?_⟩) HSq.out ?_
    · intro wq hq
      go_simp)
  (
    refine wpAnyH_takeM (i := 5) (v := .slice (some ⟨g, 0, none⟩) (n + 1) c) 74 rfl rfl (by kernel_rfl) (by kernel_rfl) (by kernel_rfl) (fun _ _ _ h => h) (.inl ⟨by rfl, ?_⟩) HSq.out ?_
    · intro wq hq
      go_simp)
  (
    refine wpAnyH_takeM (i := 6) (v := .int .i64 i) 75 rfl rfl (by kernel_rfl) (by kernel_rfl) (by kernel_rfl) (fun _ _ _ h => h) (.inl ⟨by rfl, ?_⟩) HSq.out ?_
    · intro wq hq
      go_simp)
  (
    refine wpAnyH_takeM (i := 7) (v := .slice (some ⟨g, i * 33, none⟩) k (c - i)) 76 rfl rfl (by kernel_rfl) (by kernel_rfl) (by kernel_rfl) (fun _ _ _ h => h) (.inl ⟨by rfl, ?_⟩) HSq.out ?_
    · intro wq hq
      go_simp)
  (
    try simp only [List.setIfInBounds_toArray, List.set_cons_succ, List.set_cons_zero]
    refine wpAnyH_all (rs := [8]) (by kernel_rfl) (by simp) ?_
    intro i hi
    simp only [List.mem_cons, List.not_mem_nil, or_false] at hi
    subst hi)
  refine wpOp_step rfl (fun K hK => ?_)
  refine wp_copyK (.tmp 73) (.tmp 76) 22 22 (by rfl) 50 33 Tryd.underlying22 size_ref g ((i + 1) * 33) (n - i) (c - (i + 1)) g (i * 33) k (c - i) (by rfl) (by rfl) _ 50 HWc.out (flatR (l.drop i)) (n - i) (by have h1 := HKk.out; have h2 := HLt.out; have h3 := HNl.out; simp only [Nat.min_def]; split <;> omega) HDl.out (HSr.out wc HFc.out) (by rw [List.size_toArray, List.length_append, List.length_append, HDl.out, HTk1.out, HDl1.out, HRl.out]; have h1 := HR.out; have h2 := HLt.out; have h3 := HNl.out; omega) (flatR_one _) ?_
  intro w2 hw2 hf2
  have hW2 := hw2
  rw [show (flatR (l.take (i + 1)) ++ (flatR (l.drop (i + 1)) ++ rest)).toArray.toList = flatR (l.take (i + 1)) ++ (flatR (l.drop (i + 1)) ++ rest) from rfl, splice_at _ _ _ _ HTk1.out, HP3.out, List.append_assoc] at hW2
  obtain ⟨R2, hR2⟩ : ∃ R2, (flatR (l.drop (i + 1)) ++ rest).drop (flatR (l.drop i)).length = R2 := ⟨_, rfl⟩
  have HR2 : Hid (R2.length = (n - (i + 1)) * 33 + (c - n) * 33 - (n - i) * 33) := Lib.hid (by rw [← hR2, List.length_drop, List.length_append, HDl1.out, HRl.out, HDl.out])
  rw [hR2] at hW2
  have HW2 := Lib.hid hW2
  have HF2 := Lib.hid (HSq.out.trans hf2 (fun _ _ e => e))
  have HB2 := Lib.hid (show Whole w2 gb 50 (refV x).toArray from HBb.out.fr HF2.out HGg.out)
  clear hw2 hf2 hW2 hR2
  refine hK _ _ ⟨HF2.out, ?_⟩
  clear hK K
  refine wpAnyH_done (by kernel_rfl) ?_ _
  have hx33 : (refV x).length = 33 := refV_len x
  have HX33 := Lib.hid hx33
  have HY33 : Hid ((refV l[i]!).length = 33) := Lib.hid (refV_len _)
  clear hx33
  go_wp2_with (refine wpList_copyK rfl (.tmp 80) (.tmp 81) 22 22 rfl 50 33 Tryd.underlying22 size_ref g (i * 33) k (c - i) gb 0 1 1 rfl rfl _ 50 HW2.out (refV x) 1 (by have h1 := HKk.out; have h2 := HLt.out; have h3 := HNl.out; simp only [Nat.min_def]; split <;> omega) (by rw [refV_len]) (fun j v hj => by rw [Nat.zero_add, HB2.out.cell, List.getElem?_toArray]; exact hj) (by rw [List.size_toArray, List.length_append, List.length_append, HTk.out, HX33.out, HY33.out]; omega) (refV_one x) ?_
               intro w3 hw3 hf3
               have HW3 := Lib.hid hw3
               have HF3 := Lib.hid (HF2.out.trans hf3 (fun _ _ e => e))
               clear hw3 hf3)
  go_ret
  refine ⟨_, rfl, ?_⟩
  have hW3 := HW3.out
  rw [splice_at _ _ _ _ HTk.out, HX33.out, ← HY33.out, List.drop_left, ← List.append_assoc, ← List.append_assoc, ← flatR_put] at hW3
  have hll : (l.take i ++ x :: l.drop i).length = n + 1 := by rw [List.length_append, List.length_cons, List.length_take, List.length_drop]; have := HLt.out; have := HNl.out; omega
  have := OwnR.of_row (w0 := w0) (c := c) hW3 (by
    rw [List.length_append, flatR_len, hll, HR2.out]
    have h1 := HR.out; have h2 := HLt.out; have h3 := HNl.out
    omega) (by rw [hll]; exact HR.out) HCm.out HBase.out (HOw.out.2.trans HF3.out (fun j hj e => by have := HBase.out; omega))
  rwa [hll] at this

/-- In general. -/
theorem GrInsert_any (w0 : World) (v : Value) (l : List Rf) (x : Rf) (i gb : Nat) (hn : l.length ≤ 1000) (hi : i ≤ l.length) (w : World) (h : OwnR w0 w v l) (hb : Whole w gb 50 (refV x).toArray) (hg : v.ownBlock ≠ some gb) :
    Calls Tryd.prog 41 #[v, .int .i64 i, .slice (some ⟨gb, 0, none⟩) 1 1] w fun e w' => ∃ v', e = .returned v' ∧ OwnR w0 w' v' (l.take i ++ x :: l.drop i) := by
  obtain ⟨A, c, hv, hc, hm, hA, _⟩ := h.slice
  subst hv
  rcases Nat.lt_or_ge i l.length with h1 | h1
  · rcases own_shape h.1 with ⟨_, _, h0⟩ | ⟨g, cap, hv, _⟩
    · rw [flatR_nil h0] at h1; simp at h1
    · injection hv with e1 e2 e3
      subst e1; subst e3
      rcases Nat.lt_or_ge l.length c with h2 | h2
      · exact GrInsert_room w0 g l.length c i l x gb hn h1 h2 w h hb (fun e => hg (by rw [e]; rfl))
      · obtain rfl : c = l.length := by omega
        exact GrInsert_grow w0 g l.length i l x gb hn h1 w h hb
  · obtain rfl : i = l.length := by omega
    rw [List.take_length, List.drop_length]
    exact GrInsert_end w0 A l.length c l x gb hn w h hb
end Go.Proofs.YtoakbdmfoepdgaaDoor

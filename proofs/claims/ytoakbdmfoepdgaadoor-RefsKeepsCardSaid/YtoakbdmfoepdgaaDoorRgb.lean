/- What is proved: one ref is taken out of a row of the call's own, by the library. Conditions: the row is the call's own. -/
import Derived.Test.YtoakbdmfoepdgaaDoorRga
namespace Go.Proofs.YtoakbdmfoepdgaaDoor
open Go.RowKit Go.Sort Go.Shelf
set_option linter.unusedVariables false

theorem elem33 (w : World) : (sizeOf (Tryd.prog.elem 22)).run Tryd.prog w = .ok 33 w := by kernel_rfl
theorem underRs : Tryd.prog.underlying 22 = some (.slice (Tryd.prog.elem 22)) := by kernel_rfl
theorem slice_lhR (A : Option Addr) (n c lo hi : Nat) (h1 : lo ≤ hi) (h2 : hi ≤ c) (w : World) : (Instr.slice 22 (.slice A n c) (some (.int .i64 lo)) (some (.int .i64 hi)) none).run Tryd.prog w = .ok (.slice (tlR A c lo) (hi - lo) (c - lo)) w := by
  have e := run_slice_lh (P := Tryd.prog) w 22 A n c underRs .i64 .i64 (lo : Int) (hi : Int) (by omega) (by omega) (by omega)
  rw [e, elem33]
  simp [sliced, tlR]
theorem slice_lhmR (A : Option Addr) (n c lo hi mx : Nat) (h1 : lo ≤ hi) (h2 : hi ≤ mx) (h3 : mx ≤ c) (w : World) : (Instr.slice 22 (.slice A n c) (some (.int .i64 lo)) (some (.int .i64 hi)) (some (.int .i64 mx))).run Tryd.prog w = .ok (.slice (tlR A mx lo) (hi - lo) (mx - lo)) w := by
  have e := run_slice_lhm (P := Tryd.prog) w 22 A n c underRs .i64 .i64 .i64 (lo : Int) (hi : Int) (mx : Int) (by omega) (by omega) (by omega) (by omega)
  rw [e, elem33]
  simp [sliced, tlR]
theorem tlR_some (g c m : Nat) (h : c ≠ m) : tlR (some ⟨g, 0, none⟩) c m = some ⟨g, m * 33, none⟩ := by
  unfold tlR
  rw [if_neg h]
  simp [add_off]

/-! A stretch of structs made zero. -/
theorem run_clearK {P : Program} (w : World) (t e ty : TypeId) (z : Value) (size : Nat) (ht : P.underlying t = some (.slice e)) (hv : ∀ w, (zeroValue e).run P w = .ok z w) (hz : z.cells.size = size) (hz1 : ∀ v ∈ z.cells.toList, v.oneCell' = true) (hs : 0 < size)
    (g o n c : Nat) (hn : 0 < n) (cur : Array Value) (tt : TypeId) (hg : w.heap[g]? = some (.cells cur tt (0, 0))) (hfit : o + n * size ≤ cur.size) :
    ∃ zc : List Value, zc.length = n * size ∧ (Builtin.clear_ #[t] ty #[.slice (some ⟨g, o, none⟩) n c]).run P w = .ok (.tuple #[]) (w.setRow g (cur.toList.take o ++ zc ++ cur.toList.drop (o + zc.length)).toArray) := by
  have hzl : (Builtin.zeroCells z.cells n).toList.length = n * size := by simp [Builtin.zeroCells, hz]
  have hst := run_storeCells_at P g o tt (Builtin.zeroCells z.cells n).toList 0 cur w hg (by rw [hzl]; simpa using hfit) (fun v hv' => by
    simp only [Builtin.zeroCells, Array.toList_map, List.mem_map] at hv'
    obtain ⟨i, _, rfl⟩ := hv'
    have hlt : i % z.cells.size < z.cells.size := Nat.mod_lt _ (by omega)
    rw [getElem!_pos z.cells _ hlt]
    exact hz1 _ (by simp))
  refine ⟨_, hzl, ?_⟩
  obtain ⟨m, rfl⟩ : ∃ m, n = m + 1 := ⟨n - 1, by omega⟩
  simp only [Nat.add_zero] at hst
  simp [Builtin.clear_, run_underlying ht, hv, hst]
theorem wpList_clearK {P : Program} {w : World} {ops : Array Oper} {rest : List Oper} {o : Oper} {a : Act} {Q : Exit → Act → World → Prop} (hgd : o.guard = none) (s : Operand) (t e : TypeId)
    (ho : o.op = .call { callee := .builtin .clear, args := #[s], argTypes := #[t] }) (z : Value) (size : Nat) (ht : P.underlying t = some (.slice e)) (hv : ∀ w, (zeroValue e).run P w = .ok z w) (hz : z.cells.size = size) (hz1 : ∀ v ∈ z.cells.toList, v.oneCell' = true) (hs : 0 < size)
    (g off n c : Nat) (hn : 0 < n) (hx : a.eval s = .slice (some ⟨g, off, none⟩) n c) (cur : Array Value) (tt : TypeId) (hg : Whole w g tt cur) (hfit : off + n * size ≤ cur.size)
    (h : ∀ w' zc, zc.length = n * size → Whole w' g tt (cur.toList.take off ++ zc ++ cur.toList.drop (off + zc.length)).toArray → Fr (fun k => k = g) w w' → wpList P ops Q rest (a.put o.dst (.tuple #[])) w') : wpList P ops Q (o :: rest) a w :=
  wpList_plain hgd fun K hK => by
    obtain ⟨zc, hl, hrun⟩ := run_clearK (P := P) w t e o.type z size ht hv hz hz1 hs g off n c hn cur tt hg hfit
    unfold Oper.wp execOp
    simp only [ho, resolve, invoke, builtin, Sem.run_bind, Sem.run_pure, Result.andThen_ok, List.map_toArray, List.map_cons, List.map_nil, hx, hrun]
    exact hK _ _ (h _ zc hl (hg.laid _) (Fr.laid w g _))
theorem zeroRef (w : World) : (zeroValue 50).run Tryd.prog w = .ok (.agg (refV default).toArray) w := by kernel_rfl

theorem cut_rows {l : List Rf} {i : Nat} (hi : i < l.length) : (l.take i ++ l.drop (i + 1)).length = l.length - 1 := by
  rw [List.length_append, List.length_take, List.length_drop]; omega

set_option maxHeartbeats 3200000 in
set_option maxRecDepth 100000 in
theorem GrDelete_any (w0 : World) (g n c i : Nat) (l : List Rf) (hn : l.length ≤ 1000) (hi : i < l.length) (w : World) (h : OwnR w0 w (.slice (some ⟨g, 0, none⟩) n c) l) (J : Int) (hJ : J = ((i + 1 : Nat) : Int)) :
    Calls Tryd.prog 43 #[.slice (some ⟨g, 0, none⟩) n c, .int .i64 i, .int .i64 J] w fun e w' => ∃ v, e = .returned v ∧ OwnR w0 w' v (l.take i ++ l.drop (i + 1)) := by
  obtain ⟨i0, hi0, hz0, hz1, hz2⟩ := info_parts info_ref
  obtain ⟨rest, hW, hlen, hnl, hnc, hcm, hbase⟩ := h.row
  have HOw := Lib.hid h
  have hrl : rest.length = (c - n) * 33 := by rw [List.length_append, flatR_len, ← hnl] at hlen; rw [Nat.sub_mul]; omega
  -- the row's beginning, and what is laid behind it
  have HPre : Hid (OwnR w0 w (.slice (some ⟨g, 0, none⟩) i c) (l.take i)) := Lib.hid (by
    have h1 : (l.take i).length = i := by rw [List.length_take]; omega
    have h2 := OwnR.of_row (w0 := w0) (w := w) (g := g) (c := c) (l := l.take i) (rest := flatR (l.drop i) ++ rest) (by rw [← List.append_assoc, ← flatR_append, List.take_append_drop]; exact hW) (by rw [← List.append_assoc, ← flatR_append, List.take_append_drop]; exact hlen) (by omega) hcm hbase h.2
    rwa [h1] at h2)
  have HSrc : Hid (∀ w', Fr (fun _ => False) w w' → Src Tryd.prog 33 22 (.slice (tlR (some ⟨g, 0, none⟩) c (i + 1)) (n - (i + 1)) (c - (i + 1))) (n - (i + 1)) (flatR (l.drop (i + 1))) w') := Lib.hid (fun w' f => by
    have hl : Lies w (some ⟨g, 0, none⟩) (flatR l) := by
      refine .inr ⟨g, 0, rfl, fun j u hu => ?_⟩
      rw [Nat.zero_add, hW.cell, List.getElem?_toArray, List.getElem?_append_left (List.getElem?_eq_some_iff.1 hu).1]
      exact hu
    exact ((hl.fr f (fun _ _ e => e)).tlR c (i + 1) (by omega)).src33 (by rw [List.length_drop]; omega) _)
  have s1 : ∀ w, (Instr.slice 22 (.slice (some ⟨g, 0, none⟩) n c) (some (.int .i64 i)) (some (.int .i64 J)) (some (.int .i64 n))).run Tryd.prog w = .ok (.slice (tlR (some ⟨g, 0, none⟩) n i) (i + 1 - i) (n - i)) w := fun w => by rw [hJ]; exact slice_lhmR _ n c i (i + 1) n (by omega) (by omega) (by omega) w
  have s2 : ∀ w, (Instr.slice 22 (.slice (some ⟨g, 0, none⟩) n c) none (some (.int .i64 i)) none).run Tryd.prog w = .ok (.slice (some ⟨g, 0, none⟩) i c) w := fun w => slice_hdR _ (.inr ⟨_, _, rfl⟩) n c i (by omega) w
  have s3 : ∀ w, (Instr.slice 22 (.slice (some ⟨g, 0, none⟩) n c) (some (.int .i64 J)) none none).run Tryd.prog w = .ok (.slice (tlR (some ⟨g, 0, none⟩) c (i + 1)) (n - (i + 1)) (c - (i + 1))) w := fun w => by rw [hJ]; exact slice_tlR _ n c (i + 1) (by omega) w
  have HC := Lib.hid (cut_rows hi)
  obtain ⟨m, hm⟩ : ∃ m, n - (i + 1) = m := ⟨_, rfl⟩
  have him : i + m + 1 = n := by omega
  have s4 : ∀ w, (Instr.slice 22 (.slice (some ⟨g, 0, none⟩) (i + m) c) (some (.int .i64 ((i + m : Nat) : Int))) (some (.int .i64 n)) none).run Tryd.prog w = .ok (.slice (some ⟨g, (i + m) * 33, none⟩) 1 (c - (i + m))) w := fun w => by
    have := slice_lhR (some ⟨g, 0, none⟩) (i + m) c (i + m) n (by omega) (by omega) w
    rwa [tlR_some g c (i + m) (by omega), show n - (i + m) = 1 by omega] at this
  rw [hm] at HSrc s3
  obtain ⟨A2, hA2⟩ : ∃ A, tlR (some ⟨g, 0, none⟩) c (i + 1) = A := ⟨_, rfl⟩
  rw [hA2] at HSrc s3
  obtain ⟨A1, hA1⟩ : ∃ A, tlR (some ⟨g, 0, none⟩) n i = A := ⟨_, rfl⟩
  rw [hA1] at s1
  obtain ⟨q, hq⟩ : ∃ q, i + m = q := ⟨_, rfl⟩
  rw [hq] at s4
  have hne : ¬ ((i : Int) = J) := by omega
  have HQ := Lib.hid hq
  have HM1 := Lib.hid him
  have HNl := Lib.hid hnl
  have HNc := Lib.hid hnc
  have HCm := Lib.hid hcm
  have HBase := Lib.hid hbase
  clear hA1 hA2 hm him hq hnl hnc hcm hbase hlen hrl hW hJ h hz0 hz2
  go_enter Tryd.func43, Tryd.ntmps43
  go_upto_region 5 with fail
  have HFc := Lib.hid (show Fr (fun _ => False) w w.drew from (Fr.refl _ w).drew)
  have HSq := Lib.hid (show Fr (fun j => j = g) w w.drew from HFc.out.mono (fun _ _ e => e.elim))
  refine wp_region_held (S := fun w' => Fr (fun j => j = g) w w') (by kernel_rfl) ?_
  change wpAnyH _ _ _ _ _ _ _ _ (World.drew w)
  obtain ⟨wc, hwc⟩ : ∃ wc, w.drew = wc := ⟨_, rfl⟩
  rw [hwc] at HFc HSq ⊢
  clear hwc
  (
    refine wpAnyH_takeM (i := 0) (v := .slice (some ⟨g, 0, none⟩) n c) 20 rfl rfl (by kernel_rfl) (by kernel_rfl) (by kernel_rfl) (fun _ _ _ h => h) (.inl ⟨by rfl, ?_⟩) HSq.out ?_
    · intro wq hq
      go_simp)
  (
    refine wpAnyH_takeM (i := 1) (v := .int .i64 i) 21 rfl rfl (by kernel_rfl) (by kernel_rfl) (by kernel_rfl) (fun _ _ _ h => h) (.inl ⟨by rfl, ?_⟩) HSq.out ?_
    · intro wq hq
      go_simp)
  (
    refine wpAnyH_takeM (i := 2) (v := .slice (some ⟨g, 0, none⟩) i c) 22 rfl rfl (by kernel_rfl) (by kernel_rfl) (by kernel_rfl) (fun _ _ _ h => h) (.inl ⟨by rfl, ?_⟩) HSq.out ?_
    · intro wq hq
      go_simp)
  (
    refine wpAnyH_takeM (i := 3) (v := .slice (some ⟨g, 0, none⟩) n c) 23 rfl rfl (by kernel_rfl) (by kernel_rfl) (by kernel_rfl) (fun _ _ _ h => h) (.inl ⟨by rfl, ?_⟩) HSq.out ?_
    · intro wq hq
      go_simp)
  (
    refine wpAnyH_takeM (i := 4) (v := .int .i64 J) 24 rfl rfl (by kernel_rfl) (by kernel_rfl) (by kernel_rfl) (fun _ _ _ h => h) (.inl ⟨by rfl, ?_⟩) HSq.out ?_
    · intro wq hq
      go_simp)
  (
    refine wpAnyH_takeM (i := 5) (v := .slice A2 m (c - (i + 1))) 25 rfl rfl (by kernel_rfl) (by kernel_rfl) (by kernel_rfl) (fun _ _ _ h => h) (.inl ⟨by rfl, ?_⟩) HSq.out ?_
    · intro wq hq
      go_simp)
  (
    try simp only [List.setIfInBounds_toArray, List.set_cons_succ, List.set_cons_zero]
    refine wpAnyH_all (rs := [6]) (by kernel_rfl) (by simp) ?_
    intro i hi
    simp only [List.mem_cons, List.not_mem_nil, or_false] at hi
    subst hi)
  refine wpOp_step rfl (fun K hK => ?_)
  refine wp_append_room (.tmp 22) (.tmp 25) 22 22 (by rfl) w0.heap.size 50 i0 33 Tryd.underlying22 hi0 hz1 g i c (flatR (l.take i)) (by rfl) (by have := (HPre.out.fr HFc.out).1; rw [show (l.take i).length = i by rw [List.length_take]; omega] at this; exact this) (.slice A2 m (c - (i + 1))) m (flatR (l.drop (i + 1))) (by rfl) (HSrc.out wc HFc.out) (by have := HM1.out; have := HNc.out; omega) ?_
  intro w2 o2 g2
  have HS2 := Lib.hid (show Fr (fun j => j = g) w w2 from HSq.out.grown g2 (fun j e _ => by injection e with e; exact e.symm))
  have hO2 : OwnR w0 w2 (.slice (some ⟨g, 0, none⟩) (i + m) c) (l.take i ++ l.drop (i + 1)) := by
    have h1 := HC.out
    have h2 := HM1.out
    have h3 := HNl.out
    refine ⟨?_, HOw.out.2.trans HS2.out (fun j hj e => by have := HBase.out; omega)⟩
    rw [flatR_append, show (l.take i ++ l.drop (i + 1)).length = i + m by omega]
    exact o2
  obtain ⟨rest2, hW2, hlen2, _, _, _, _⟩ := hO2.row
  have HW2 := Lib.hid hW2
  have HLen2 := Lib.hid hlen2
  have HFw2 := Lib.hid hO2.2
  rw [HQ.out]
  clear o2 g2 hO2 hW2 hlen2
  refine hK _ _ ⟨HS2.out, ?_⟩
  clear hK K
  (
    try simp only [List.setIfInBounds_toArray, List.set_cons_succ, List.set_cons_zero]
    refine wpAnyH_all (rs := [7]) (by kernel_rfl) (by simp) ?_
    intro i hi
    simp only [List.mem_cons, List.not_mem_nil, or_false] at hi
    subst hi)
  refine wpOp_step rfl (fun K hK => ?_)
  go_simp
  refine hK _ _ ⟨HS2.out, ?_⟩
  clear hK K
  refine wpAnyH_done (by kernel_rfl) ?_ _
  have hzc : (Value.agg (refV default).toArray).cells.toList = refV default := by simp [Value.cells]
  have HZO : Hid (∀ v ∈ (Value.agg (refV default).toArray).cells.toList, v.oneCell' = true) := Lib.hid (by rw [hzc]; exact refV_one default)
  have hzv := zeroRef
  have hzs := zeroR_cells
  have HFl : Hid ((flatR (l.take i ++ l.drop (i + 1))).length = q * 33) := Lib.hid (by rw [flatR_len, HC.out]; have := HQ.out; have := HM1.out; have := HNl.out; congr 1; omega)
  obtain ⟨F, hF⟩ : ∃ F, flatR (l.take i ++ l.drop (i + 1)) = F := ⟨_, rfl⟩
  have HF := Lib.hid hF
  rw [hF] at HW2 HLen2 HFl
  clear hzc hF
  go_wp2_with (first
    | (refine wpList_clearK rfl (.tmp 31) 22 50 rfl (.agg (refV default).toArray) 33 Tryd.underlying22 hzv hzs HZO.out (by decide) g (q * 33) 1 (c - q) (by decide) rfl _ 50 HW2.out (by rw [List.size_toArray, HLen2.out]; have h1 := HQ.out; have h2 := HM1.out; have h3 := HNc.out; omega) ?_
       intro w3 zc hzl hw3 hf3
       have HZL := Lib.hid hzl
       have HW3 := Lib.hid hw3
       have HF3 := Lib.hid hf3
       clear hzl hw3 hf3))
  go_ret
  refine ⟨_, rfl, ?_⟩
  have hq2 : (l.take i ++ l.drop (i + 1)).length = q := by have := HC.out; have := HQ.out; have := HM1.out; have := HNl.out; omega
  have hcells : ((F ++ rest2).toArray.toList.take (q * 33) ++ zc ++ (F ++ rest2).toArray.toList.drop (q * 33 + zc.length)) = flatR (l.take i ++ l.drop (i + 1)) ++ (zc ++ (F ++ rest2).drop (q * 33 + zc.length)) := by
    rw [List.append_assoc, HF.out, ← HFl.out]
    simp
  have hW := HW3.out
  rw [hcells] at hW
  have := OwnR.of_row (w0 := w0) (c := c) hW (by
    rw [List.length_append, List.length_append, List.length_drop, HLen2.out, HF.out, HFl.out, HZL.out]
    have h1 := HQ.out; have h2 := HM1.out; have h3 := HNc.out
    omega) (by rw [hq2]; have h1 := HQ.out; have h2 := HM1.out; have h3 := HNc.out; omega) HCm.out HBase.out (HFw2.out.trans HF3.out (fun j hj e => by have := HBase.out; omega))
  rwa [hq2] at this
end Go.Proofs.YtoakbdmfoepdgaaDoor

/- What is proved: an id's first digits and noughts behind them, by the program. Conditions: none. -/
import Derived.Test.YtbfbgopbelmghaaOie
namespace Go.Proofs.Ytbfbgopbelmghaa
open Go.RowKit
set_option linter.unusedVariables false

/-- A copy into the head of a row out of a row, as a step of a region that draws its order. -/
theorem step_copy_to {P : Program} {ops : Array Oper} {o : Oper} {a : Act} {w : World} {K : Act → World → Prop} {Q : Exit → Act → World → Prop} {E : Prop} (hgd : o.guard = none) (d s : Operand) (dT sT : TypeId)
    (ho : o.op = .call { callee := .builtin .copy, args := #[d, s], argTypes := #[dT, sT] }) (elem : TypeId) (hu : P.underlying dT = some (.slice elem)) (hsz : (P.info? elem).map (·.size) = some 1)
    (g off dLen dCap b f : Nat) (sLen sCap : Nat) (hd : a.eval d = .slice (some ⟨g, off, none⟩) dLen dCap) (hs : a.eval s = .slice (some ⟨b, f, none⟩) sLen sCap)
    (cur : Array Value) (t : TypeId) (hg : Whole w g t cur) (cs : List Value) (hn : cs.length = Nat.min sLen dLen) (hc : ∀ j v, cs[j]? = some v → w.cell? ⟨b, f + j, none⟩ = some v)
    (hfit : off + cs.length ≤ cur.size) (h1 : ∀ v ∈ cs, v.oneCell' = true)
    (h : ∀ w', Whole w' g t (splice cur.toList off cs).toArray → Fr (fun k => k = g) w w' → K (a.put o.dst (goInt cs.length)) w') :
    if Region.wanted o (yielded ops a.tmps) = true then Oper.wp P o a w K Q else E := by
  have hw : Region.wanted o (yielded ops a.tmps) = true := by simp [Region.wanted, hgd]
  rw [if_pos hw]
  have hrun := run_copy_row (P := P) w dT sT o.type elem g off dLen dCap ⟨b, f, none⟩ sLen sCap cur t cs hu hsz hg hn (fun j v hv => by rw [add_off]; exact hc j v hv) hfit h1
  unfold Oper.wp
  simp [execOp, ho, resolve, invoke, builtin, hd, hs, hrun, Result.andThen]
  exact h _ (by simpa [splice] using hg.laid _) (by simpa [splice] using Fr.laid w g _)

theorem size_u8 : (Try.prog.info? 5).map (·.size) = some 1 := by kernel_rfl
theorem arrLen : Try.prog.arrayLen 23 = 32 := by kernel_rfl
theorem arrTy : Try.prog.underlying 23 = some (.array (Try.prog.arrayLen 23) (Try.prog.elem 23)) := by kernel_rfl
theorem slice_head (g m : Nat) (hm : m ≤ 32) (w : World) : (Instr.sliceAt 23 (.pointer (some ⟨g, 0, none⟩)) none (some (.int .i64 m)) none).run Try.prog w = .ok (.slice (some ⟨g, 0, none⟩) m 32) w := by
  have hs : (sizeOf (Try.prog.elem 23)).run Try.prog w = .ok 1 w := by kernel_rfl
  have h := run_sliceAt_array_h (P := Try.prog) w 23 ⟨g, 0, none⟩ arrTy .i64 (m : Int) (by omega) (by rw [arrLen]; omega)
  rw [h, hs, arrLen]
  simp [slicedAt, add_off]
theorem slice_all (g : Nat) (w : World) : (Instr.sliceAt 23 (.pointer (some ⟨g, 0, none⟩)) none none none).run Try.prog w = .ok (.slice (some ⟨g, 0, none⟩) 32 32) w := by
  have hs : (sizeOf (Try.prog.elem 23)).run Try.prog w = .ok 1 w := by kernel_rfl
  have h := run_sliceAt_array_all (P := Try.prog) w 23 ⟨g, 0, none⟩ arrTy
  rw [h, hs, arrLen]
  simp [slicedAt, add_off]

theorem splice_cut (a m : Nat) (N : Int) (hm : m ≤ 32) : (splice (pfC (fun _ => 0) N).toList 0 ((idC (dgt a)).toList.take m)).toArray = pfC (cutD a (2 * m)) N := by
  apply Array.toList_inj.1
  apply List.ext_getElem?
  intro i
  have hl : ((idC (dgt a)).toList.take m).length = m := by rw [List.length_take, Array.length_toList, idC_size]; omega
  simp only [splice, List.take_zero, List.nil_append, Nat.zero_add, hl]
  by_cases hi : i < m
  · rw [List.getElem?_append_left (by omega), List.getElem?_take, if_pos hi, Array.getElem?_toList, Array.getElem?_toList, idC_get _ i (by omega), pfC_get _ _ i (by omega), cellD, cellD, byt, byt, cutD, cutD, if_pos (by omega), if_pos (by omega)]
  · rw [List.getElem?_append_right (by omega), hl, List.getElem?_drop, show m + (i - m) = i by omega, Array.getElem?_toList, Array.getElem?_toList]
    by_cases h32 : i < 32
    · rw [pfC_get _ _ i h32, pfC_get _ _ i h32, cellD, cellD, byt, byt, cutD, cutD, if_neg (by omega), if_neg (by omega)]
    · rcases (by omega : i = 32 ∨ 33 ≤ i) with rfl | h
      · rw [pfC_N, pfC_N]
      · rw [Array.getElem?_eq_none (by rw [pfC_size]; exact h), Array.getElem?_eq_none (by rw [pfC_size]; exact h)]
theorem cutD_other (a m j : Nat) (h : j ≠ m) : byt (cutD a (2 * m)) j = byt (cutD a (2 * m + 1)) j := by
  unfold byt cutD
  congr 1
  · congr 1
    by_cases h1 : 2 * j < 2 * m
    · rw [if_pos h1, if_pos (by omega)]
    · rw [if_neg h1, if_neg (by omega)]
  · by_cases h1 : 2 * j + 1 < 2 * m
    · rw [if_pos h1, if_pos (by omega)]
    · rw [if_neg h1, if_neg (by omega)]
theorem cutD_at (a m : Nat) : byt (cutD a (2 * m + 1)) m = 16 * dgt a (2 * m) := by
  unfold byt cutD
  rw [if_pos (by omega), if_neg (by omega)]; rfl

set_option maxRecDepth 100000 in
theorem andNot15 (x : Nat) (hx : x < 256) : bits .andNot .u8 (x : Int) 15 = (16 * (x / 16) : Nat) := by
  have h := u8_andNot_nat x 15 hx (by decide)
  rw [show ((15 : Nat) : Int) = 15 from rfl] at h
  rw [h]
  congr 1
  have h : ∀ x, x < 256 → x &&& (255 - 15) = 16 * (x / 16) := by decide
  exact h x hx

set_option maxHeartbeats 1600000 in
theorem Ofirst_any (a n : Nat) (hn : n ≤ 64) (w : World) : Calls Try.prog 36 #[.agg (idC (dgt a)), .int .i64 n] w fun e w' => e = .returned (.agg (pfC (cutD a n) n)) ∧ Below w.heap.size w w' := by
  obtain ⟨w1, hw1⟩ : ∃ w1, w.alloc (.cells (idC (dgt a)) 23) = w1 := ⟨_, rfl⟩
  obtain ⟨w2, hw2⟩ : ∃ w2, w1.alloc (.cells zero33 30) = w2 := ⟨_, rfl⟩
  have hF : Fr (fun _ => False) w w1 := by subst hw1; exact (Fr.refl _ w).alloc _
  have hS : Whole w1 w.heap.size 23 (idC (dgt a)) := by subst hw1; exact Whole.new w 23 _
  have hs1 : w1.heap.size = w.heap.size + 1 := by subst hw1; simp
  have hZ : Whole w2 w1.heap.size 30 zero33 := by subst hw2; exact Whole.new w1 30 zero33
  have hF2 : Fr (fun _ => False) w1 w2 := by subst hw2; exact (Fr.refl _ w1).alloc _
  have hs2 : w2.heap.size = w1.heap.size + 1 := by subst hw2; simp
  have HF := Lib.hid hF
  have HS := Lib.hid hS
  have HS1 := Lib.hid hs1
  have HS2 := Lib.hid hs2
  have HZ := Lib.hid hZ
  have HF2 := Lib.hid hF2
  obtain ⟨cw, hcw⟩ : ∃ cw, idC (dgt a) = cw := ⟨_, rfl⟩
  have hcs : cw.size = 32 := by rw [← hcw]; exact idC_size _
  rw [hcw] at hw1 ⊢
  have HCW := Lib.hid hcw
  unfold zero33 at hw2
  simp [List.replicate] at hw2
  obtain ⟨m, hm⟩ : ∃ m, n / 2 = m := ⟨_, rfl⟩
  have hm32 : m ≤ 32 := by omega
  obtain ⟨N, hN⟩ : ∃ N : Int, (n : Int) = N := ⟨_, rfl⟩
  have hNd : N.tdiv 2 = (m : Int) := by rw [Int.tdiv_eq_ediv_of_nonneg (by omega)]; omega
  have hN0 : 0 ≤ N := by omega
  have hN64 : N ≤ 64 := by omega
  have hwm : IntKind.i64.wrap (m : Int) = m := by rw [IntKind.wrap_i64]; omega
  have HN := Lib.hid hN
  have HM := Lib.hid hm
  rw [hN]
  have i1 := fun w => slice_head w2.heap.size m hm32 w
  have i2 := fun w => slice_all w.heap.size w
  have hl : ((idC (dgt a)).toList.take m).length = m := by rw [List.length_take, Array.length_toList, idC_size]; omega
  have HL := Lib.hid hl
  clear hF hS hs1 hs2 hZ hF2 hcw hl hN hm i2
  have i2 := fun (g : Nat) w => slice_all g w
  go_enter Try.func36, Try.ntmps36
  go_wp2_with (refine wpList_store_at rfl 30 _ _ rfl w2.heap.size 0 30 _ (pfC (fun _ => 0) N) rfl rfl (Whole.new w2 30 zero33) (by rw [pfC_size]; decide) (by rw [pfC_size]; exact size33) (pfC_one _ _) ?_
               intro w3 hw3 hf3)
  rw [laidAt_all _ _ (by rw [pfC_size]; exact (rfl : zero33.size = 33))] at hw3
  have F3 : Fr (fun _ => False) w1 w3 := (HF2.out.alloc _).trans hf3 (fun i hi e => by have := HS2.out; omega)
  have HF3 := Lib.hid F3
  have HZ3 := Lib.hid (HZ.out.fr (((Fr.refl (fun _ => False) w2).alloc _).trans hf3 (fun i hi e => by omega)) (fun e => e))
  have HW3 := Lib.hid hw3
  clear F3 hf3 hw3 hw1 hw2
  go_region_law (refine step_copy_to (by rfl) (.tmp 11) (.tmp 12) 61 61 (by rfl) 5 Try.underlying61 size_u8 w2.heap.size 0 m 32 w.heap.size 0 32 32 (by rfl) (by rfl) _ 30 (HW3.out.fr ((Fr.refl (fun _ => False) w3).drew) (fun e => e)) ((idC (dgt a)).toList.take m) (by rw [HL.out]; exact (Nat.min_eq_right hm32).symm) (fun j v hv => by
      have hv2 : (idC (dgt a)).toList[j]? = some v := by
        rw [List.getElem?_take] at hv
        split at hv
        · exact hv
        · simp at hv
      rw [Nat.zero_add, ((HS.out.fr HF3.out (fun e => e)).fr ((Fr.refl (fun _ => False) w3).drew) (fun e => e)).cell]
      simpa using hv2) (by rw [HL.out, pfC_size]; omega) (fun v hv => by
      have hv2 := List.mem_of_mem_take hv
      exact (Array.all_eq_true_iff_forall_mem.1 (idC_one (dgt a))) v (by simpa using hv2)) ?_; intro w4 hw4 hf4)
  rw [splice_cut a m N hm32] at hw4
  have F4 : Fr (fun _ => False) w1 w4 := HF3.out.drew.trans hf4 (fun i hi e => by have := HS2.out; omega)
  have HF4 := Lib.hid F4
  have HW4 := Lib.hid hw4
  have hb := byt_lt _ (dgt_lt a) m
  have hbh := byt_hi _ (dgt_lt a) m
  obtain ⟨x, hx⟩ : ∃ x : Nat, byt (dgt a) m = x := ⟨_, rfl⟩
  rw [hx] at hb hbh
  have hz4 : Whole w4 w1.heap.size 30 zero33 := by
    have h3 : Whole w3 w1.heap.size 30 zero33 := HZ3.out
    exact (h3.fr ((Fr.refl (fun _ => False) w3).drew) (fun e => e)).fr hf4 (by have := HS2.out; show ¬ w1.heap.size = w2.heap.size; omega)
  have HZ4 := Lib.hid hz4
  by_cases hpar : n % 2 = 1
  · have hkm : N.tmod 2 = 1 := by have := HN.out; rw [Int.tmod_eq_emod_of_nonneg (by omega)]; omega
    have hm31 : m < 32 := by have := HM.out; omega
    have c1 : w4.cell? ⟨w.heap.size, m, none⟩ = some (.int .u8 (x : Nat)) := by rw [(HS.out.fr F4 (fun e => e)).cell, idC_get _ m hm31, ← hx]; rfl
    have hao := andNot15 x hb
    obtain ⟨X, hX⟩ : ∃ X : Int, ((x : Nat) : Int) = X := ⟨_, rfl⟩
    obtain ⟨Y, hY⟩ : ∃ Y : Int, ((16 * (x / 16) : Nat) : Int) = Y := ⟨_, rfl⟩
    rw [hX] at c1 hao
    rw [hY] at hao
    have c2 : w4.cell? ⟨w2.heap.size, m, none⟩ = some (cellD (cutD a (2 * m)) m) := by rw [hw4.cell, pfC_get _ _ m hm31]
    obtain ⟨u, hu⟩ : ∃ u, cellD (cutD a (2 * m)) m = .int .u8 u := ⟨_, rfl⟩
    rw [hu] at c2
    have f2 := hw4.frozen m
    have hX0 : 0 ≤ X := by omega
    have hX1 : X < 256 := by omega
    have HY : Hid (Y = (byt (cutD a (2 * m + 1)) m : Nat)) := Lib.hid (by rw [cutD_at]; omega)
    have HN2 : Hid (n = 2 * m + 1) := Lib.hid (by have := HM.out; omega)
    have hw5 := hw4.set m (.int .u8 Y)
    rw [pfC_set _ (cutD a (2 * m + 1)) _ m hm31 Y (fun j _ hj => cutD_other a m j hj) HY.out, ← HN2.out] at hw5
    have HW5 := Lib.hid hw5
    have F5 : Fr (fun _ => False) w1 (w4.setCell ⟨w2.heap.size, m, none⟩ (.int .u8 Y)) := F4.setCell (fun e => absurd e (by have := HS2.out; show ¬ w2.heap.size < w1.heap.size; omega)) _
    have HF5 := Lib.hid F5
    have hz5 : Whole (w4.setCell ⟨w2.heap.size, m, none⟩ (.int .u8 Y)) w1.heap.size 30 zero33 := hz4.fr ((Fr.refl (fun j => j = w2.heap.size) w4).setCell (p := ⟨w2.heap.size, m, none⟩) (fun _ => rfl) _) (by have := HS2.out; show ¬ w1.heap.size = w2.heap.size; omega)
    have HZ5 := Lib.hid hz5
    clear hw4 hf4 F4 hx hbh hX hY hu hw5 F5 hz5 hz4 hpar
    go_wp2_with (first
      | (refine wpList_load_row rfl 30 _ rfl _ rfl 30 _ _ _ HW5.out Try.underlying30 rfl (by rw [pfC_size]; exact size33) ?_)
      | (refine wpList_store_at rfl 30 _ _ rfl w1.heap.size 0 30 _ (pfC (cutD a n) N) rfl rfl HZ5.out (by rw [pfC_size]; decide) (by rw [pfC_size]; exact size33) (pfC_one _ _) ?_
         intro w6 hw6 hf6))
    rw [laidAt_all _ _ (by rw [pfC_size]; exact (rfl : zero33.size = 33))] at hw6
    refine bodyPost_ret (v := .agg (pfC (cutD a n) N)) (results_cell_row (p := 4) rfl _ _ _ _ _ _ _ rfl hw6 Try.underlying30 rfl (by rw [pfC_size]; exact size33)) rfl ?_
    exact ⟨rfl, ((HF.out.trans HF5.out (fun i hi e => e)).trans hf6 (fun i hi e => by have := HS1.out; omega)).below (fun _ _ e => e)⟩
  · have hkm : N.tmod 2 = 0 := by have := HN.out; rw [Int.tmod_eq_emod_of_nonneg (by omega)]; omega
    have HN2 : Hid (n = 2 * m) := Lib.hid (by have := HM.out; omega)
    rw [← HN2.out] at HW4
    clear hw4 hf4 F4 hx hbh hz4 hpar
    go_wp2_with (first
      | (refine wpList_load_row rfl 30 _ rfl _ rfl 30 _ _ _ HW4.out Try.underlying30 rfl (by rw [pfC_size]; exact size33) ?_)
      | (refine wpList_store_at rfl 30 _ _ rfl w1.heap.size 0 30 _ (pfC (cutD a n) N) rfl rfl HZ4.out (by rw [pfC_size]; decide) (by rw [pfC_size]; exact size33) (pfC_one _ _) ?_
         intro w6 hw6 hf6))
    rw [laidAt_all _ _ (by rw [pfC_size]; exact (rfl : zero33.size = 33))] at hw6
    refine bodyPost_ret (v := .agg (pfC (cutD a n) N)) (results_cell_row (p := 4) rfl _ _ _ _ _ _ _ rfl hw6 Try.underlying30 rfl (by rw [pfC_size]; exact size33)) rfl ?_
    exact ⟨rfl, ((HF.out.trans HF4.out (fun i hi e => e)).trans hf6 (fun i hi e => by have := HS1.out; omega)).below (fun _ _ e => e)⟩
end Go.Proofs.Ytbfbgopbelmghaa

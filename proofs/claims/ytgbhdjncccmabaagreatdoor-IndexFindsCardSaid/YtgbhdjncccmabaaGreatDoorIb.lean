/- What is proved: what the walks of this seat need of layers below, merged out of the texts Z33 Oif Oic Oig Oih Oii (of each just what is needed). Conditions: each theorem names its own. -/
import Derived.Lib.Strings
import Derived.Lib.Walk
import Derived.Deep.DeepFit
import Derived.WalkSpells
import Derived.WalkLawsBesides
import Derived.Lib.BytesEntry
import Derived.Test.YtgbhdjncccmabaaGreatDoorDas
import Derived.Test.YtgbhdjncccmabaaGreatDoorDb
import Derived.Test.YtgbhdjncccmabaaGreatDoorDba
import Derived.Test.YtgbhdjncccmabaaGreatDoorBq
import Derived.Test.YtgbhdjncccmabaaGreatDoorIa
set_option maxRecDepth 100000
/- What is proved: the cells of a beginning of ids that is not made. Conditions: none. -/
namespace Go.Proofs.YtgbhdjncccmabaaGreatDoor
open Go.RowKit
set_option linter.unusedVariables false
def zero33 : Array Value := (List.replicate 32 (Value.int .u8 0) ++ [Value.int .i64 0]).toArray
theorem size33 : (Tryz.prog.info? 26).map (·.size) = some 33 := by kernel_rfl
theorem idC_set (D E : Nat → Nat) (i : Nat) (hi : i < 32) (v : Int) (h : ∀ j, j < 32 → j ≠ i → byt D j = byt E j) (hv : v = (byt E i : Nat)) : (idC D).setIfInBounds i (.int .u8 v) = idC E := by
  apply Array.ext_getElem?
  intro j
  rw [Array.getElem?_setIfInBounds]
  split
  · rename_i e
    subst e
    rw [if_pos (by rw [idC_size]; exact hi), idC_get E i hi, hv]
    rfl
  · rcases Nat.lt_or_ge j 32 with hj | hj
    · rw [idC_get D j hj, idC_get E j hj, cellD, cellD, h j hj (by omega)]
    · rw [Array.getElem?_eq_none (by rw [idC_size]; exact hj), Array.getElem?_eq_none (by rw [idC_size]; exact hj)]
theorem pfC_set (D E : Nat → Nat) (N : Int) (i : Nat) (hi : i < 32) (v : Int) (h : ∀ j, j < 32 → j ≠ i → byt D j = byt E j) (hv : v = (byt E i : Nat)) : (pfC D N).setIfInBounds i (.int .u8 v) = pfC E N := by
  rw [pfC, Array.setIfInBounds_append_left (by rw [idC_size]; exact hi), idC_set D E i hi v h hv]; rfl
end Go.Proofs.YtgbhdjncccmabaaGreatDoor
/- What is proved: an id's first digits and noughts behind them, by the program. Conditions: none. -/
namespace Go.Proofs.YtgbhdjncccmabaaGreatDoor
open Go.RowKit
set_option linter.unusedVariables false
/-- A copy into the head of a row out of a row, as a step of a region that draws its order. -/
theorem step_copy_to {P : Program} {ops : Array Oper} {o : Oper} {a : Act} {w : World} {K : Act → World → Prop} {Q : Exit → Act → World → Prop} {E : Prop} (hgd : o.guard = none) (d s : Operand) (dT sT : TypeId)
    (ho : o.op = .call { callee := .builtin .copy, args := #[d, s], argTypes := #[dT, sT] }) (elem : TypeId) (hu : P.underlying dT = some (.slice elem)) (hsz : (P.info? elem).map (·.size) = some 1)
    (g off dLen dCap b f : Nat) (sLen sCap : Nat) (hd : a.eval d = .slice (some ⟨g, off, none⟩) dLen dCap) (hs : a.eval s = .slice (some ⟨b, f, none⟩) sLen sCap)
    (cur : Array Value) (t : TypeId) (hg : Whole w g t cur) (cs : List Value) (hn : cs.length = Nat.min sLen dLen) (hc : ∀ j v, cs[j]? = some v → w.cell? ⟨b, f + j, none⟩ = some v)
    (hfit : off + cs.length ≤ cur.size) (h1 : ∀ v ∈ cs, v.oneCell' = true)
    (h : ∀ w', Whole w' g t (splice cur.toList off cs).toArray → Fr (fun k => k = g) w w' → K (a.put o.dst (goInt cs.length)) w') :
    if Region.wanted o (yielded ops a.tmps) = true then Oper.wp P o a w K Q else E := by
  have hw : Region.wanted o (yielded ops a.tmps) = true := by simp [Region.wanted, hgd]
  rw [if_pos hw]
  have hrun := run_copy_row (P := P) w dT sT o.type elem g off dLen dCap ⟨b, f, none⟩ sLen sCap cur t cs hu hsz hg hn (fun j v hv => by rw [add_off]; exact hc j v hv) hfit h1
  unfold Oper.wp
  simp [execOp, ho, resolve, invoke, builtin, hd, hs, hrun, Result.andThen]
  exact h _ (by simpa [splice] using hg.laid _) (by simpa [splice] using Fr.laid w g _)
theorem arrLen : Tryz.prog.arrayLen 24 = 32 := by kernel_rfl
theorem arrTy : Tryz.prog.underlying 24 = some (.array (Tryz.prog.arrayLen 24) (Tryz.prog.elem 24)) := by kernel_rfl
theorem slice_head (g m : Nat) (hm : m ≤ 32) (w : World) : (Instr.sliceAt 24 (.pointer (some ⟨g, 0, none⟩)) none (some (.int .i64 m)) none).run Tryz.prog w = .ok (.slice (some ⟨g, 0, none⟩) m 32) w := by
  have hs : (sizeOf (Tryz.prog.elem 24)).run Tryz.prog w = .ok 1 w := by kernel_rfl
  have h := run_sliceAt_array_h (P := Tryz.prog) w 24 ⟨g, 0, none⟩ arrTy .i64 (m : Int) (by omega) (by rw [arrLen]; omega)
  rw [h, hs, arrLen]
  simp [slicedAt, add_off]
theorem slice_allI (g : Nat) (w : World) : (Instr.sliceAt 24 (.pointer (some ⟨g, 0, none⟩)) none none none).run Tryz.prog w = .ok (.slice (some ⟨g, 0, none⟩) 32 32) w := by
  have hs : (sizeOf (Tryz.prog.elem 24)).run Tryz.prog w = .ok 1 w := by kernel_rfl
  have h := run_sliceAt_array_all (P := Tryz.prog) w 24 ⟨g, 0, none⟩ arrTy
  rw [h, hs, arrLen]
  simp [slicedAt, add_off]
theorem splice_cut (a m : Nat) (N : Int) (hm : m ≤ 32) : (splice (pfC (fun _ => 0) N).toList 0 ((idC (dgt a)).toList.take m)).toArray = pfC (cutD a (2 * m)) N := by
  apply Array.toList_inj.1
  apply List.ext_getElem?
  intro i
  have hl : ((idC (dgt a)).toList.take m).length = m := by rw [List.length_take, Array.length_toList, idC_size]; omega
  simp only [splice, List.take_zero, List.nil_append, Nat.zero_add, hl]
  by_cases hi : i < m
  · rw [List.getElem?_append_left (by omega), List.getElem?_take, if_pos hi, Array.getElem?_toList, Array.getElem?_toList, idC_get _ i (by omega), pfC_get _ _ i (by omega), cellD, cellD, byt, byt, cutD, cutD, if_pos (by omega), if_pos (by omega)]
  · rw [List.getElem?_append_right (by omega), hl, List.getElem?_drop, show m + (i - m) = i by omega, Array.getElem?_toList, Array.getElem?_toList]
    by_cases h32 : i < 32
    · rw [pfC_get _ _ i h32, pfC_get _ _ i h32, cellD, cellD, byt, byt, cutD, cutD, if_neg (by omega), if_neg (by omega)]
    · rcases (by omega : i = 32 ∨ 33 ≤ i) with rfl | h
      · rw [pfC_N, pfC_N]
      · rw [Array.getElem?_eq_none (by rw [pfC_size]; exact h), Array.getElem?_eq_none (by rw [pfC_size]; exact h)]
theorem cutD_other (a m j : Nat) (h : j ≠ m) : byt (cutD a (2 * m)) j = byt (cutD a (2 * m + 1)) j := by
  unfold byt cutD
  congr 1
  · congr 1
    by_cases h1 : 2 * j < 2 * m
    · rw [if_pos h1, if_pos (by omega)]
    · rw [if_neg h1, if_neg (by omega)]
  · by_cases h1 : 2 * j + 1 < 2 * m
    · rw [if_pos h1, if_pos (by omega)]
    · rw [if_neg h1, if_neg (by omega)]
theorem cutD_at (a m : Nat) : byt (cutD a (2 * m + 1)) m = 16 * dgt a (2 * m) := by
  unfold byt cutD
  rw [if_pos (by omega), if_neg (by omega)]; rfl
set_option maxRecDepth 100000 in
theorem andNot15 (x : Nat) (hx : x < 256) : bits .andNot .u8 (x : Int) 15 = (16 * (x / 16) : Nat) := by
  have h := u8_andNot_nat x 15 hx (by decide)
  rw [show ((15 : Nat) : Int) = 15 from rfl] at h
  rw [h]
  congr 1
  have h : ∀ x, x < 256 → x &&& (255 - 15) = 16 * (x / 16) := by decide
  exact h x hx
set_option maxHeartbeats 1600000 in
theorem Ofirst_any (a n : Nat) (hn : n ≤ 64) (w : World) : Calls Tryz.prog 83 #[.agg (idC (dgt a)), .int .i64 n] w fun e w' => e = .returned (.agg (pfC (cutD a n) n)) ∧ Below w.heap.size w w' := by
  obtain ⟨w1, hw1⟩ : ∃ w1, w.alloc (.cells (idC (dgt a)) 24) = w1 := ⟨_, rfl⟩
  obtain ⟨w2, hw2⟩ : ∃ w2, w1.alloc (.cells zero33 26) = w2 := ⟨_, rfl⟩
  have hF : Fr (fun _ => False) w w1 := by subst hw1; exact (Fr.refl _ w).alloc _
  have hS : Whole w1 w.heap.size 24 (idC (dgt a)) := by subst hw1; exact Whole.new w 24 _
  have hs1 : w1.heap.size = w.heap.size + 1 := by subst hw1; simp
  have hZ : Whole w2 w1.heap.size 26 zero33 := by subst hw2; exact Whole.new w1 26 zero33
  have hF2 : Fr (fun _ => False) w1 w2 := by subst hw2; exact (Fr.refl _ w1).alloc _
  have hs2 : w2.heap.size = w1.heap.size + 1 := by subst hw2; simp
  have HF := Lib.hid hF
  have HS := Lib.hid hS
  have HS1 := Lib.hid hs1
  have HS2 := Lib.hid hs2
  have HZ := Lib.hid hZ
  have HF2 := Lib.hid hF2
  obtain ⟨cw, hcw⟩ : ∃ cw, idC (dgt a) = cw := ⟨_, rfl⟩
  have hcs : cw.size = 32 := by rw [← hcw]; exact idC_size _
  rw [hcw] at hw1 ⊢
  have HCW := Lib.hid hcw
  unfold zero33 at hw2
  simp [List.replicate] at hw2
  obtain ⟨m, hm⟩ : ∃ m, n / 2 = m := ⟨_, rfl⟩
  have hm32 : m ≤ 32 := by omega
  obtain ⟨N, hN⟩ : ∃ N : Int, (n : Int) = N := ⟨_, rfl⟩
  have hNd : N.tdiv 2 = (m : Int) := by rw [Int.tdiv_eq_ediv_of_nonneg (by omega)]; omega
  have hN0 : 0 ≤ N := by omega
  have hN64 : N ≤ 64 := by omega
  have hwm : IntKind.i64.wrap (m : Int) = m := by rw [IntKind.wrap_i64]; omega
  have HN := Lib.hid hN
  have HM := Lib.hid hm
  rw [hN]
  have i1 := fun w => slice_head w2.heap.size m hm32 w
  have i2 := fun w => slice_allI w.heap.size w
  have hl : ((idC (dgt a)).toList.take m).length = m := by rw [List.length_take, Array.length_toList, idC_size]; omega
  have HL := Lib.hid hl
  clear hF hS hs1 hs2 hZ hF2 hcw hl hN hm i2
  have i2 := fun (g : Nat) w => slice_allI g w
  go_enter Tryz.func83, Tryz.ntmps83
  go_wp2_with (refine wpList_store_at rfl 26 _ _ rfl w2.heap.size 0 26 _ (pfC (fun _ => 0) N) rfl rfl (Whole.new w2 26 zero33) (by rw [pfC_size]; decide) (by rw [pfC_size]; exact size33) (pfC_one _ _) ?_
               intro w3 hw3 hf3)
  rw [laidAt_all _ _ (by rw [pfC_size]; exact (rfl : zero33.size = 33))] at hw3
  have F3 : Fr (fun _ => False) w1 w3 := (HF2.out.alloc _).trans hf3 (fun i hi e => by have := HS2.out; omega)
  have HF3 := Lib.hid F3
  have HZ3 := Lib.hid (HZ.out.fr (((Fr.refl (fun _ => False) w2).alloc _).trans hf3 (fun i hi e => by omega)) (fun e => e))
  have HW3 := Lib.hid hw3
  clear F3 hf3 hw3 hw1 hw2
  go_region_law (refine step_copy_to (by rfl) (.tmp 11) (.tmp 12) 28 28 (by rfl) 5 Tryz.underlying28 size_u8 w2.heap.size 0 m 32 w.heap.size 0 32 32 (by rfl) (by rfl) _ 26 (HW3.out.fr ((Fr.refl (fun _ => False) w3).drew) (fun e => e)) ((idC (dgt a)).toList.take m) (by rw [HL.out]; exact (Nat.min_eq_right hm32).symm) (fun j v hv => by
      have hv2 : (idC (dgt a)).toList[j]? = some v := by
        rw [List.getElem?_take] at hv
        split at hv
        · exact hv
        · simp at hv
      rw [Nat.zero_add, ((HS.out.fr HF3.out (fun e => e)).fr ((Fr.refl (fun _ => False) w3).drew) (fun e => e)).cell]
      simpa using hv2) (by rw [HL.out, pfC_size]; omega) (fun v hv => by
      have hv2 := List.mem_of_mem_take hv
      exact (Array.all_eq_true_iff_forall_mem.1 (idC_one (dgt a))) v (by simpa using hv2)) ?_; intro w4 hw4 hf4)
  rw [splice_cut a m N hm32] at hw4
  have F4 : Fr (fun _ => False) w1 w4 := HF3.out.drew.trans hf4 (fun i hi e => by have := HS2.out; omega)
  have HF4 := Lib.hid F4
  have HW4 := Lib.hid hw4
  have hb := byt_lt _ (dgt_lt a) m
  have hbh := byt_hi _ (dgt_lt a) m
  obtain ⟨x, hx⟩ : ∃ x : Nat, byt (dgt a) m = x := ⟨_, rfl⟩
  rw [hx] at hb hbh
  have hz4 : Whole w4 w1.heap.size 26 zero33 := by
    have h3 : Whole w3 w1.heap.size 26 zero33 := HZ3.out
    exact (h3.fr ((Fr.refl (fun _ => False) w3).drew) (fun e => e)).fr hf4 (by have := HS2.out; show ¬ w1.heap.size = w2.heap.size; omega)
  have HZ4 := Lib.hid hz4
  by_cases hpar : n % 2 = 1
  · have hkm : N.tmod 2 = 1 := by have := HN.out; rw [Int.tmod_eq_emod_of_nonneg (by omega)]; omega
    have hm31 : m < 32 := by have := HM.out; omega
    have c1 : w4.cell? ⟨w.heap.size, m, none⟩ = some (.int .u8 (x : Nat)) := by rw [(HS.out.fr F4 (fun e => e)).cell, idC_get _ m hm31, ← hx]; rfl
    have hao := andNot15 x hb
    obtain ⟨X, hX⟩ : ∃ X : Int, ((x : Nat) : Int) = X := ⟨_, rfl⟩
    obtain ⟨Y, hY⟩ : ∃ Y : Int, ((16 * (x / 16) : Nat) : Int) = Y := ⟨_, rfl⟩
    rw [hX] at c1 hao
    rw [hY] at hao
    have c2 : w4.cell? ⟨w2.heap.size, m, none⟩ = some (cellD (cutD a (2 * m)) m) := by rw [hw4.cell, pfC_get _ _ m hm31]
    obtain ⟨u, hu⟩ : ∃ u, cellD (cutD a (2 * m)) m = .int .u8 u := ⟨_, rfl⟩
    rw [hu] at c2
    have f2 := hw4.frozen m
    have hX0 : 0 ≤ X := by omega
    have hX1 : X < 256 := by omega
    have HY : Hid (Y = (byt (cutD a (2 * m + 1)) m : Nat)) := Lib.hid (by rw [cutD_at]; omega)
    have HN2 : Hid (n = 2 * m + 1) := Lib.hid (by have := HM.out; omega)
    have hw5 := hw4.set m (.int .u8 Y)
    rw [pfC_set _ (cutD a (2 * m + 1)) _ m hm31 Y (fun j _ hj => cutD_other a m j hj) HY.out, ← HN2.out] at hw5
    have HW5 := Lib.hid hw5
    have F5 : Fr (fun _ => False) w1 (w4.setCell ⟨w2.heap.size, m, none⟩ (.int .u8 Y)) := F4.setCell (fun e => absurd e (by have := HS2.out; show ¬ w2.heap.size < w1.heap.size; omega)) _
    have HF5 := Lib.hid F5
    have hz5 : Whole (w4.setCell ⟨w2.heap.size, m, none⟩ (.int .u8 Y)) w1.heap.size 26 zero33 := hz4.fr ((Fr.refl (fun j => j = w2.heap.size) w4).setCell (p := ⟨w2.heap.size, m, none⟩) (fun _ => rfl) _) (by have := HS2.out; show ¬ w1.heap.size = w2.heap.size; omega)
    have HZ5 := Lib.hid hz5
    clear hw4 hf4 F4 hx hbh hX hY hu hw5 F5 hz5 hz4 hpar
    go_wp2_with (first
      | (refine wpList_load_row rfl 26 _ rfl _ rfl 26 _ _ _ HW5.out Tryz.underlying26 rfl (by rw [pfC_size]; exact size33) ?_)
      | (refine wpList_store_at rfl 26 _ _ rfl w1.heap.size 0 26 _ (pfC (cutD a n) N) rfl rfl HZ5.out (by rw [pfC_size]; decide) (by rw [pfC_size]; exact size33) (pfC_one _ _) ?_
         intro w6 hw6 hf6))
    rw [laidAt_all _ _ (by rw [pfC_size]; exact (rfl : zero33.size = 33))] at hw6
    refine bodyPost_ret (v := .agg (pfC (cutD a n) N)) (results_cell_row (p := 4) rfl _ _ _ _ _ _ _ rfl hw6 Tryz.underlying26 rfl (by rw [pfC_size]; exact size33)) rfl ?_
    exact ⟨rfl, ((HF.out.trans HF5.out (fun i hi e => e)).trans hf6 (fun i hi e => by have := HS1.out; omega)).below (fun _ _ e => e)⟩
  · have hkm : N.tmod 2 = 0 := by have := HN.out; rw [Int.tmod_eq_emod_of_nonneg (by omega)]; omega
    have HN2 : Hid (n = 2 * m) := Lib.hid (by have := HM.out; omega)
    rw [← HN2.out] at HW4
    clear hw4 hf4 F4 hx hbh hz4 hpar
    go_wp2_with (first
      | (refine wpList_load_row rfl 26 _ rfl _ rfl 26 _ _ _ HW4.out Tryz.underlying26 rfl (by rw [pfC_size]; exact size33) ?_)
      | (refine wpList_store_at rfl 26 _ _ rfl w1.heap.size 0 26 _ (pfC (cutD a n) N) rfl rfl HZ4.out (by rw [pfC_size]; decide) (by rw [pfC_size]; exact size33) (pfC_one _ _) ?_
         intro w6 hw6 hf6))
    rw [laidAt_all _ _ (by rw [pfC_size]; exact (rfl : zero33.size = 33))] at hw6
    refine bodyPost_ret (v := .agg (pfC (cutD a n) N)) (results_cell_row (p := 4) rfl _ _ _ _ _ _ _ rfl hw6 Tryz.underlying26 rfl (by rw [pfC_size]; exact size33)) rfl ?_
    exact ⟨rfl, ((HF.out.trans HF4.out (fun i hi e => e)).trans hf6 (fun i hi e => by have := HS1.out; omega)).below (fun _ _ e => e)⟩
end Go.Proofs.YtgbhdjncccmabaaGreatDoor
/- What is proved: what a digit is worth, by the program and by the document; an id's digits; its text. Conditions: none. -/
namespace Go.Proofs.YtgbhdjncccmabaaGreatDoor
open Go.RowKit
set_option linter.unusedVariables false
/-! An id's digits. -/
def digV (D : Nat → Nat) (m : Nat) : List Value := (List.range m).map fun k => .int .i64 (D k : Nat)
theorem digV_len (D : Nat → Nat) (m : Nat) : (digV D m).length = m := by simp [digV]
theorem digV_succ (D : Nat → Nat) (m : Nat) : digV D (m + 1) = digV D m ++ [.int .i64 (D m : Nat)] := by simp [digV, List.range_succ]
theorem digV_get (D : Nat → Nat) (m k : Nat) (h : k < m) : (digV D m)[k]? = some (.int .i64 (D k : Nat)) := by simp [digV, h]
theorem info_int : (Tryz.prog.info? 3).map (fun i => (i.zero, i.size, i.bytes)) = some (some (.int .i64 0), 1, 8) := by kernel_rfl
/-- One cell that the call has just laid, as a source. -/
theorem src_oneD {tx e' : TypeId} (hk : Tryz.prog.underlying tx = some (.slice e')) (w : World) (c : Value) (hc : c.oneCell' = true) : Src Tryz.prog 1 tx (.slice (some ⟨w.heap.size, 0, none⟩) 1 1) 1 [c] (w.alloc (.cells #[c] e')) :=
  Src.ofSlice _ hk ⟨w.heap.size, 0, none⟩ 1 1 [c] rfl (by intro j u hj; match j, hj with | 0, hj => simp at hj; subst hj; simp [Addr.add]) (by intro u hu; simp at hu; subst hu; exact hc)
/-- What stands at the head of a round of Digits. -/
def DgRel (w w1 : World) (D : Nat → Nat) (v : Value) (m : Nat) (wr : World) : Prop := wr.ownsRow w1.heap.size 3 1 v m (digV D m) ∧ Fr (fun _ => False) w1 wr
set_option maxHeartbeats 1600000 in
theorem QDigits_any (D : Nat → Nat) (hD : ∀ k, D k < 16) (w : World) : Calls Tryz.prog 61 #[.agg (idC D)] w fun e w' => ∃ A c, e = .returned (.slice A 64 c) ∧ 64 ≤ c ∧ Lies w' A (digV D 64) ∧ Below w.heap.size w w' := by
  obtain ⟨i0, hi, hz0, hz1, hz2⟩ := info_parts info_int
  obtain ⟨w1, hw1⟩ : ∃ w1, w.alloc (.cells (idC D) 24) = w1 := ⟨_, rfl⟩
  have hF : Fr (fun _ => False) w w1 := by subst hw1; exact (Fr.refl _ w).alloc _
  have hS : Whole w1 w.heap.size 24 (idC D) := by subst hw1; exact Whole.new w 24 _
  have HF := Lib.hid hF
  have HS := Lib.hid hS
  have HD := Lib.hid hD
  obtain ⟨cw, hcw⟩ : ∃ cw, idC D = cw := ⟨_, rfl⟩
  rw [hcw] at hw1 ⊢
  clear hF hS hcw hD
  go_enter Tryz.func61, Tryz.ntmps61
  go_wp2
  clear hw1
  go_loopw [3, 4] (fun v i wr => ∃ k : Nat, k ≤ 32 ∧ i = .int .i64 k ∧ DgRel w w1 D v (2 * k) wr) (fun _ i _ => 32 - (intOf i).toNat)
  case atStart => exact ⟨0, by omega, rfl, World.ownsRow_nil w1 w1.heap.size 3 1, Fr.refl _ _⟩
  case round =>
    obtain ⟨k, hk, rfl, hr⟩ := hrel
    obtain ⟨A, c, hv, hnc, hcm⟩ := own_slice hr.1
    subst hv
    have HR := Lib.hid hr
    clear hr
    by_cases hlt : k < 32
    · have c0 : ∀ w', Fr (fun _ => False) w1 w' → w'.cell? ⟨w.heap.size, k, none⟩ = some (.int .u8 (byt D k : Nat)) := fun w' f => by
        rw [(HS.out.fr f (fun e => e)).cell, idC_get D k hlt]; rfl
      have hb := byt_lt D HD.out k
      have hh := byt_hi D HD.out k
      have hl := byt_low D HD.out k
      obtain ⟨x, hx⟩ : ∃ x : Nat, byt D k = x := ⟨_, rfl⟩
      rw [hx] at c0 hb hh hl
      obtain ⟨y, hy⟩ : ∃ y : Int, ((x : Nat) : Int) = y := ⟨_, rfl⟩
      rw [hy] at c0
      have c1 := c0 wr HR.out.2
      have C0 := Lib.hid c0
      clear c0
      have hy0 : 0 ≤ y := by omega
      have hy1 : y < 256 := by omega
      have HH : Hid ((D (2 * k) : Nat) = y / 16) := Lib.hid (by omega)
      have HL : Hid ((D (2 * k + 1) : Nat) = y % 16) := Lib.hid (by omega)
      clear hx hy hb hh hl
      go_wp2_with (first
        | (have _ := M1
           at_builtin; refine wpList_append_row _ rfl (.tmp 17) (.tmp 23) 120 120 rfl w1.heap.size 3 i0 (.int .i64 0) 1 8 Tryz.underlying120 hi hz0 hz1 hz2 rfl _ (2 * k + 1) _ rfl ((O1.out.1).alloc _) _ 1 [.int .i64 (y % 16)] rfl (src_oneD Tryz.underlying120 _ _ rfl) (by unfold maxLen; omega) (by omega) (by have := O1.out.2.size; simp; omega) ?_
           intro v2 w3 o2 g2 at2)
        | (at_builtin; refine wpList_append_row _ rfl (.tmp 9) (.tmp 15) 120 120 rfl w1.heap.size 3 i0 (.int .i64 0) 1 8 Tryz.underlying120 hi hz0 hz1 hz2 rfl _ (2 * k) _ rfl ((HR.out.1).alloc _) _ 1 [.int .i64 (y / 16)] rfl (src_oneD Tryz.underlying120 _ _ rfl) (by unfold maxLen; omega) (by omega) (by have := HR.out.2.size; simp; omega) ?_
           intro v1 w2 o1 g1 at1
           have M1 := True.intro
           have n1 : DgRel w w1 D v1 (2 * k + 1) w2 := ⟨by rw [digV_succ, HH.out]; exact o1, fr_append (HR.out.1.alloc _) (HR.out.2.alloc _) g1⟩
           have c2 := C0.out w2 n1.2
           have O1 := Lib.hid n1
           clear n1 o1 g1 at1))
      have n2 : DgRel w w1 D v2 (2 * (k + 1)) w3 := ⟨by rw [show 2 * (k + 1) = 2 * k + 1 + 1 by omega, digV_succ, HL.out]; exact o2, fr_append (O1.out.1.alloc _) (O1.out.2.alloc _) g2⟩
      have N2 := Lib.hid n2
      clear n2 o2 g2 at2
      go_wp2_with fail
      go_roundw
      case rel => exact ⟨k + 1, by omega, by go_num, N2.out⟩
      case measure => simp [intOf]; omega
    · obtain rfl : k = 32 := by omega
      go_wp2_with fail
      go_ret
      exact ⟨A, c, rfl, hnc, Lies.of_own HR.out.1, (HF.out.trans HR.out.2 (fun _ _ e => e)).below (fun _ _ e => e)⟩
end Go.Proofs.YtgbhdjncccmabaaGreatDoor
/- What is proved: whether a beginning is right, and whether an id fits, by the program. Conditions: none. -/
namespace Go.Proofs.YtgbhdjncccmabaaGreatDoor
open Go.RowKit
set_option linter.unusedVariables false
/-- A beginning of N digits is right. -/
def rightB (a : Nat) (N : Int) : Bool := decide (0 ≤ N ∧ N ≤ 64 ∧ RightN a N.toNat)
/-- An id fits it. -/
def fitB (a : Nat) (N : Int) (x : Nat) : Bool := decide (0 ≤ N ∧ N ≤ 64 ∧ FitN a N.toNat x)
theorem rightB_low (a : Nat) (N : Int) (h : N < 0) : rightB a N = false := by
  rw [rightB, decide_eq_false_iff_not]; omega
theorem rightB_high (a : Nat) (N : Int) (h : 64 < N) : rightB a N = false := by
  rw [rightB, decide_eq_false_iff_not]; omega
theorem rightB_mid (a n : Nat) (ha : a < big) (h : n ≤ 64) : rightB a n = sameD (dgt a) (cutD a n) := by
  rw [Bool.eq_iff_iff, rightB, decide_eq_true_eq, Int.toNat_natCast, right_iff_cut a n ha h, sameD_iff _ _ (dgt_lt a) (cutD_lt a n)]
  constructor
  · intro h; exact h.2.2
  · intro h; exact ⟨by omega, by omega, h⟩
theorem fitB_not (a : Nat) (N : Int) (x : Nat) (h : rightB a N = false) : fitB a N x = false := by
  rw [rightB, decide_eq_false_iff_not] at h
  rw [fitB, decide_eq_false_iff_not]
  intro h2
  exact h ⟨h2.1, h2.2.1, h2.2.2.1⟩
theorem rightB_range {a : Nat} {N : Int} (h : rightB a N = true) : 0 ≤ N ∧ N ≤ 64 ∧ RightN a N.toNat := by
  rw [rightB, decide_eq_true_eq] at h; exact h
theorem fitB_mid (a n x : Nat) (ha : a < big) (hx : x < big) (h : n ≤ 64) (hr : rightB a n = true) : fitB a n x = sameD (dgt a) (cutD x n) := by
  have hr' := (rightB_range hr).2.2
  rw [Int.toNat_natCast] at hr'
  rw [Bool.eq_iff_iff, fitB, decide_eq_true_eq, Int.toNat_natCast, sameD_iff _ _ (dgt_lt a) (cutD_lt x n), ← fit_iff_cut a n x ha hx h hr']
  constructor
  · intro h; exact h.2.2.2
  · intro h; exact ⟨by omega, by omega, hr', h⟩
theorem eq_pfx (a x : Nat) (N : Int) (n : Nat) (w : World) : (Op.equalIn 10000 26 (.agg (pfC (dgt a) N)) (.agg (pfC (cutD x n) N))).run Tryz.prog w = .ok (sameD (dgt a) (cutD x n)) w := by
  rw [eq_pfxs _ _ (dgt_lt a) (cutD_lt x n) N N 10000 (by decide) w]
  simp
theorem guardP : Tryz.prog.eqGuardType Tryz.prog.depth 26 = false := by kernel_rfl
theorem guardI : Tryz.prog.eqGuardType Tryz.prog.depth 24 = false := by kernel_rfl
/-- A row's first cells, as a load reads them. -/
theorem load_first {w w' : World} {g n : Nat} {t : TypeId} {Z : Array Value} (h : Whole w' g t Z) (f : Fr (fun _ => False) w' w) (hn : n ≤ Z.size) : (loadCellsFrom ⟨g, 0, none⟩ 0 n #[]).run Tryz.prog w = .ok (Z.toList.take n).toArray w := by
  have k := h.fr f (fun e => e)
  have h2 := run_loadCells_list (P := Tryz.prog) w ⟨g, 0, none⟩ (Z.toList.take n) (fun j v hv => by
    rw [add_off, Nat.zero_add, k.cell]
    rw [List.getElem?_take] at hv
    split at hv
    · simpa using hv
    · simp at hv)
  rw [List.length_take, Array.length_toList, Nat.min_eq_left hn] at h2
  simpa [loadCells] using h2
set_option maxHeartbeats 3200000 in
theorem ORight_any (a : Nat) (ha : a < big) (N : Int) (h0 : -9223372036854775808 ≤ N) (h1 : N ≤ 9223372036854775807) (w : World) : Calls Tryz.prog 55 #[.agg (pfC (dgt a) N)] w fun e w' => e = .returned (.bool (rightB a N)) ∧ Below w.heap.size w w' := by
  obtain ⟨w1, hw1⟩ : ∃ w1, w.alloc (.cells (pfC (dgt a) N) 26) = w1 := ⟨_, rfl⟩
  have hF : Fr (fun _ => False) w w1 := by subst hw1; exact (Fr.refl _ w).alloc _
  have hS : Whole w1 w.heap.size 26 (pfC (dgt a) N) := by subst hw1; exact Whole.new w 26 _
  have HF := Lib.hid hF
  have HS := Lib.hid hS
  have c32 : w1.cell? ⟨w.heap.size, 32, none⟩ = some (.int .i64 N) := by rw [hS.cell, pfC_N]
  obtain ⟨cp, hcp⟩ : ∃ cp, pfC (dgt a) N = cp := ⟨_, rfl⟩
  rw [hcp] at hw1 hS ⊢
  by_cases hneg : N < 0
  · rw [rightB_low a N hneg]
    have hd0 : decide (0 ≤ N) = false := decide_eq_false (by omega)
    clear hS hF hcp
    go_enter Tryz.func55, Tryz.ntmps55
    go_wp2_with fail
    go_region
    all_goals go_wp2_with fail
    all_goals go_ret
    all_goals exact ⟨rfl, HF.out.drew.below (fun _ _ e => e)⟩
  · by_cases hbig : 64 < N
    · rw [rightB_high a N hbig]
      have hd0 : decide (0 ≤ N) = true := decide_eq_true (by omega)
      have hd1 : decide (N ≤ 64) = false := decide_eq_false (by omega)
      clear hS hF hcp
      go_enter Tryz.func55, Tryz.ntmps55
      go_wp2_with fail
      go_region
      all_goals go_wp2_with fail
      all_goals go_ret
      all_goals exact ⟨rfl, HF.out.drew.below (fun _ _ e => e)⟩
    · obtain ⟨n, hn⟩ : ∃ n : Nat, N = n := ⟨N.toNat, by omega⟩
      have hn64 : n ≤ 64 := by omega
      have hb : rightB a N = sameD (dgt a) (cutD a n) := by rw [hn]; exact rightB_mid a n ha hn64
      have heq := eq_pfx a a N n
      obtain ⟨b, hb2⟩ : ∃ b, sameD (dgt a) (cutD a n) = b := ⟨_, rfl⟩
      rw [hb2] at hb heq
      rw [hcp] at heq
      rw [hb]
      have hfst := fun w => Ofirst_any a n hn64 w
      rw [← hn] at hfst
      obtain ⟨cq, hcq⟩ : ∃ cq, pfC (cutD a n) N = cq := ⟨_, rfl⟩
      rw [hcq] at heq hfst
      obtain ⟨ci, hci⟩ : ∃ ci, idC (dgt a) = ci := ⟨_, rfl⟩
      rw [hci] at hfst
      have HFST := Lib.hid hfst
      have hl33 : ∀ w', Fr (fun _ => False) w1 w' → (loadCellsFrom ⟨w.heap.size, 0, none⟩ 0 33 #[]).run Tryz.prog w' = .ok cp w' := fun w' f => by
        have := load_first HS.out f (n := 33) (by rw [pfC_size]; omega)
        rwa [List.take_of_length_le (by rw [Array.length_toList, pfC_size]; omega), Array.toArray_toList, hcp] at this
      have hl32 : ∀ w', Fr (fun _ => False) w1 w' → (loadCellsFrom ⟨w.heap.size, 0, none⟩ 0 32 #[]).run Tryz.prog w' = .ok ci w' := fun w' f => by
        have := load_first HS.out f (n := 32) (by rw [pfC_size]; omega)
        rwa [pfC_ids, Array.toArray_toList, hci] at this
      obtain ⟨T33, hT33⟩ : ∃ T : TypeId, T = 26 := ⟨_, rfl⟩
      obtain ⟨T32, hT32⟩ : ∃ T : TypeId, T = 24 := ⟨_, rfl⟩
      obtain ⟨n33, hn33⟩ : ∃ n : Nat, 33 = n := ⟨_, rfl⟩
      obtain ⟨n32, hn32⟩ : ∃ n : Nat, 32 = n := ⟨_, rfl⟩
      have ag33 : ∀ w, (isAgg T33).run Tryz.prog w = .ok true w := by rw [hT33]; exact fun _ => by kernel_rfl
      have ag32 : ∀ w, (isAgg T32).run Tryz.prog w = .ok true w := by rw [hT32]; exact fun _ => by kernel_rfl
      have sz33 : ∀ w, (sizeOf T33).run Tryz.prog w = .ok n33 w := by rw [hT33, ← hn33]; exact fun _ => by kernel_rfl
      have sz32 : ∀ w, (sizeOf T32).run Tryz.prog w = .ok n32 w := by rw [hT32, ← hn32]; exact fun _ => by kernel_rfl
      rw [hn33] at hl33
      rw [hn32] at hl32
      have HL33 := Lib.hid hl33
      have HL32 := Lib.hid hl32
      have l1 := hl33 w1.drew ((Fr.refl _ w1).drew)
      have l2 := hl32 w1.drew ((Fr.refl _ w1).drew)
      have hgp := guardP
      clear hS hF hcp hb hb2 hcq hci hn hfst hl33 hl32 hn33 hn32
      go_enter Tryz.func55, Tryz.ntmps55
      go_wp2_with fail
      rw [show Op.load 26 (.tmp 1) = Op.load T33 (.tmp 1) by rw [hT33], show Op.load 24 (.tmp 13) = Op.load T32 (.tmp 13) by rw [hT32]]
      clear hT33 hT32
      go_region_law (first
        | (go_simp; go_at_call 83
           refine (HFST.out _).mono ?_
           rintro e w3 ⟨rfl, b3⟩
           have F3 := ((Fr.refl (fun _ => False) w1).drew).then_below b3
           have l3 := HL33.out w3 F3))
      all_goals
        go_wp2_with fail
        go_ret
        exact ⟨rfl, (HF.out.trans F3 (fun _ _ e => e)).below (fun _ _ e => e)⟩
set_option maxHeartbeats 3200000 in
theorem OFits_any (a x : Nat) (ha : a < big) (hx : x < big) (N : Int) (h0 : -9223372036854775808 ≤ N) (h1 : N ≤ 9223372036854775807) (w : World) : Calls Tryz.prog 59 #[.agg (pfC (dgt a) N), .agg (idC (dgt x))] w fun e w' => e = .returned (.bool (fitB a N x)) ∧ Below w.heap.size w w' := by
  obtain ⟨w1, hw1⟩ : ∃ w1, w.alloc (.cells (pfC (dgt a) N) 26) = w1 := ⟨_, rfl⟩
  obtain ⟨w2, hw2⟩ : ∃ w2, w1.alloc (.cells (idC (dgt x)) 24) = w2 := ⟨_, rfl⟩
  have hF1 : Fr (fun _ => False) w w1 := by subst hw1; exact (Fr.refl _ w).alloc _
  have hF2 : Fr (fun _ => False) w1 w2 := by subst hw2; exact (Fr.refl _ w1).alloc _
  have hF := hF1.trans hF2 (fun _ _ e => e)
  have hS1 : Whole w1 w.heap.size 26 (pfC (dgt a) N) := by subst hw1; exact Whole.new w 26 _
  have hS := hS1.fr hF2 (fun e => e)
  have hX : Whole w2 w1.heap.size 24 (idC (dgt x)) := by subst hw2; exact Whole.new w1 24 _
  have c32 : ∀ w', Fr (fun _ => False) w2 w' → w'.cell? ⟨w.heap.size, 32, none⟩ = some (.int .i64 N) := fun w' f => by rw [(hS.fr f (fun e => e)).cell, pfC_N]
  have hR := fun w => ORight_any a ha N h0 h1 w
  have hl33 : ∀ w', Fr (fun _ => False) w2 w' → (loadCellsFrom ⟨w.heap.size, 0, none⟩ 0 33 #[]).run Tryz.prog w' = .ok (pfC (dgt a) N) w' := fun w' f => by
    have := load_first hS f (n := 33) (by rw [pfC_size]; omega)
    rwa [List.take_of_length_le (by rw [Array.length_toList, pfC_size]; omega), Array.toArray_toList] at this
  have hl32 : ∀ w', Fr (fun _ => False) w2 w' → (loadCellsFrom ⟨w1.heap.size, 0, none⟩ 0 32 #[]).run Tryz.prog w' = .ok (idC (dgt x)) w' := fun w' f => by
    have := load_first hX f (n := 32) (by rw [idC_size]; omega)
    rwa [List.take_of_length_le (by rw [Array.length_toList, idC_size]; omega), Array.toArray_toList] at this
  have heq0 := eq_pfx a x N
  have hfst0 := fun n hn w => Ofirst_any x n hn w
  have HF := Lib.hid hF
  obtain ⟨cp, hcp⟩ : ∃ cp, pfC (dgt a) N = cp := ⟨_, rfl⟩
  obtain ⟨ci, hci⟩ : ∃ ci, idC (dgt x) = ci := ⟨_, rfl⟩
  rw [hcp] at hw1 hR hl33 heq0 ⊢
  rw [hci] at hw2 hl32 hfst0 ⊢
  clear hcp hci hF1 hF2 hF hS1 hS hX
  obtain ⟨T33, hT33⟩ : ∃ T : TypeId, T = 26 := ⟨_, rfl⟩
  obtain ⟨T32, hT32⟩ : ∃ T : TypeId, T = 24 := ⟨_, rfl⟩
  obtain ⟨n33, hn33⟩ : ∃ n : Nat, 33 = n := ⟨_, rfl⟩
  obtain ⟨n32, hn32⟩ : ∃ n : Nat, 32 = n := ⟨_, rfl⟩
  have ag33 : ∀ w, (isAgg T33).run Tryz.prog w = .ok true w := by rw [hT33]; exact fun _ => by kernel_rfl
  have ag32 : ∀ w, (isAgg T32).run Tryz.prog w = .ok true w := by rw [hT32]; exact fun _ => by kernel_rfl
  have sz33 : ∀ w, (sizeOf T33).run Tryz.prog w = .ok n33 w := by rw [hT33, ← hn33]; exact fun _ => by kernel_rfl
  have sz32 : ∀ w, (sizeOf T32).run Tryz.prog w = .ok n32 w := by rw [hT32, ← hn32]; exact fun _ => by kernel_rfl
  rw [hn33] at hl33
  rw [hn32] at hl32
  have HC := Lib.hid c32
  have HL33 := Lib.hid hl33
  have HL32 := Lib.hid hl32
  have HR := Lib.hid hR
  have HEQ := Lib.hid heq0
  have HFST := Lib.hid hfst0
  have l1 := hl33 w2.drew ((Fr.refl _ w2).drew)
  have hgp := guardP
  clear c32 hl33 hl32 hR heq0 hfst0 hn33 hn32
  by_cases hr : rightB a N = true
  · obtain ⟨g1, g2, g3⟩ := rightB_range hr
    obtain ⟨n, hn⟩ : ∃ n : Nat, N = n := ⟨N.toNat, by omega⟩
    have hn64 : n ≤ 64 := by omega
    have hb : fitB a N x = sameD (dgt a) (cutD x n) := by rw [hn]; exact fitB_mid a n x ha hx hn64 (by rw [← hn]; exact hr)
    have heq := HEQ.out n
    obtain ⟨b, hb2⟩ : ∃ b, sameD (dgt a) (cutD x n) = b := ⟨_, rfl⟩
    rw [hb2] at hb heq
    rw [hb]
    rw [hr] at HR
    have hfst := HFST.out n hn64
    rw [← hn] at hfst
    obtain ⟨cq, hcq⟩ : ∃ cq, pfC (cutD x n) N = cq := ⟨_, rfl⟩
    rw [hcq] at heq hfst
    have HFS := Lib.hid hfst
    clear hb hb2 hcq hn hfst hr g1 g2 g3
    go_enter Tryz.func59, Tryz.ntmps59
    go_wp2_with fail
    rw [show Op.load 26 (.tmp 2) = Op.load T33 (.tmp 2) by rw [hT33], show Op.load 24 (.tmp 3) = Op.load T32 (.tmp 3) by rw [hT32]]
    clear hT33 hT32
    go_region_law (first
      | (go_simp; go_at_call 83
         refine (HFS.out _).mono ?_
         rintro e w4 ⟨rfl, b4⟩
         have F4 := F3.then_below b4
         have l5 := HL33.out w4 F4)
      | (go_simp; go_at_call 55
         refine (HR.out _).mono ?_
         rintro e w3 ⟨rfl, b3⟩
         have F3 := ((Fr.refl (fun _ => False) w2).drew).then_below b3
         have l2 := HL33.out w3 F3
         have l3 := HL32.out w3 F3
         have l4 := HC.out w3 F3))
    all_goals
      go_wp2_with fail
      go_ret
      exact ⟨rfl, (HF.out.trans F4 (fun _ _ e => e)).below (fun _ _ e => e)⟩
  · have hr' : rightB a N = false := by simpa using hr
    rw [fitB_not a N x hr']
    rw [hr'] at HR
    clear hr hr'
    go_enter Tryz.func59, Tryz.ntmps59
    go_wp2_with fail
    rw [show Op.load 26 (.tmp 2) = Op.load T33 (.tmp 2) by rw [hT33], show Op.load 24 (.tmp 3) = Op.load T32 (.tmp 3) by rw [hT32]]
    clear hT33 hT32
    have l3 : ∀ q : Later w2, (loadCellsFrom ⟨w.heap.size, 0, none⟩ 0 n33 #[]).run Tryz.prog q.w' = .ok cp q.w' := fun q => HL33.out q.w' q.fr
    refine wp_region_later (w0 := w2) (Fr.refl _ _) (by kernel_rfl) (by kernel_rfl) ?_
    repeat (quiet_step ((go_at_call 55; refine Calls.later_of (HR.out _))))
    refine wpQuiet_nil ?_
    intro _ hw'
    obtain ⟨q, hw''⟩ := hw'
    subst hw''
    go_wp2_with fail
    go_ret
    exact ⟨rfl, (HF.out.trans q.fr (fun _ _ e => e)).below (fun _ _ e => e)⟩
end Go.Proofs.YtgbhdjncccmabaaGreatDoor
/- What is proved: which of two ids is above, by the program and by the document. Conditions: none. -/
namespace Go.Proofs.YtgbhdjncccmabaaGreatDoor
open Go.RowKit
set_option linter.unusedVariables false
/-- An id's bytes are read. -/
theorem load_id (a g : Nat) (w : World) (h : Whole w g 24 (idC (dgt a))) (c : Nat) : (Extern.Bytes.bytesOf (.slice (some ⟨g, 0, none⟩) 32 c)).run Tryz.prog w = .ok ⟨(idB (dgt a) 0 32).toArray⟩ w := by
  have hl := Lib.run_loadBytesX (P := Tryz.prog) w ((List.range 32).map fun i => ((byt (dgt a) i : Nat) : Int)) ⟨g, 0, none⟩ .empty (fun j x hj => by
    rw [add_off, Nat.zero_add, h.cell]
    rw [List.getElem?_map] at hj
    rcases Nat.lt_or_ge j 32 with hj2 | hj2
    · rw [List.getElem?_range hj2] at hj
      simp at hj
      rw [idC_get _ j hj2, ← hj]; rfl
    · rw [List.getElem?_eq_none (by simp; omega)] at hj
      simp at hj)
  rw [List.length_map, List.length_range] at hl
  have e : (ByteArray.empty.data ++ (Lib.bytesOf ((List.range 32).map fun i => ((byt (dgt a) i : Nat) : Int))).toArray) = (idB (dgt a) 0 32).toArray := by
    simp [Lib.bytesOf, idB, List.range_eq_range', List.map_map, Function.comp_def]
  rw [e] at hl
  exact hl
set_option maxHeartbeats 1000000 in
theorem GCompare_any (a b : Nat) (ha : a < big) (hb : b < big) (ga gb c d : Nat) (w : World) (h1 : Whole w ga 24 (idC (dgt a))) (h2 : Whole w gb 24 (idC (dgt b))) :
    Calls Tryz.prog 64 #[.slice (some ⟨ga, 0, none⟩) 32 c, .slice (some ⟨gb, 0, none⟩) 32 d] w fun e w' => e = .returned (.int .i64 (cmpN a b)) ∧ w = w' := by
  have hrun : (Extern.BytealgCompare.compare #[.slice (some ⟨ga, 0, none⟩) 32 c, .slice (some ⟨gb, 0, none⟩) 32 d]).run Tryz.prog w = .ok (.int .i64 (cmpN a b)) w := by
    change Sem.run Tryz.prog (do pure (goInt (Extern.BytealgCompare.cmp (← Extern.Bytes.bytesOf (.slice (some ⟨ga, 0, none⟩) 32 c)) (← Extern.Bytes.bytesOf (.slice (some ⟨gb, 0, none⟩) 32 d))))) w = _
    simp only [Sem.run_bind, load_id a ga w h1 c, load_id b gb w h2 d, Sem.run_pure, Result.andThen]
    rw [Lib.cmp_eq, cmp_bytes a b ha hb 32 0 rfl (fun i hi => absurd hi (Nat.not_lt_zero _))]
    rfl
  have HR := Lib.hid hrun
  clear h1 h2 hrun
  go_enter Tryz.func64, Tryz.ntmps64
  go_wp2
  rw [run_callFunc_extern Tryz.func95 (by kernel_rfl) (by kernel_rfl) (by kernel_rfl) (e := Extern.BytealgCompare.compare) (by kernel_rfl), HR.out]
  simp only [Result.andThen]
  rw [Oper.upon_value]
  go_wp2
  go_ret
  exact ⟨rfl, rfl⟩
set_option maxHeartbeats 1600000 in
theorem OCompare_any (a b : Nat) (ha : a < big) (hb : b < big) (w : World) : Calls Tryz.prog 43 #[.agg (idC (dgt a)), .agg (idC (dgt b))] w fun e w' => e = .returned (.int .i64 (cmpN a b)) ∧ Below w.heap.size w w' := by
  obtain ⟨w1, hw1⟩ : ∃ w1, w.alloc (.cells (idC (dgt a)) 24) = w1 := ⟨_, rfl⟩
  obtain ⟨w2, hw2⟩ : ∃ w2, w1.alloc (.cells (idC (dgt b)) 24) = w2 := ⟨_, rfl⟩
  have hF1 : Fr (fun _ => False) w w1 := by subst hw1; exact (Fr.refl _ w).alloc _
  have hF2 : Fr (fun _ => False) w1 w2 := by subst hw2; exact (Fr.refl _ w1).alloc _
  have hA : Whole w2 w.heap.size 24 (idC (dgt a)) := by subst hw1; exact (Whole.new w 24 _).fr hF2 (fun e => e)
  have hB : Whole w2 w1.heap.size 24 (idC (dgt b)) := by subst hw2; exact Whole.new w1 24 _
  have HC := Lib.hid (fun (q : Later w2) => GCompare_any a b ha hb w.heap.size w1.heap.size 32 32 q.w' (hA.fr q.fr (fun e => e)) (hB.fr q.fr (fun e => e)))
  have HF := Lib.hid (hF1.trans hF2 (fun _ _ e => e))
  obtain ⟨ca, hca⟩ : ∃ ca, idC (dgt a) = ca := ⟨_, rfl⟩
  obtain ⟨cb, hcb⟩ : ∃ cb, idC (dgt b) = cb := ⟨_, rfl⟩
  obtain ⟨r, hr⟩ : ∃ r, cmpN a b = r := ⟨_, rfl⟩
  rw [hca] at hw1 ⊢
  rw [hcb] at hw2 ⊢
  rw [hr] at HC ⊢
  have i1 := fun (g : Nat) w => slice_allI g w
  clear hF1 hF2 hA hB hca hcb hr
  go_enter Tryz.func43, Tryz.ntmps43
  go_wp2_with fail
  refine wp_region_later (w0 := w2) (Fr.refl _ _) (by kernel_rfl) (by kernel_rfl) ?_
  repeat (quiet_step ((go_at_call 64; refine Calls.later_of_same (HC.out _))))
  refine wpQuiet_nil ?_
  intro _ hw'
  obtain ⟨q, hw''⟩ := hw'
  subst hw''
  go_wp2_with fail
  go_ret
  exact ⟨rfl, (HF.out.trans q.fr (fun _ _ e => e)).below (fun _ _ e => e)⟩
set_option maxHeartbeats 1600000 in
theorem QBelow_any (a b : Nat) (ha : a < big) (hb : b < big) (w : World) : Calls Tryz.prog 33 #[.agg (idC (dgt a)), .agg (idC (dgt b))] w fun e w' => e = .returned (.bool (decide (a < b))) ∧ Below w.heap.size w w' := by
  obtain ⟨w1, hw1⟩ : ∃ w1, w.alloc (.cells (idC (dgt a)) 24) = w1 := ⟨_, rfl⟩
  obtain ⟨w2, hw2⟩ : ∃ w2, w1.alloc (.cells (idC (dgt b)) 24) = w2 := ⟨_, rfl⟩
  have hF1 : Fr (fun _ => False) w w1 := by subst hw1; exact (Fr.refl _ w).alloc _
  have hF2 : Fr (fun _ => False) w1 w2 := by subst hw2; exact (Fr.refl _ w1).alloc _
  have hA : Whole w2 w.heap.size 24 (idC (dgt a)) := by subst hw1; exact (Whole.new w 24 _).fr hF2 (fun e => e)
  have hB : Whole w2 w1.heap.size 24 (idC (dgt b)) := by subst hw2; exact Whole.new w1 24 _
  have HA := Lib.hid hA
  have HB := Lib.hid hB
  have HF := Lib.hid (hF1.trans hF2 (fun _ _ e => e))
  obtain ⟨ca, hca⟩ : ∃ ca, idC (dgt a) = ca := ⟨_, rfl⟩
  obtain ⟨cb, hcb⟩ : ∃ cb, idC (dgt b) = cb := ⟨_, rfl⟩
  rw [hca] at hw1 ⊢
  rw [hcb] at hw2 ⊢
  clear hF1 hF2 hA hB hca hcb
  go_enter Tryz.func33, Tryz.ntmps33
  go_wp2
  clear hw1 hw2
  go_loopw [5] (fun i wr => ∃ k : Nat, k ≤ 32 ∧ i = .int .i64 k ∧ Hid (∀ j, j < k → byt (dgt a) j = byt (dgt b) j) ∧ Fr (fun _ => False) w2 wr) (fun i _ => 32 - (intOf i).toNat)
  case atStart => exact ⟨0, by omega, rfl, Lib.hid (fun j hj => by omega), Fr.refl _ _⟩
  case round =>
    obtain ⟨k, hk, rfl, hn, hf⟩ := hrel
    have HFr := Lib.hid hf
    by_cases hlt : k < 32
    · obtain ⟨x, hx⟩ : ∃ x : Int, x = (byt (dgt a) k : Nat) := ⟨_, rfl⟩
      obtain ⟨y, hy⟩ : ∃ y : Int, y = (byt (dgt b) k : Nat) := ⟨_, rfl⟩
      have c1 : ∀ q : Later wr, q.w'.cell? ⟨w.heap.size, k, none⟩ = some (.int .u8 x) := fun q => by rw [((HA.out.fr hf (fun e => e)).fr q.fr (fun e => e)).cell, idC_get _ k hlt, hx]; rfl
      have c2 : ∀ q : Later wr, q.w'.cell? ⟨w1.heap.size, k, none⟩ = some (.int .u8 y) := fun q => by rw [((HB.out.fr hf (fun e => e)).fr q.fr (fun e => e)).cell, idC_get _ k hlt, hy]; rfl
      have HX := Lib.hid hx
      have HY := Lib.hid hy
      clear hx hy hf
      by_cases hxy : x = y
      · have hne : (x != y) = false := by simpa using hxy
        clear hxy
        go_wp2_with fail
        refine wp_region_later (w0 := wr) (Fr.refl _ _) (by kernel_rfl) (by kernel_rfl) ?_
        repeat (quiet_step (fail))
        refine wpQuiet_nil ?_
        intro _ hw'
        obtain ⟨q, hw''⟩ := hw'
        subst hw''
        have HNE := Lib.hid hne
        go_wp2_with fail
        go_roundw
        case rel =>
          refine ⟨k + 1, by omega, by go_num, Lib.hid (fun j hj => ?_), HFr.out.trans q.fr (fun _ _ e => e)⟩
          rcases (by omega : j < k ∨ j = k) with h | rfl
          · exact hn.out j h
          · have e : x = y := by simpa using HNE.out
            rw [HX.out, HY.out] at e
            omega
        case measure => simp [intOf]; omega
      · have hne : (x != y) = true := by simpa using hxy
        have HXY := Lib.hid hxy
        clear hxy
        go_wp2_with fail
        refine wp_region_later (w0 := wr) (Fr.refl _ _) (by kernel_rfl) (by kernel_rfl) ?_
        repeat (quiet_step (fail))
        refine wpQuiet_nil ?_
        intro _ hw'
        obtain ⟨q, hw''⟩ := hw'
        subst hw''
        have c3 : ∀ p : Later q.w', p.w'.cell? ⟨w.heap.size, k, none⟩ = some (.int .u8 x) := fun p => c1 ⟨_, q.fr.trans p.fr (fun _ _ e => e)⟩
        have c4 : ∀ p : Later q.w', p.w'.cell? ⟨w1.heap.size, k, none⟩ = some (.int .u8 y) := fun p => c2 ⟨_, q.fr.trans p.fr (fun _ _ e => e)⟩
        clear c1 c2
        go_wp2_with fail
        refine wp_region_later (w0 := q.w') (Fr.refl _ _) (by kernel_rfl) (by kernel_rfl) ?_
        repeat (quiet_step (fail))
        refine wpQuiet_nil ?_
        intro _ hw'
        obtain ⟨p, hw''⟩ := hw'
        subst hw''
        go_wp2_with fail
        go_ret
        refine ⟨?_, (HF.out.trans ((HFr.out.trans q.fr (fun _ _ e => e)).trans p.fr (fun _ _ e => e)) (fun _ _ e => e)).below (fun _ _ e => e)⟩
        have e : decide (x < y) = decide (a < b) := by
          have h1 := HX.out
          have h2 := HY.out
          have h3 := HXY.out
          rw [decide_eq_decide]
          constructor
          · intro h
            exact below_at a b ha hb k hlt hn.out (by omega)
          · intro h
            by_cases h4 : x < y
            · exact h4
            · have := below_at b a hb ha k hlt (fun j hj => (hn.out j hj).symm) (by omega)
              omega
        rw [← e]; rfl
    · obtain rfl : k = 32 := by omega
      have e : decide (a < b) = false := by
        have := same_bytes a b ha hb hn.out
        subst this
        exact decide_eq_false (Nat.lt_irrefl _)
      have HE := Lib.hid e
      clear e
      go_wp2_with fail
      go_ret
      exact ⟨by rw [HE.out]; rfl, (HF.out.trans HFr.out (fun _ _ e => e)).below (fun _ _ e => e)⟩
end Go.Proofs.YtgbhdjncccmabaaGreatDoor
/- What is proved: whether a beginning is right, and whether an id fits, by the document. Conditions: none. -/
namespace Go.Proofs.YtgbhdjncccmabaaGreatDoor
open Go.RowKit
set_option linter.unusedVariables false
theorem Lies.at {w : World} {A : Option Addr} {D : Nat → Nat} (h : Lies w A (digV D 64)) : ∃ b o, A = some ⟨b, o, none⟩ ∧ ∀ k, k < 64 → w.cell? ⟨b, o + k, none⟩ = some (.int .i64 (D k : Nat)) := by
  rcases h with h | ⟨b, o, rfl, hc⟩
  · have := congrArg List.length h
    rw [digV_len] at this
    simp at this
  · exact ⟨b, o, rfl, fun k hk => hc k _ (digV_get D 64 k hk)⟩
set_option maxHeartbeats 1600000 in
theorem QRight_any (a : Nat) (ha : a < big) (N : Int) (h0 : -9223372036854775808 ≤ N) (h1 : N ≤ 9223372036854775807) (w : World) : Calls Tryz.prog 60 #[.agg (idC (dgt a)), .int .i64 N] w fun e w' => e = .returned (.bool (rightB a N)) ∧ Below w.heap.size w w' := by
  obtain ⟨w1, hw1⟩ : ∃ w1, w.alloc (.cells (idC (dgt a)) 24) = w1 := ⟨_, rfl⟩
  have hF : Fr (fun _ => False) w w1 := by subst hw1; exact (Fr.refl _ w).alloc _
  have hS : Whole w1 w.heap.size 24 (idC (dgt a)) := by subst hw1; exact Whole.new w 24 _
  have HF := Lib.hid hF
  have hDg := QDigits_any (dgt a) (dgt_lt a) w1
  obtain ⟨cw, hcw⟩ : ∃ cw, idC (dgt a) = cw := ⟨_, rfl⟩
  have hcs : cw.size = 32 := by rw [← hcw]; exact idC_size _
  rw [hcw] at hw1 hS hDg ⊢
  have HS := Lib.hid hS
  have HDg := Lib.hid hDg
  clear hF hS hcw hDg
  by_cases hneg : N < 0
  · have HR := Lib.hid (rightB_low a N hneg)
    have hd0 : decide (N < 0) = true := decide_eq_true hneg
    go_enter Tryz.func60, Tryz.ntmps60
    go_wp2_with fail
    go_ret
    exact ⟨by rw [HR.out]; rfl, HF.out.below (fun _ _ e => e)⟩
  · have hd0 : decide (N < 0) = false := decide_eq_false hneg
    by_cases hbig : 64 < N
    · have HR := Lib.hid (rightB_high a N hbig)
      have hd1 : decide (64 < N) = true := decide_eq_true hbig
      go_enter Tryz.func60, Tryz.ntmps60
      go_wp2_with fail
      go_ret
      exact ⟨by rw [HR.out]; rfl, HF.out.below (fun _ _ e => e)⟩
    · have hd1 : decide (64 < N) = false := decide_eq_false hbig
      obtain ⟨n, rfl⟩ : ∃ n : Nat, N = n := ⟨N.toNat, by omega⟩
      have hn64 : n ≤ 64 := by omega
      have HT := Lib.hid (fun (h : ∀ k, n ≤ k → k < 64 → dgt a k = 0) => show rightB a n = true by
        rw [rightB, decide_eq_true_eq, Int.toNat_natCast]
        exact ⟨by omega, by omega, (right_iff a n ha hn64).2 h⟩)
      have HFa := Lib.hid (fun k (h1 : n ≤ k) (h2 : k < 64) (h : dgt a k ≠ 0) => show rightB a n = false by
        rw [rightB, decide_eq_false_iff_not, Int.toNat_natCast]
        intro hh
        exact h ((right_iff a n ha hn64).1 hh.2.2 k h1 h2))
      clear h0 h1
      go_enter Tryz.func60, Tryz.ntmps60
      go_wp2_with (first
        | (go_at_call 61; refine HDg.out.mono ?_; rintro e w2 ⟨A, c, rfl, hc, hl, b2⟩
           obtain ⟨b, o, rfl, hcell⟩ := hl.at
           have HC := Lib.hid hcell
           have HF2 := Lib.hid (HF.out.then_below b2)
           clear hl b2 hcell)
        | (refine wpList_load_row rfl 24 _ rfl _ rfl 24 _ _ _ HS.out Tryz.underlying24 rfl (by rw [hcs]; exact size32) ?_))
      clear hw1
      go_loopw [6] (fun i wr => ∃ k : Nat, n ≤ k ∧ k ≤ 64 ∧ i = .int .i64 k ∧ Hid (∀ j, n ≤ j → j < k → dgt a j = 0) ∧ wr = w2) (fun i _ => 64 - (intOf i).toNat)
      case atStart => exact ⟨n, by omega, by omega, rfl, Lib.hid (fun j hj h => by omega), rfl⟩
      case round =>
        obtain ⟨k, hnk, hk, rfl, hz, rfl⟩ := hrel
        by_cases hlt : k < 64
        · have c1 := HC.out k hlt
          have hq := dgt_lt a k
          obtain ⟨q, hq2⟩ : ∃ q : Int, ((dgt a k : Nat) : Int) = q := ⟨_, rfl⟩
          rw [hq2] at c1
          have HQ := Lib.hid hq2
          clear hq2 hq
          by_cases hq0 : q = 0
          · subst hq0
            go_wp2_with fail
            go_roundw
            case rel => exact ⟨k + 1, by omega, by omega, by go_num, Lib.hid (fun j h1 h2 => (by omega : j < k ∨ j = k).elim (hz.out j h1) (fun e => by subst e; have := HQ.out; omega)), trivial⟩
            case measure => simp [intOf]; omega
          · have hne : (q != 0) = true := by simpa using hq0
            have HR := Lib.hid (HFa.out k hnk hlt (fun e => hq0 (by rw [← HQ.out, e]; rfl)))
            go_wp2_with fail
            go_ret
            exact ⟨by rw [HR.out]; rfl, HF2.out.below (fun _ _ e => e)⟩
        · obtain rfl : k = 64 := by omega
          have HR := Lib.hid (HT.out hz.out)
          go_wp2_with fail
          go_ret
          exact ⟨by rw [HR.out]; rfl, HF2.out.below (fun _ _ e => e)⟩
set_option maxHeartbeats 3200000 in
theorem QFits_any (a x : Nat) (ha : a < big) (hx : x < big) (N : Int) (h0 : -9223372036854775808 ≤ N) (h1 : N ≤ 9223372036854775807) (w : World) : Calls Tryz.prog 39 #[.agg (idC (dgt a)), .int .i64 N, .agg (idC (dgt x))] w fun e w' => e = .returned (.bool (fitB a N x)) ∧ Below w.heap.size w w' := by
  obtain ⟨w1, hw1⟩ : ∃ w1, w.alloc (.cells (idC (dgt a)) 24) = w1 := ⟨_, rfl⟩
  obtain ⟨w2, hw2⟩ : ∃ w2, w1.alloc (.cells (idC (dgt x)) 24) = w2 := ⟨_, rfl⟩
  have hF1 : Fr (fun _ => False) w w1 := by subst hw1; exact (Fr.refl _ w).alloc _
  have hF2 : Fr (fun _ => False) w1 w2 := by subst hw2; exact (Fr.refl _ w1).alloc _
  have hA : Whole w2 w.heap.size 24 (idC (dgt a)) := by subst hw1; exact (Whole.new w 24 _).fr hF2 (fun e => e)
  have hB : Whole w2 w1.heap.size 24 (idC (dgt x)) := by subst hw2; exact Whole.new w1 24 _
  have HF := Lib.hid (hF1.trans hF2 (fun _ _ e => e))
  have hR := fun w => QRight_any a ha N h0 h1 w
  have hDa := fun w => QDigits_any (dgt a) (dgt_lt a) w
  have hDx := fun w => QDigits_any (dgt x) (dgt_lt x) w
  have HLA := Lib.hid (fun w' (f : Fr (fun _ => False) w2 w') => (by
    have := load_first hA f (n := 32) (by rw [idC_size]; omega)
    rwa [List.take_of_length_le (by rw [Array.length_toList, idC_size]; omega), Array.toArray_toList] at this : (loadCellsFrom ⟨w.heap.size, 0, none⟩ 0 32 #[]).run Tryz.prog w' = .ok (idC (dgt a)) w'))
  have HLB := Lib.hid (fun w' (f : Fr (fun _ => False) w2 w') => (by
    have := load_first hB f (n := 32) (by rw [idC_size]; omega)
    rwa [List.take_of_length_le (by rw [Array.length_toList, idC_size]; omega), Array.toArray_toList] at this : (loadCellsFrom ⟨w1.heap.size, 0, none⟩ 0 32 #[]).run Tryz.prog w' = .ok (idC (dgt x)) w'))
  obtain ⟨ca, hca⟩ : ∃ ca, idC (dgt a) = ca := ⟨_, rfl⟩
  obtain ⟨cb, hcb⟩ : ∃ cb, idC (dgt x) = cb := ⟨_, rfl⟩
  have hcas : ca.size = 32 := by rw [← hca]; exact idC_size _
  rw [hca] at hw1 hR hDa HLA hA ⊢
  rw [hcb] at hw2 hDx HLB ⊢
  have HA := Lib.hid hA
  have HDa := Lib.hid hDa
  have HDx := Lib.hid hDx
  have HR := Lib.hid hR
  clear hF1 hF2 hA hB hca hcb hR hDa hDx
  by_cases hr : rightB a N = true
  · obtain ⟨g1, g2, g3⟩ := rightB_range hr
    rw [hr] at HR
    obtain ⟨n, rfl⟩ : ∃ n : Nat, N = n := ⟨N.toNat, by omega⟩
    have hn64 : n ≤ 64 := by omega
    rw [Int.toNat_natCast] at g3
    have HT := Lib.hid (fun (h : ∀ k, k < n → dgt a k = dgt x k) => show fitB a n x = true by
      rw [fitB, decide_eq_true_eq, Int.toNat_natCast]
      exact ⟨by omega, by omega, g3, (alike_iff a x ha hx n hn64).1 h⟩)
    have HFa := Lib.hid (fun k (h2 : k < n) (h : dgt a k ≠ dgt x k) => show fitB a n x = false by
      rw [fitB, decide_eq_false_iff_not, Int.toNat_natCast]
      intro hh
      exact h ((alike_iff a x ha hx n hn64).2 hh.2.2.2 k h2))
    clear h0 h1 hr g1 g2 g3
    go_enter Tryz.func39, Tryz.ntmps39
    go_wp2_with (first
      | (go_at_call 60; refine (HR.out _).mono ?_; rintro e w3 ⟨rfl, b3⟩
         have F3 := (Fr.refl (fun _ => False) w2).then_below b3)
      | (refine wpList_load_row rfl 24 _ rfl _ rfl 24 _ _ _ HA.out Tryz.underlying24 rfl (by rw [hcas]; exact size32) ?_))
    clear hw1 hw2
    have HF3 := Lib.hid F3
    clear F3 b3
    obtain ⟨T32, hT32⟩ : ∃ T : TypeId, T = 24 := ⟨_, rfl⟩
    obtain ⟨n32, hn32⟩ : ∃ n : Nat, 32 = n := ⟨_, rfl⟩
    have ag32 : ∀ w, (isAgg T32).run Tryz.prog w = .ok true w := by rw [hT32]; exact fun _ => by kernel_rfl
    have sz32 : ∀ w, (sizeOf T32).run Tryz.prog w = .ok n32 w := by rw [hT32, ← hn32]; exact fun _ => by kernel_rfl
    rw [hn32] at HLA HLB
    have l1 := HLA.out w3.drew HF3.out.drew
    have l2 := HLB.out w3.drew HF3.out.drew
    rw [show Op.load 24 (.tmp 3) = Op.load T32 (.tmp 3) by rw [hT32], show Op.load 24 (.tmp 5) = Op.load T32 (.tmp 5) by rw [hT32]]
    clear hT32 hn32
    go_region_law (first
      | (go_simp; go_at_call 61; have _ := M1
         refine (HDx.out _).mono ?_
         rintro e w5 ⟨Ax, cx, rfl, hcx1, hlx, b5⟩
         have F5 := F4.then_below b5
         have HBO := Lib.hid (And.intro (hla.fr (Fr.of_below (S := fun _ => False) b5) (fun _ _ e => e)) hlx))
      | (go_simp; go_at_call 61; have _ := M1
         refine (HDa.out _).mono ?_
         rintro e w5 ⟨Aa, ca1, rfl, hca1, hla, b5⟩
         have F5 := F4.then_below b5
         have HBO := Lib.hid (And.intro hla (hlx.fr (Fr.of_below (S := fun _ => False) b5) (fun _ _ e => e))))
      | (go_simp; go_at_call 61
         refine (HDa.out _).mono ?_
         rintro e w4 ⟨Aa, ca1, rfl, hca1, hla, b4⟩
         have F4 := (Fr.refl (fun _ => False) w3).drew.then_below b4
         have l3 := HLB.out w4 (HF3.out.trans F4 (fun _ _ e => e))
         have l4 := HLA.out w4 (HF3.out.trans F4 (fun _ _ e => e))
         have M1 := True.intro)
      | (go_simp; go_at_call 61
         refine (HDx.out _).mono ?_
         rintro e w4 ⟨Ax, cx, rfl, hcx1, hlx, b4⟩
         have F4 := (Fr.refl (fun _ => False) w3).drew.then_below b4
         have l3 := HLB.out w4 (HF3.out.trans F4 (fun _ _ e => e))
         have l4 := HLA.out w4 (HF3.out.trans F4 (fun _ _ e => e))
         have M1 := True.intro))
    all_goals
      obtain ⟨ba, oa, rfl, hcell1⟩ := HBO.out.1.at
      obtain ⟨bx, ox, rfl, hcell2⟩ := HBO.out.2.at
      have HC1 := Lib.hid hcell1
      have HC2 := Lib.hid hcell2
      have HF5 := Lib.hid (HF.out.trans (HF3.out.trans F5 (fun _ _ e => e)) (fun _ _ e => e))
      clear hcell1 hcell2 hla hlx l1 l2 l3 l4 F4 F5 b4 b5 M1
      go_wp2_with fail
      go_loopw [9] (fun i wr => ∃ k : Nat, k ≤ n ∧ i = .int .i64 k ∧ Hid (∀ j, j < k → dgt a j = dgt x j) ∧ Fr (fun _ => False) w5 wr) (fun i _ => n - (intOf i).toNat)
      case atStart => exact ⟨0, by omega, rfl, Lib.hid (fun j hj => by omega), Fr.refl _ _⟩
      case round =>
        obtain ⟨k, hk, rfl, hz, hf⟩ := hrel
        have HFr := Lib.hid hf
        by_cases hlt : k < n
        · obtain ⟨y, hy⟩ : ∃ y : Int, ((dgt a k : Nat) : Int) = y := ⟨_, rfl⟩
          obtain ⟨z, hz2⟩ : ∃ z : Int, ((dgt x k : Nat) : Int) = z := ⟨_, rfl⟩
          have c1 : ∀ q : Later wr, q.w'.cell? ⟨ba, oa + k, none⟩ = some (.int .i64 y) := fun q => by rw [← hy]; exact (hf.trans q.fr (fun _ _ e => e)).cell (HC1.out k (by omega)) (fun e => e)
          have c2 : ∀ q : Later wr, q.w'.cell? ⟨bx, ox + k, none⟩ = some (.int .i64 z) := fun q => by rw [← hz2]; exact (hf.trans q.fr (fun _ _ e => e)).cell (HC2.out k (by omega)) (fun e => e)
          have HY := Lib.hid hy
          have HZ := Lib.hid hz2
          have hk64 : (k : Int) < 64 := by omega
          clear hy hz2 hf
          by_cases hyz : y = z
          · have HYZ := Lib.hid hyz
            have hne : (y != z) = false := by simpa using hyz
            clear hyz
            go_wp2_with fail
            refine wp_region_later (w0 := wr) (Fr.refl _ _) (by kernel_rfl) (by kernel_rfl) ?_
            repeat (quiet_step (fail))
            refine wpQuiet_nil ?_
            intro _ hw'
            obtain ⟨q, hw''⟩ := hw'
            subst hw''
            go_wp2_with fail
            go_roundw
            case rel =>
              refine ⟨k + 1, by omega, by go_num, Lib.hid (fun j hj => ?_), HFr.out.trans q.fr (fun _ _ e => e)⟩
              rcases (by omega : j < k ∨ j = k) with h | rfl
              · exact hz.out j h
              · have h1 := HY.out
                have h2 := HZ.out
                have h3 := HYZ.out
                omega
            case measure => simp [intOf]; omega
          · have HYZ := Lib.hid hyz
            have hne : (y != z) = true := by simpa using hyz
            have HRR := Lib.hid (HFa.out k hlt (fun e => HYZ.out (by rw [← HY.out, ← HZ.out, e])))
            clear hyz
            go_wp2_with fail
            refine wp_region_later (w0 := wr) (Fr.refl _ _) (by kernel_rfl) (by kernel_rfl) ?_
            repeat (quiet_step (fail))
            refine wpQuiet_nil ?_
            intro _ hw'
            obtain ⟨q, hw''⟩ := hw'
            subst hw''
            go_wp2_with fail
            go_ret
            exact ⟨by rw [HRR.out]; rfl, (HF5.out.trans (HFr.out.trans q.fr (fun _ _ e => e)) (fun _ _ e => e)).below (fun _ _ e => e)⟩
        · obtain rfl : k = n := by omega
          have HRR := Lib.hid (HT.out hz.out)
          go_wp2_with fail
          go_ret
          exact ⟨by rw [HRR.out]; rfl, (HF5.out.trans HFr.out (fun _ _ e => e)).below (fun _ _ e => e)⟩
  · have hr' : rightB a N = false := by simpa using hr
    rw [hr'] at HR
    have HZ := Lib.hid (fitB_not a N x hr')
    clear hr hr'
    go_enter Tryz.func39, Tryz.ntmps39
    go_wp2_with (first
      | (go_at_call 60; refine (HR.out _).mono ?_; rintro e w3 ⟨rfl, b3⟩
         have F3 := (Fr.refl (fun _ => False) w2).then_below b3)
      | (refine wpList_load_row rfl 24 _ rfl _ rfl 24 _ _ _ HA.out Tryz.underlying24 rfl (by rw [hcas]; exact size32) ?_))
    go_ret
    exact ⟨by rw [HZ.out]; rfl, (HF.out.trans F3 (fun _ _ e => e)).below (fun _ _ e => e)⟩
end Go.Proofs.YtgbhdjncccmabaaGreatDoor

/- What is proved: the law's own works answers true. Conditions: the table of constants holds what start-up lays. -/
import Derived.Test.YtbbjappmaigobaaDoorSho
import Derived.Lib.SlBytesConst
namespace Go.Proofs.YtbbjappmaigobaaDoor
open Go.RowKit
set_option linter.unusedVariables false

theorem idC_at (s : S8) (i : Nat) (h : i < 32) : (idC s 32)[i]? = some (.int .u8 (idN s i)) := by
  simp only [idC, List.getElem?_toArray]
  rw [List.getElem?_append_left (by simpa using h), List.getElem?_map, List.getElem?_range h]
  rfl
set_option maxRecDepth 1000000 in
theorem abc0 : idN (stOf ([97, 98, 99] ++ padB 3)) 0 = 186 := by kernel_rfl
set_option maxRecDepth 1000000 in
theorem abc1 : idN (stOf ([97, 98, 99] ++ padB 3)) 1 = 120 := by kernel_rfl
set_option maxRecDepth 1000000 in
theorem abc31 : idN (stOf ([97, 98, 99] ++ padB 3)) 31 = 173 := by kernel_rfl

theorem sum_abc : sumV [97, 98, 99] = idC (stOf ([97, 98, 99] ++ padB 3)) 32 := by
  have h : ([97, 98, 99] : List UInt8).length = 3 := rfl
  unfold sumV
  rw [h]
theorem abc0' : (sumV [97, 98, 99])[0]? = some (.int .u8 186) := by rw [sum_abc, idC_at _ _ (by decide), abc0]
theorem abc1' : (sumV [97, 98, 99])[1]? = some (.int .u8 120) := by rw [sum_abc, idC_at _ _ (by decide), abc1]
theorem abc31' : (sumV [97, 98, 99])[31]? = some (.int .u8 173) := by rw [sum_abc, idC_at _ _ (by decide), abc31]

def TruePost (w : World) (e : Ending) (w' : World) : Prop := e = .returned (.bool true) ∧ Below w.heap.size w w'

set_option maxHeartbeats 800000 in
theorem works_any (w : World) (ht : Tab w) : Calls Tryd.prog 8 #[] w (TruePost w) := by
  obtain ⟨w1, hw1⟩ : ∃ w1, w.alloc (.cells (bytesV [97, 98, 99]).toArray 5 (3, 4)) = w1 := ⟨_, rfl⟩
  have hF1 : Fr (fun _ => False) w w1 := by subst hw1; exact (Fr.refl _ w).alloc _
  have hA : w1.heap[w.heap.size]? = some (.cells (bytesV [97, 98, 99]).toArray 5 (3, 4)) := by subst hw1; exact heap_alloc_new w _
  have hcv : (convert 24 24 (.slice (some ⟨w.heap.size, 0, none⟩) 3 3)).run Tryd.prog (w.alloc (.cells #[.int .u8 97, .int .u8 98, .int .u8 99] 5)) = .ok (.slice (some ⟨w.heap.size, 0, none⟩) 3 3) w1 := by
    rw [← hw1]
    exact Lib.run_convert_bytes_const (P := Tryd.prog) w 24 5 #[.int .u8 97, .int .u8 98, .int .u8 99] 3 3 Tryd.underlying24 Tryd.underlying5
  have hs1 : w1.heap.size = w.heap.size + 1 := by subst hw1; simp
  obtain ⟨w2, hw2⟩ : ∃ w2, w1.alloc (.cells #[.slice (some ⟨w.heap.size, 0, none⟩) 3 3] 24) = w2 := ⟨_, rfl⟩
  obtain ⟨ps, hps⟩ : ∃ ps : List (List UInt8), [[97, 98, 99]] = ps := ⟨_, rfl⟩
  have hfl : ps.flatten = [97, 98, 99] := by rw [← hps]; rfl
  have hpl : ps.length = 1 := by rw [← hps]; rfl
  obtain ⟨Z, hZ⟩ : ∃ Z, sumV ps.flatten = Z := ⟨_, rfl⟩
  have z0 : Z[0]? = some (.int .u8 186) := by rw [← hZ, hfl]; exact abc0'
  have z1 : Z[1]? = some (.int .u8 120) := by rw [← hZ, hfl]; exact abc1'
  have z31 : Z[31]? = some (.int .u8 173) := by rw [← hZ, hfl]; exact abc31'
  have zs : Z.size = 32 := by rw [← hZ]; exact sumV_size _
  have zo : Z.all (·.oneCell') = true := by rw [← hZ]; exact sumV_one _
  have HZ := Lib.hid hZ
  have HPL := Lib.hid hpl
  have hfm : ps.flatten.length ≤ 70368744177664 := by rw [hfl]; decide
  have HFM := Lib.hid hfm
  have hF2 : Fr (fun _ => False) w1 w2 := by subst hw2; exact (Fr.refl _ w1).alloc _
  have hP2 : Whole w2 w1.heap.size 24 #[.slice (some ⟨w.heap.size, 0, none⟩) 3 3] := by subst hw2; exact Whole.new w1 _ _
  have hA2 := (hF2.block w.heap.size (by rw [hs1]; omega) (fun e => e)).trans hA
  have hP : Parts w2 (some ⟨w1.heap.size, 0, none⟩) [[97, 98, 99]] := .inr ⟨w1.heap.size, 0, rfl, fun i p hi => by
    match i, hi with
    | 0, hi =>
      simp at hi
      subst hi
      exact ⟨some ⟨w.heap.size, 0, none⟩, 3, by rw [Nat.add_zero, hP2.cell]; rfl, Nat.le_refl 3, .inr ⟨w.heap.size, 0, rfl, fun j u hu => by rw [Nat.zero_add, cell_of_row w2 w.heap.size j _ _ _ hA2]; simpa using hu⟩⟩⟩
  have HF := Lib.hid (hF1.trans hF2 (fun _ _ e => e))
  rw [hps, hs1] at hP
  have HP := Lib.hid hP
  have HT := Lib.hid ((ht.fr hF1 (fun e => e)).fr hF2 (fun e => e))
  clear hF1 hF2 hA hA2 hP hP2 hw1 ht hps hfl hpl hZ hfm
  go_enter Tryd.func8, Tryd.ntmps8
  go_wp2_with (first
    | (go_at_call 16; refine Calls.mono (by have h := SOf_any _ 1 ps w2 HP.out (by rw [HPL.out]; decide) HT.out HFM.out; rw [HPL.out, HZ.out] at h; exact h) ?_; rintro e w3 ⟨rfl, b3⟩)
    | (refine wpList_store_at rfl 38 _ _ rfl w3.heap.size 0 38 _ Z rfl rfl (Whole.new w3 38 zero32) (by rw [zs]; decide) (by rw [zs]; exact size32) zo ?_
       intro w4 hw4 hf4
       rw [laidAt_all zero32 Z (by rw [zs]; rfl)] at hw4
       have c0 : w4.cell? ⟨w3.heap.size, 0, none⟩ = some (.int .u8 186) := (hw4.cell 0).trans z0
       have c1 : w4.cell? ⟨w3.heap.size, 1, none⟩ = some (.int .u8 120) := (hw4.cell 1).trans z1
       have c31 : w4.cell? ⟨w3.heap.size, 31, none⟩ = some (.int .u8 173) := (hw4.cell 31).trans z31))
  go_ret
  refine ⟨rfl, ?_⟩
  have F3 : Fr (fun _ => False) w w3 := HF.out.then_below b3
  exact ((F3.alloc _).trans hf4 (fun i hi e => by have := F3.size; omega)).below (fun _ _ e => e)
end Go.Proofs.YtbbjappmaigobaaDoor

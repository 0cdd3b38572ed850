/- What is proved: the example of the laws is true. Conditions: none. -/
import Derived.Test.YtoakbdmfoepdgaaDoorRff
namespace Go.Proofs.YtoakbdmfoepdgaaDoor
open Go.RowKit Go.Sort Go.Shelf
set_option linter.unusedVariables false

def exA : Rf := ⟨[104, 101, 97, 100, 115, 47, 109, 97, 105, 110], 16 ^ 62, by decide, by decide⟩
def exB : Rf := ⟨[116, 97, 103, 115, 47, 109, 97, 105, 110], 2 * 16 ^ 62, by decide, by decide⟩
theorem ex_res : resR [exA, exB] [109, 97, 105, 110] = (exA, 0) := by kernel_rfl
theorem ex_id1 (w : World) : (Instr.build 41 #[(0, .int .u8 1)]).run Tryd.prog w = .ok (.agg (Ids.idC (Ids.dgt exA.id))) w := by kernel_rfl
theorem ex_id2 (w : World) : (Instr.build 41 #[(0, .int .u8 2)]).run Tryd.prog w = .ok (.agg (Ids.idC (Ids.dgt exB.id))) w := by kernel_rfl
theorem ex_refA (w : World) : (Instr.build 50 #[(0, .string ⟨#[104, 101, 97, 100, 115, 47, 109, 97, 105, 110]⟩), (1, .agg (Ids.idC (Ids.dgt exA.id)))]).run Tryd.prog w = .ok (.agg (refV exA).toArray) w := by kernel_rfl
theorem ex_refB (w : World) : (Instr.build 50 #[(0, .string ⟨#[116, 97, 103, 115, 47, 109, 97, 105, 110]⟩), (1, .agg (Ids.idC (Ids.dgt exB.id)))]).run Tryd.prog w = .ok (.agg (refV exB).toArray) w := by kernel_rfl
theorem ex_refs (w : World) : (Instr.buildSlice 22 2 #[(0, .agg (refV exA).toArray), (1, .agg (refV exB).toArray)]).run Tryd.prog w = .ok (.slice (some ⟨w.heap.size, 0, none⟩) 2 2) (w.alloc (.cells (flatR [exA, exB]).toArray 50)) := by kernel_rfl
theorem ex_lit : Ids.idC (Ids.dgt exA.id) = (Value.int .u8 1 :: List.replicate 31 (Value.int .u8 0)).toArray := by kernel_rfl
theorem ex_eq (w : World) : (Op.equalIn 10000 41 (.agg (Ids.idC (Ids.dgt exA.id))) (.agg (Value.int .u8 1 :: List.replicate 31 (Value.int .u8 0)).toArray)).run Tryd.prog w = .ok true w := by
  rw [← ex_lit, Ids.eq_nums exA.id exA.id exA.hi exA.hi w, beq_self_eq_true]
theorem guardI : Tryd.prog.eqGuardType Tryd.prog.depth 41 = false := by kernel_rfl
theorem load_id {w : World} {g : Nat} {x : Rf} (h : Whole w g 50 (refV x).toArray) (n : Nat) (hn : n = 32) : (loadCellsFrom ⟨g, 1, none⟩ 0 n #[]).run Tryd.prog w = .ok (Ids.idC (Ids.dgt x.id)) w := by
  have h2 := run_loadCells_list (P := Tryd.prog) w ⟨g, 1, none⟩ (Ids.idC (Ids.dgt x.id)).toList (fun j v hv => by
    rw [add_off]
    exact ref_range h j v hv)
  rw [Array.length_toList, Ids.idC_size] at h2
  rw [hn]
  simpa [loadCells] using h2

set_option maxHeartbeats 3200000 in
set_option maxRecDepth 100000 in
theorem works12_any (w : World) : Calls Tryd.prog 8 #[] w fun e w' => e = .returned (.bool true) ∧ Below w.heap.size w w' := by
  have hR := fun w1 g h => RfResolve_any (some ⟨g, 0, none⟩) 2 [exA, exB] (by decide) (by decide) [109, 97, 105, 110] (by decide) w1 h
  rw [ex_res] at hR
  have b1 := ex_id1
  have b2 := ex_id2
  have b3 := ex_refA
  have b4 := ex_refB
  have b5 := ex_refs
  have hl : ∀ (w : World), Lies (w.alloc (.cells (flatR [exA, exB]).toArray 50)) (some ⟨w.heap.size, 0, none⟩) (flatR [exA, exB]) := fun w => Lies.of_whole (Whole.new w 50 _)
  have heq := ex_eq
  simp only [List.replicate] at heq
  have HLd := Lib.hid (fun (w : World) (g : Nat) (h : Whole w g 50 (refV exA).toArray) n hn => load_id h n hn)
  have hcs := refV_size exA
  have HO := Lib.hid (refV_all exA)
  have HN0 := Lib.hid (refV_name exA)
  obtain ⟨i1, hi1⟩ : ∃ c, Ids.idC (Ids.dgt exA.id) = c := ⟨_, rfl⟩
  obtain ⟨i2, hi2⟩ : ∃ c, Ids.idC (Ids.dgt exB.id) = c := ⟨_, rfl⟩
  obtain ⟨c1, hc1⟩ : ∃ c, (refV exA).toArray = c := ⟨_, rfl⟩
  obtain ⟨c2, hc2⟩ : ∃ c, (refV exB).toArray = c := ⟨_, rfl⟩
  obtain ⟨F, hF⟩ : ∃ F, flatR [exA, exB] = F := ⟨_, rfl⟩
  rw [hi1] at b1 b3 heq HLd
  rw [hi2] at b2 b4
  rw [hc1] at b3 b5 hcs HO HN0 HLd
  rw [hc2] at b4 b5
  rw [hF] at b5 hl hR
  have B1 := Lib.hid b1
  have B2 := Lib.hid b2
  have B3 := Lib.hid b3
  have B4 := Lib.hid b4
  have B5 := Lib.hid b5
  have HR := Lib.hid hR
  have HL := Lib.hid hl
  have hgi := guardI
  obtain ⟨T, hT⟩ : ∃ T : TypeId, T = 41 := ⟨_, rfl⟩
  obtain ⟨n32, h32⟩ : ∃ n : Nat, n = 32 := ⟨_, rfl⟩
  have ag32 : ∀ w, (isAgg T).run Tryd.prog w = .ok true w := by rw [hT]; exact fun _ => by kernel_rfl
  have sz32 : ∀ w, (sizeOf T).run Tryd.prog w = .ok n32 w := by rw [hT, h32]; exact fun _ => by kernel_rfl
  have HN := Lib.hid h32
  rw [hc1] at HR
  clear b1 b2 b3 b4 b5 hR hl hi1 hi2 hc1 hc2 hF h32
  go_enter Tryd.func8, Tryd.ntmps8
  rw [show Op.load 41 (.tmp 20) = Op.load T (.tmp 20) by rw [hT]]
  clear hT
  go_wp2_with (first
    | (have _ := M5; refine wpList_build_to rfl 41 _ rfl #[(0, .int .u8 1)] (by first | rfl | simp [Act.eval]) (.agg i1) (B1.out _) ?_)
    | (have _ := M3; refine wpList_build_to rfl 50 _ rfl #[(0, .string ⟨#[116, 97, 103, 115, 47, 109, 97, 105, 110]⟩), (1, .agg i2)] (by first | rfl | simp [Act.eval, Act.put]) (.agg c2) (B4.out _) ?_)
    | (have _ := M2; refine wpList_build_to rfl 41 _ rfl #[(0, .int .u8 2)] (by first | rfl | simp [Act.eval]) (.agg i2) (B2.out _) ?_; have M3 := True.intro)
    | (have _ := M1; refine wpList_build_to rfl 50 _ rfl #[(0, .string ⟨#[104, 101, 97, 100, 115, 47, 109, 97, 105, 110]⟩), (1, .agg i1)] (by first | rfl | simp [Act.eval, Act.put]) (.agg c1) (B3.out _) ?_; have M2 := True.intro)
    | (refine wpList_build_to rfl 41 _ rfl #[(0, .int .u8 1)] (by first | rfl | simp [Act.eval]) (.agg i1) (B1.out _) ?_; have M1 := True.intro)
    | (refine wpList_buildSlice_to rfl 22 2 _ rfl #[(0, .agg c1), (1, .agg c2)] (by simp [Act.eval, Act.put]) _ _ (B5.out _) ?_)
    | (go_at_call 23
       refine (HR.out _ _ (HL.out w)).mono ?_
       rintro e w2 ⟨rfl, b⟩
       have HF2 := Lib.hid (((Fr.refl (fun _ => False) w).alloc (.cells F.toArray 50)).then_below b)
       clear b)
    | (refine wpList_store_at rfl 50 _ _ rfl w2.heap.size 0 50 zeroR c1 rfl rfl (Whole.new w2 50 zeroR) (by rw [zeroR_size, hcs]; exact Nat.le_refl _) (by rw [hcs]; exact size_ref) HO.out ?_
       intro w4 hw4 hf4
       rw [laidAt_all _ _ (by rw [zeroR_size, hcs])] at hw4
       have d0 : w4.cell? ⟨w2.heap.size, 0, none⟩ = some (.string { data := #[104, 101, 97, 100, 115, 47, 109, 97, 105, 110] }) := (by rw [hw4.cell]; exact HN0.out)
       have l4 := HLd.out w4 w2.heap.size hw4 n32 HN.out
       have HF4 := Lib.hid (HF2.out.trans (((Fr.refl (fun _ => False) w2).alloc _).trans hf4 (fun i hi e => by omega)) (fun _ _ e => e))
       have M5 := True.intro
       clear hw4 hf4))
  go_ret
  exact ⟨rfl, HF4.out.below (fun _ _ e => e)⟩
end Go.Proofs.YtoakbdmfoepdgaaDoor

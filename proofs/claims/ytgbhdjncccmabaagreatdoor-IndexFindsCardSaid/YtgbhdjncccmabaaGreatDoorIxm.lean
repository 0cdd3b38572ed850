/- What is proved: an index's Len, Of and At by the program, of one that is there, one that no call made, and none. Conditions: its cells are there. -/
import Derived.Test.YtgbhdjncccmabaaGreatDoorIxl
import Derived.StillTailTactics
namespace Go.Proofs.YtgbhdjncccmabaaGreatDoor
open Go.RowKit
set_option linter.unusedVariables false

/-- An index that is there: its fan-out, its rows, its pack's trailer. -/
structure IX (w : World) (X n : Nat) (A1 : Option Addr) (c1 : Nat) (A2 : Option Addr) (c2 : Nat) (A3 : Option Addr) (c3 : Nat) (f ks ss ts : Nat → Nat) (of : Nat) : Prop where
  x : Whole w X 76 (idxC (fanC f) (.slice A1 n c1) (.slice A2 n c2) (.slice A3 n c3) (idC (dgt of)))
  k : Lies w A1 (flatI (keyL n ks))
  s : Lies w A2 (numL n ss)
  a : Lies w A3 (numL n ts)
  c : n ≤ c1
theorem IX.fr {w w' : World} {X n : Nat} {A1 A2 A3 : Option Addr} {c1 c2 c3 : Nat} {f ks ss ts : Nat → Nat} {of : Nat} (h : IX w X n A1 c1 A2 c2 A3 c3 f ks ss ts of) (q : Fr (fun _ => False) w w') : IX w' X n A1 c1 A2 c2 A3 c3 f ks ss ts of :=
  ⟨h.x.fr q (fun e => e), h.k.fr q (fun _ _ e => e), h.s.fr q (fun _ _ e => e), h.a.fr q (fun _ _ e => e), h.c⟩
theorem XAt.ix {base : Nat} {w : World} {X g1 g2 g3 n : Nat} {f ks ss ts : Nat → Nat} {of : Nat} (h : XAt base w X g1 g2 g3 n f ks ss ts of) : IX w X n (some ⟨g1, 0, none⟩) n (some ⟨g2, 0, none⟩) n (some ⟨g3, 0, none⟩) n f ks ss ts of :=
  ⟨h.x, h.k.list, h.s.list, h.a.list, Nat.le_refl _⟩
theorem idxC_of (f : Nat → Nat) (k s a : Value) (of c : Nat) (h : c < 32) : (idxC (fanC f) k s a (idC (dgt of)))[259 + c]? = (idC (dgt of))[c]? := by
  have h1 : (fanC f ++ #[k, s, a]).size = 259 := by rw [Array.size_append, fanC_size]; rfl
  rw [idxC, Array.getElem?_append_right (by omega), h1, show 259 + c - 259 = c by omega]
theorem load_of {w : World} {X : Nat} {t : TypeId} {f : Nat → Nat} {k s a : Value} {of : Nat} (h : Whole w X t (idxC (fanC f) k s a (idC (dgt of)))) (n : Nat) (hn : n = 32) : (loadCellsFrom ⟨X, 259, none⟩ 0 n #[]).run Tryz.prog w = .ok (idC (dgt of)) w := by
  have h2 := run_loadCells_list (P := Tryz.prog) w ⟨X, 259, none⟩ (idC (dgt of)).toList (fun j v hv => by
    have hj : j < 32 := by
      have := (List.getElem?_eq_some_iff.1 hv).1
      rwa [Array.length_toList, idC_size] at this
    rw [add_off, h.cell, idxC_of _ _ _ _ _ _ hj]
    simpa using hv)
  rw [Array.length_toList, idC_size, Array.toArray_toList] at h2
  rw [hn]
  simpa [loadCells] using h2
theorem load_fan {w : World} {X : Nat} {t : TypeId} {f : Nat → Nat} {k s a : Value} {of : Nat} (h : Whole w X t (idxC (fanC f) k s a (idC (dgt of)))) (n : Nat) (hn : n = 256) : (loadCellsFrom ⟨X, 0, none⟩ 0 n #[]).run Tryz.prog w = .ok (fanC f) w := by
  have h2 := run_loadCells_list (P := Tryz.prog) w ⟨X, 0, none⟩ (fanC f).toList (fun j v hv => by
    have hj : j < 256 := by
      have := (List.getElem?_eq_some_iff.1 hv).1
      rwa [Array.length_toList, fanC_size] at this
    rw [add_off, Nat.zero_add, h.cell, idxC_fan _ _ _ _ _ _ hj, ← fanC_get f j hj]
    simpa using hv)
  rw [Array.length_toList, fanC_size, Array.toArray_toList] at h2
  rw [hn]
  simpa [loadCells] using h2
theorem ptr_nil (w : World) : (binOp .eql 33 (.pointer none) (.pointer none)).run Tryz.prog w = .ok (.bool true) w := by kernel_rfl
theorem ptr_some (a : Addr) (w : World) : (binOp .eql 33 (.pointer (some a)) (.pointer none)).run Tryz.prog w = .ok (.bool false) w := by kernel_rfl

set_option maxHeartbeats 1600000 in
theorem ILen_nil (w : World) : Calls Tryz.prog 16 #[.pointer none] w fun e w' => e = .returned (.int .i64 0) ∧ w = w' := by
  go_enter Tryz.func16, Tryz.ntmps16
  go_wp2
  go_ret
  exact ⟨rfl, rfl⟩
set_option maxHeartbeats 1600000 in
theorem ILen_any (X n : Nat) (A1 A2 A3 : Option Addr) (c1 c2 c3 : Nat) (f ks ss ts : Nat → Nat) (of : Nat) (w : World) (h : IX w X n A1 c1 A2 c2 A3 c3 f ks ss ts of) :
    Calls Tryz.prog 16 #[.pointer (some ⟨X, 0, none⟩)] w fun e w' => e = .returned (.int .i64 n) ∧ w = w' := by
  have c := h.x.cell 256
  rw [show (256 : Nat) = 256 + 0 from rfl, idxC_mid _ _ _ _ _ 0 (by decide)] at c
  have c0 : w.cell? ⟨X, 256, none⟩ = some (.slice A1 n c1) := c
  clear c
  go_enter Tryz.func16, Tryz.ntmps16
  go_wp2
  go_ret
  exact ⟨rfl, rfl⟩
set_option maxHeartbeats 1600000 in
set_option maxRecDepth 100000 in
theorem IOf_nil (w : World) : Calls Tryz.prog 17 #[.pointer none] w fun e w' => e = .returned (.agg (idC (dgt 0))) ∧ Fr (fun _ => False) w w' := by
  obtain ⟨w1, hw1⟩ : ∃ w1, w.alloc (.cells zero32 24) = w1 := ⟨_, rfl⟩
  have HZ := Lib.hid (show Whole w1 w.heap.size 24 zero32 from by subst hw1; exact Whole.new w 24 zero32)
  have HF1 := Lib.hid (show Fr (fun _ => False) w w1 from by subst hw1; exact (Fr.refl _ w).alloc _)
  have hz := zero_id
  have HZI := Lib.hid hz
  unfold zero32 at hw1
  simp [List.replicate] at hw1
  clear hz
  go_enter Tryz.func17, Tryz.ntmps17
  go_wp2_with (refine wpList_store_at rfl 24 _ _ rfl w.heap.size 0 24 zero32 zero32 rfl rfl HZ.out (by decide) size_IDs (by rw [← zero_id]; exact idC_one _) ?_; intro w3 hw3 hf3; rw [laidAt_all _ _ rfl] at hw3; have HW3 := Lib.hid hw3; have HF3 := Lib.hid (HF1.out.trans hf3 (fun i hi e => by omega)); clear hw3 hf3)
  refine bodyPost_ret (v := .agg zero32) (results_cell_row (p := 2) rfl _ _ _ _ _ _ _ rfl HW3.out Tryz.underlying24 rfl size_IDs) rfl ?_
  exact ⟨by rw [HZI.out], HF3.out⟩
set_option maxHeartbeats 1600000 in
set_option maxRecDepth 100000 in
theorem IOf_any (X n : Nat) (A1 A2 A3 : Option Addr) (c1 c2 c3 : Nat) (f ks ss ts : Nat → Nat) (of : Nat) (w : World) (h : IX w X n A1 c1 A2 c2 A3 c3 f ks ss ts of) :
    Calls Tryz.prog 17 #[.pointer (some ⟨X, 0, none⟩)] w fun e w' => e = .returned (.agg (idC (dgt of))) ∧ Fr (fun _ => False) w w' := by
  obtain ⟨T32, hT32⟩ : ∃ T : TypeId, T = 24 := ⟨_, rfl⟩
  obtain ⟨n32, hn32⟩ : ∃ n : Nat, n = 32 := ⟨_, rfl⟩
  have ag32 : ∀ w, (isAgg T32).run Tryz.prog w = .ok true w := by rw [hT32]; exact fun _ => by kernel_rfl
  have sz32 : ∀ w, (sizeOf T32).run Tryz.prog w = .ok n32 w := by rw [hT32, hn32]; exact fun _ => by kernel_rfl
  obtain ⟨w1, hw1⟩ : ∃ w1, w.alloc (.cells zero32 24) = w1 := ⟨_, rfl⟩
  have HZ := Lib.hid (show Whole w1 w.heap.size 24 zero32 from by subst hw1; exact Whole.new w 24 zero32)
  have hF1 : Fr (fun _ => False) w w1 := by subst hw1; exact (Fr.refl _ w).alloc _
  have HF1 := Lib.hid hF1
  have l1 := load_of (h.fr hF1).x n32 hn32
  have HS := Lib.hid (idC_size (dgt of))
  have HO := Lib.hid (idC_one (dgt of))
  obtain ⟨co, hco⟩ : ∃ c, idC (dgt of) = c := ⟨_, rfl⟩
  rw [hco] at l1 HS HO
  have HCO := Lib.hid hco
  unfold zero32 at hw1
  simp [List.replicate] at hw1
  clear hco hn32 hF1 h
  go_enter Tryz.func17, Tryz.ntmps17
  rw [show Op.load 24 (.tmp 8) = Op.load T32 (.tmp 8) by rw [hT32]]
  clear hT32
  go_wp2_with (refine wpList_store_at rfl 24 _ _ rfl w.heap.size 0 24 zero32 co rfl rfl HZ.out (by rw [HS.out]; decide) (by rw [HS.out]; exact size_IDs) HO.out ?_; intro w3 hw3 hf3; rw [laidAt_all _ _ (by rw [HS.out]; rfl)] at hw3; have HW3 := Lib.hid hw3; have HF3 := Lib.hid (HF1.out.trans hf3 (fun i hi e => by omega)); clear hw3 hf3)
  refine bodyPost_ret (v := .agg co) (results_cell_row (p := 2) rfl _ _ _ _ _ _ _ rfl HW3.out Tryz.underlying24 rfl (by rw [HS.out]; exact size_IDs)) rfl ?_
  exact ⟨by rw [HCO.out], HF3.out⟩
end Go.Proofs.YtgbhdjncccmabaaGreatDoor

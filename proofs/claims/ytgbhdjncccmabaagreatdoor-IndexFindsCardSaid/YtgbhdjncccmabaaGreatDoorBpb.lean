/- What is proved: what the walks of this seat need of layers below, merged out of the texts Shb (of each just what is needed). Conditions: each theorem names its own. -/
import Derived.LoopN
import Derived.Test.YtgbhdjncccmabaaGreatDoorBpa
set_option maxRecDepth 100000
/- What is proved: what the program's Block makes of a state and of bytes; what Start answers. Conditions: the table of constants holds what start-up lays; the bytes lie where they are said to lie. -/
namespace Go.Proofs.YtgbhdjncccmabaaGreatDoor
open Go.RowKit
set_option linter.unusedVariables false
def S8.add (s q : S8) : S8 := ⟨(s.a + q.a) % 4294967296, (s.b + q.b) % 4294967296, (s.c + q.c) % 4294967296, (s.d + q.d) % 4294967296, (s.e + q.e) % 4294967296, (s.f + q.f) % 4294967296, (s.g + q.g) % 4294967296, (s.h + q.h) % 4294967296⟩
/-- What a state becomes by 64 bytes. -/
def blk (s : S8) (b : List UInt8) : S8 := s.add (rnds s (ws b 64) 64)
def S8.zero : S8 := ⟨0, 0, 0, 0, 0, 0, 0, 0⟩
/-- The start. -/
def S8.start : S8 := ⟨1779033703, 3144134277, 1013904242, 2773480762, 1359893119, 2600822924, 528734635, 1541459225⟩
theorem size8 : (Tryz.prog.info? 111).map (·.size) = some 8 := by kernel_rfl
theorem SStart_any (w : World) : Calls Tryz.prog 76 #[] w fun e w' => e = .returned (.agg S8.start.vals) ∧ Below w.heap.size w w' := by
  have hW := Whole.new w 111 S8.zero.vals
  have hF : Fr (fun _ => False) w (w.alloc (.cells S8.zero.vals 111)) := (Fr.refl _ w).alloc _
  have HW := Lib.hid hW
  have HF := Lib.hid hF
  clear hW hF
  go_enter Tryz.func76, Tryz.ntmps76
  go_wp2_with (refine wpList_store_at rfl 111 _ _ rfl w.heap.size 0 111 _ S8.start.vals rfl rfl HW.out (show 0 + 8 ≤ 8 from Nat.le_refl 8) size8 (S8.one _) ?_; intro w2 hw2 hf2)
  replace hw2 := S8.laid hw2
  refine bodyPost_ret (v := .agg S8.start.vals) (results_cell_row (p := 0) rfl _ _ _ _ _ _ _ rfl hw2 Tryz.underlying111 rfl size8) rfl ?_
  exact ⟨rfl, (HF.out.trans hf2 (fun i hi e => by omega)).below (fun _ _ e => e)⟩
theorem S8.set0 (s : S8) (x : Int) : s.vals.setIfInBounds 0 (.int .u32 x) = S8.vals ⟨x, s.b, s.c, s.d, s.e, s.f, s.g, s.h⟩ := by simp [S8.vals]
theorem S8.set1 (s : S8) (x : Int) : s.vals.setIfInBounds 1 (.int .u32 x) = S8.vals ⟨s.a, x, s.c, s.d, s.e, s.f, s.g, s.h⟩ := by simp [S8.vals]
theorem S8.set2 (s : S8) (x : Int) : s.vals.setIfInBounds 2 (.int .u32 x) = S8.vals ⟨s.a, s.b, x, s.d, s.e, s.f, s.g, s.h⟩ := by simp [S8.vals]
theorem S8.set3 (s : S8) (x : Int) : s.vals.setIfInBounds 3 (.int .u32 x) = S8.vals ⟨s.a, s.b, s.c, x, s.e, s.f, s.g, s.h⟩ := by simp [S8.vals]
theorem S8.set4 (s : S8) (x : Int) : s.vals.setIfInBounds 4 (.int .u32 x) = S8.vals ⟨s.a, s.b, s.c, s.d, x, s.f, s.g, s.h⟩ := by simp [S8.vals]
theorem S8.set5 (s : S8) (x : Int) : s.vals.setIfInBounds 5 (.int .u32 x) = S8.vals ⟨s.a, s.b, s.c, s.d, s.e, x, s.g, s.h⟩ := by simp [S8.vals]
theorem S8.set6 (s : S8) (x : Int) : s.vals.setIfInBounds 6 (.int .u32 x) = S8.vals ⟨s.a, s.b, s.c, s.d, s.e, s.f, x, s.h⟩ := by simp [S8.vals]
theorem S8.set7 (s : S8) (x : Int) : s.vals.setIfInBounds 7 (.int .u32 x) = S8.vals ⟨s.a, s.b, s.c, s.d, s.e, s.f, s.g, x⟩ := by simp [S8.vals]
theorem S8.cells {w : World} {g : Nat} {s : S8} (h : Whole w g 111 s.vals) : w.cell? ⟨g, 0, none⟩ = some (.int .u32 s.a) ∧ w.cell? ⟨g, 1, none⟩ = some (.int .u32 s.b) ∧ w.cell? ⟨g, 2, none⟩ = some (.int .u32 s.c) ∧ w.cell? ⟨g, 3, none⟩ = some (.int .u32 s.d) ∧
    w.cell? ⟨g, 4, none⟩ = some (.int .u32 s.e) ∧ w.cell? ⟨g, 5, none⟩ = some (.int .u32 s.f) ∧ w.cell? ⟨g, 6, none⟩ = some (.int .u32 s.g) ∧ w.cell? ⟨g, 7, none⟩ = some (.int .u32 s.h) :=
  ⟨h.cell 0, h.cell 1, h.cell 2, h.cell 3, h.cell 4, h.cell 5, h.cell 6, h.cell 7⟩
set_option maxHeartbeats 1600000 in
theorem SBlock_ok (s : S8) (bk off cap : Nat) (bs : List UInt8) (w : World) (hlen : bs.length = 64) (hl : ∀ i, i < 64 → w.cell? ⟨bk, off + i, none⟩ = some (.int .u8 (byteI bs i))) (ht : Tab w) :
    Calls Tryz.prog 78 #[.agg s.vals, .slice (some ⟨bk, off, none⟩) 64 cap] w fun e w' => e = .returned (.tuple #[.agg (blk s bs).vals, .int .i64 0]) ∧ Below w.heap.size w w' := by
  obtain ⟨w1, hw1⟩ : ∃ w1, ((w.alloc (.cells s.vals 111)).alloc (.cells S8.zero.vals 111)) = w1 := ⟨_, rfl⟩
  have hF : Fr (fun _ => False) w w1 := by subst hw1; exact ((Fr.refl _ w).alloc _).alloc _
  have hW : Whole w1 (w.heap.size + 1) 111 S8.zero.vals := by
    subst hw1
    have h := Whole.new (w.alloc (.cells s.vals 111)) 111 S8.zero.vals
    have e : (w.alloc (.cells s.vals 111)).heap.size = w.heap.size + 1 := by simp
    rwa [e] at h
  have hS : Whole w1 w.heap.size 111 s.vals := by
    subst hw1
    exact (Whole.new w 111 s.vals).fr ((Fr.refl (fun _ => False) _).alloc _) (fun e => e)
  have HT := Lib.hid (ht.fr hF (fun e => e))
  have HB := Lib.hid (fun i (hi : i < 64) => hF.cell (hl i hi) (fun e => e))
  have HS := Lib.hid hS
  have HW := Lib.hid hW
  have HF := Lib.hid hF
  have hS0 := S8.cells hS
  clear ht hl hS hW hF
  unfold S8.zero S8.vals at hw1
  obtain ⟨sv, hsv⟩ : ∃ sv, s.vals = sv := ⟨_, rfl⟩
  have hsv2 := hsv
  unfold S8.vals at hsv2
  rw [hsv2] at hw1
  rw [hsv]
  clear hsv2
  have hsv3 := hsv
  unfold S8.vals at hsv3
  have hd : w.drew.heap = w.heap := rfl
  go_enter Tryz.func78, Tryz.ntmps78
  go_wp2_with fail
  clear hw1
  go_region_held3 (fun w' => w'.cell? ⟨w.heap.size, 0, none⟩ = some (.int .u32 s.a) ∧ w'.cell? ⟨w.heap.size, 1, none⟩ = some (.int .u32 s.b) ∧ w'.cell? ⟨w.heap.size, 2, none⟩ = some (.int .u32 s.c) ∧ w'.cell? ⟨w.heap.size, 3, none⟩ = some (.int .u32 s.d) ∧
    w'.cell? ⟨w.heap.size, 4, none⟩ = some (.int .u32 s.e) ∧ w'.cell? ⟨w.heap.size, 5, none⟩ = some (.int .u32 s.f) ∧ w'.cell? ⟨w.heap.size, 6, none⟩ = some (.int .u32 s.g) ∧ w'.cell? ⟨w.heap.size, 7, none⟩ = some (.int .u32 s.h)) (first
      | exact S8.cells (HS.out.fr ((Fr.refl (fun _ => False) w1).drew) (fun e => e))
      | exact S8.cells (HS.out.fr ((Fr.refl (fun _ => False) w1).drew.then_below b2) (fun e => e))
      | exact S8.cells (HS.out.fr (((Fr.refl (fun _ => False) w1).drew.then_below b2).then_below b3) (fun e => e))) (first
    | (go_at_call 103; refine (Sspread_any bk off cap bs w1.drew hlen (fun i hi => (HB.out i hi))).mono ?_; rintro e w2 ⟨rfl, b2⟩)
    | (go_at_call 102; rw [← hsv]; refine (Smixed_any s (ws bs 64) w2 (ws_length _ _) (HT.out.fr ((Fr.refl (fun _ => False) w1).drew.then_below b2) (fun e => e))).mono ?_; rintro e w3 ⟨rfl, b3⟩))
  have F3 : Fr (fun _ => False) w1 w3 := ((Fr.refl (fun _ => False) w1).drew.then_below b2).then_below b3
  have hs3 := HS.out.fr F3 (fun e => e)
  have hw3 := HW.out.fr F3 (fun e => e)
  have hF3 := HF.out.trans F3 (fun i hi e => e)
  obtain ⟨q, hq⟩ : ∃ q, rnds s (ws bs 64) 64 = q := ⟨_, rfl⟩
  rw [hq]
  have HQ := Lib.hid (show blk s bs = s.add q by unfold blk; rw [hq])
  clear hS0 F3 hq hsv3 hsv
  have f0 := hs3.frozen 0
  have f1 := hs3.frozen 1
  have f2 := hs3.frozen 2
  have f3 := hs3.frozen 3
  have f4 := hs3.frozen 4
  have f5 := hs3.frozen 5
  have f6 := hs3.frozen 6
  have f7 := hs3.frozen 7
  obtain ⟨c0, c1, c2, c3, c4, c5, c6, c7⟩ := S8.cells hs3
  have i0 : ∀ w : World, (Instr.index 111 (.agg q.vals) (.int .i64 0)).run Tryz.prog w = .ok (.int .u32 q.a) w := fun _ => by kernel_rfl
  have i1 : ∀ w : World, (Instr.index 111 (.agg q.vals) (.int .i64 1)).run Tryz.prog w = .ok (.int .u32 q.b) w := fun _ => by kernel_rfl
  have i2 : ∀ w : World, (Instr.index 111 (.agg q.vals) (.int .i64 2)).run Tryz.prog w = .ok (.int .u32 q.c) w := fun _ => by kernel_rfl
  have i3 : ∀ w : World, (Instr.index 111 (.agg q.vals) (.int .i64 3)).run Tryz.prog w = .ok (.int .u32 q.d) w := fun _ => by kernel_rfl
  have i4 : ∀ w : World, (Instr.index 111 (.agg q.vals) (.int .i64 4)).run Tryz.prog w = .ok (.int .u32 q.e) w := fun _ => by kernel_rfl
  have i5 : ∀ w : World, (Instr.index 111 (.agg q.vals) (.int .i64 5)).run Tryz.prog w = .ok (.int .u32 q.f) w := fun _ => by kernel_rfl
  have i6 : ∀ w : World, (Instr.index 111 (.agg q.vals) (.int .i64 6)).run Tryz.prog w = .ok (.int .u32 q.g) w := fun _ => by kernel_rfl
  have i7 : ∀ w : World, (Instr.index 111 (.agg q.vals) (.int .i64 7)).run Tryz.prog w = .ok (.int .u32 q.h) w := fun _ => by kernel_rfl
  obtain ⟨W4, hW4⟩ : ∃ W4, (((((((((w3.setCell ⟨w.heap.size, 0, none⟩ (.int .u32 ((s.a + q.a) % 4294967296))).setCell ⟨w.heap.size, 1, none⟩ (.int .u32 ((s.b + q.b) % 4294967296))).setCell ⟨w.heap.size, 2, none⟩ (.int .u32 ((s.c + q.c) % 4294967296))).setCell ⟨w.heap.size, 3, none⟩ (.int .u32 ((s.d + q.d) % 4294967296))).setCell ⟨w.heap.size, 4, none⟩ (.int .u32 ((s.e + q.e) % 4294967296))).setCell ⟨w.heap.size, 5, none⟩ (.int .u32 ((s.f + q.f) % 4294967296))).setCell ⟨w.heap.size, 6, none⟩ (.int .u32 ((s.g + q.g) % 4294967296))).setCell ⟨w.heap.size, 7, none⟩ (.int .u32 ((s.h + q.h) % 4294967296)))) = W4 := ⟨_, rfl⟩
  have hs4 : Whole W4 w.heap.size 111 (s.add q).vals := by
    subst hW4
    have h := hs3.set 0 (.int .u32 ((s.a + q.a) % 4294967296))
    rw [S8.set0] at h
    have h := h.set 1 (.int .u32 ((s.b + q.b) % 4294967296))
    rw [S8.set1] at h
    have h := h.set 2 (.int .u32 ((s.c + q.c) % 4294967296))
    rw [S8.set2] at h
    have h := h.set 3 (.int .u32 ((s.d + q.d) % 4294967296))
    rw [S8.set3] at h
    have h := h.set 4 (.int .u32 ((s.e + q.e) % 4294967296))
    rw [S8.set4] at h
    have h := h.set 5 (.int .u32 ((s.f + q.f) % 4294967296))
    rw [S8.set5] at h
    have h := h.set 6 (.int .u32 ((s.g + q.g) % 4294967296))
    rw [S8.set6] at h
    have h := h.set 7 (.int .u32 ((s.h + q.h) % 4294967296))
    rw [S8.set7] at h
    exact h
  have hF4 : Fr (fun _ => False) w W4 := by
    subst hW4
    exact (((((((hF3.setCell (p := ⟨w.heap.size, 0, none⟩) (fun e => absurd e (Nat.lt_irrefl _)) _).setCell (p := ⟨w.heap.size, 1, none⟩) (fun e => absurd e (Nat.lt_irrefl _)) _).setCell (p := ⟨w.heap.size, 2, none⟩) (fun e => absurd e (Nat.lt_irrefl _)) _).setCell (p := ⟨w.heap.size, 3, none⟩) (fun e => absurd e (Nat.lt_irrefl _)) _).setCell (p := ⟨w.heap.size, 4, none⟩) (fun e => absurd e (Nat.lt_irrefl _)) _).setCell (p := ⟨w.heap.size, 5, none⟩) (fun e => absurd e (Nat.lt_irrefl _)) _).setCell (p := ⟨w.heap.size, 6, none⟩) (fun e => absurd e (Nat.lt_irrefl _)) _).setCell (p := ⟨w.heap.size, 7, none⟩) (fun e => absurd e (Nat.lt_irrefl _)) _
  have hw4 : Whole W4 (w.heap.size + 1) 111 S8.zero.vals := by
    have hfr : Fr (fun k => k = w.heap.size) w3 W4 := by
      subst hW4
      exact ((((((((Fr.refl (fun k => k = w.heap.size) w3).setCell (p := ⟨w.heap.size, 0, none⟩) (fun _ => rfl) _).setCell (p := ⟨w.heap.size, 1, none⟩) (fun _ => rfl) _).setCell (p := ⟨w.heap.size, 2, none⟩) (fun _ => rfl) _).setCell (p := ⟨w.heap.size, 3, none⟩) (fun _ => rfl) _).setCell (p := ⟨w.heap.size, 4, none⟩) (fun _ => rfl) _).setCell (p := ⟨w.heap.size, 5, none⟩) (fun _ => rfl) _).setCell (p := ⟨w.heap.size, 6, none⟩) (fun _ => rfl) _).setCell (p := ⟨w.heap.size, 7, none⟩) (fun _ => rfl) _
    exact hw3.fr hfr (show ¬ (w.heap.size + 1 = w.heap.size) by omega)
  have HW4 := Lib.hid hW4
  clear hW4 hs3 hw3 hF3
  go_wp2_with fail
  refine wp_loop_rounds 9 ?_
  rw [rounds_succ]
  go_wp2_with fail
  rw [rounds_succ]
  go_wp2_with fail
  rw [rounds_succ]
  go_wp2_with fail
  rw [rounds_succ]
  go_wp2_with fail
  rw [rounds_succ]
  go_wp2_with fail
  rw [rounds_succ]
  go_wp2_with fail
  rw [rounds_succ]
  go_wp2_with fail
  rw [rounds_succ]
  go_wp2_with fail
  rw [HW4.out]
  clear c0 c1 c2 c3 c4 c5 c6 c7 f0 f1 f2 f3 f4 f5 f6 f7 i0 i1 i2 i3 i4 i5 i6 i7
  rw [rounds_succ]
  go_wp2_with (first
    | (refine wpList_load_row rfl 111 _ rfl _ rfl 111 _ _ _ hs4 Tryz.underlying111 rfl size8 ?_)
    | (refine wpList_store_at rfl 111 _ _ rfl (w.heap.size + 1) 0 111 _ (s.add q).vals rfl rfl hw4 (show 0 + 8 ≤ 8 from Nat.le_refl 8) size8 (S8.one _) ?_; intro w5 hw5 hf5))
  replace hw5 := S8.laid hw5
  rw [HQ.out]
  refine bodyPost_ret (v := .tuple #[.agg (s.add q).vals, .int .i64 0]) (results_cell_slot (p := 4) (u := 5) rfl _ _ _ _ _ _ rfl hw5 Tryz.underlying111 rfl size8) rfl ?_
  exact ⟨rfl, (hF4.trans hf5 (fun i hi e => by omega)).below (fun _ _ e => e)⟩
end Go.Proofs.YtgbhdjncccmabaaGreatDoor

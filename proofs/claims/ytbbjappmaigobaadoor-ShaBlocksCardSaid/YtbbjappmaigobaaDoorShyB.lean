/- What is proved: the walk of the law ShaBlocks, for every state and all bytes. Conditions: the table of constants holds what start-up lays. -/
import Derived.Test.YtbbjappmaigobaaDoorSeq
import Derived.Test.YtbbjappmaigobaaDoorShk
namespace Go.Proofs.YtbbjappmaigobaaDoor.blocks
open Go.ChangeShapes Go.WideShapes Go.ChangeAt Go.RowKit
set_option linter.unusedVariables false

theorem both {w : World} {g h : Nat} {q s : S8} (hh : Whole w g 23 q.vals ∧ Whole w h 23 s.vals) :
    w.cell? ⟨g, 0, none⟩ = some (.int .u32 q.a) ∧ w.cell? ⟨g, 1, none⟩ = some (.int .u32 q.b) ∧ w.cell? ⟨g, 2, none⟩ = some (.int .u32 q.c) ∧ w.cell? ⟨g, 3, none⟩ = some (.int .u32 q.d) ∧
    w.cell? ⟨g, 4, none⟩ = some (.int .u32 q.e) ∧ w.cell? ⟨g, 5, none⟩ = some (.int .u32 q.f) ∧ w.cell? ⟨g, 6, none⟩ = some (.int .u32 q.g) ∧ w.cell? ⟨g, 7, none⟩ = some (.int .u32 q.h) ∧
    w.cell? ⟨h, 0, none⟩ = some (.int .u32 s.a) ∧ w.cell? ⟨h, 1, none⟩ = some (.int .u32 s.b) ∧ w.cell? ⟨h, 2, none⟩ = some (.int .u32 s.c) ∧ w.cell? ⟨h, 3, none⟩ = some (.int .u32 s.d) ∧
    w.cell? ⟨h, 4, none⟩ = some (.int .u32 s.e) ∧ w.cell? ⟨h, 5, none⟩ = some (.int .u32 s.f) ∧ w.cell? ⟨h, 6, none⟩ = some (.int .u32 s.g) ∧ w.cell? ⟨h, 7, none⟩ = some (.int .u32 s.h) := by
  obtain ⟨a0, a1, a2, a3, a4, a5, a6, a7⟩ := S8.cells hh.1
  exact ⟨a0, a1, a2, a3, a4, a5, a6, a7, S8.cells hh.2⟩

set_option maxHeartbeats 800000 in
theorem walk_bad (s : S8) (A : Option Addr) (len cap : Nat) (w : World) (ht : Tab w) (hlen : len ≠ 64) (hm : len ≤ 9223372036854775807) :
    Calls Tryd.prog 3 #[.agg s.vals, .slice A len cap] w fun e w' => e = .returned (.bool true) ∧ Below w.heap.size w w' := by
  obtain ⟨w1, hw1⟩ : ∃ w1, w.alloc (.cells s.vals 23) = w1 := ⟨_, rfl⟩
  have hF : Fr (fun _ => False) w w1 := by subst hw1; exact (Fr.refl _ w).alloc _
  have hS : Whole w1 w.heap.size 23 s.vals := by subst hw1; exact Whole.new w 23 s.vals
  have HS := Lib.hid hS
  have HF := Lib.hid hF
  have HT := Lib.hid (ht.fr hF (fun e => e))
  have hne : ((len : Int) != 64) = true := by
    have : (len : Int) ≠ 64 := by omega
    simpa using this
  have heq : ∀ w, (Op.equalIn 10000 23 (.agg #[.int .u32 S8.zero.a, .int .u32 S8.zero.b, .int .u32 S8.zero.c, .int .u32 S8.zero.d, .int .u32 S8.zero.e, .int .u32 S8.zero.f, .int .u32 S8.zero.g, .int .u32 S8.zero.h]) (.agg #[.int .u32 0, .int .u32 0, .int .u32 0, .int .u32 0, .int .u32 0, .int .u32 0, .int .u32 0, .int .u32 0])).run Tryd.prog w = .ok true w := fun w => eq8 S8.zero w
  clear hS hF ht
  go_enter Tryd.func3, Tryd.ntmps3
  go_wp2_with (first
    | (refine wpList_load_row rfl 23 _ rfl _ rfl 23 _ _ _ HS.out Tryd.underlying23 rfl size8 ?_)
    | (go_at_call 7; refine (SBlock_bad s A len cap _ hlen hm).mono ?_; rintro e w2 ⟨rfl, b2⟩)
    | (refine wpList_store_at rfl 23 _ _ rfl w2.heap.size 0 23 _ S8.zero.vals rfl rfl (Whole.new w2 23 S8.zero.vals) (show 0 + 8 ≤ 8 from Nat.le_refl 8) size8 (S8.one _) ?_; intro w3 hw3 hf3; replace hw3 := S8.laid hw3; have hc3 := S8.cells hw3)
    | (refine wpList_load_row rfl 23 _ rfl w2.heap.size rfl 23 _ _ _ hw3 Tryd.underlying23 rfl size8 ?_)
    | (go_at_call 8; refine (works_any _ (Tab.fr HT.out (((Fr.refl (fun _ => False) w1).then_below b2).alloc _ |>.trans hf3 (fun i hi e => by have := b2.size; omega)) (fun e => e))).mono ?_; rintro e w4 ⟨rfl, b4⟩))
  go_ret
  exact ⟨rfl, (((HF.out.then_below b2).alloc _ |>.trans hf3 (fun i hi e => by have := b2.size; have := HF.out.size; omega)).then_below b4).below (fun _ _ e => e)⟩

set_option maxHeartbeats 1600000 in
theorem walk_ok (s : S8) (bk off cap : Nat) (bs : List UInt8) (w : World) (ht : Tab w) (hlen : bs.length = 64) (hl : ∀ i, i < 64 → w.cell? ⟨bk, off + i, none⟩ = some (.int .u8 (byteI bs i))) :
    Calls Tryd.prog 3 #[.agg s.vals, .slice (some ⟨bk, off, none⟩) 64 cap] w fun e w' => e = .returned (.bool true) ∧ Below w.heap.size w w' := by
  obtain ⟨w1, hw1⟩ : ∃ w1, w.alloc (.cells s.vals 23) = w1 := ⟨_, rfl⟩
  have hF : Fr (fun _ => False) w w1 := by subst hw1; exact (Fr.refl _ w).alloc _
  have hS : Whole w1 w.heap.size 23 s.vals := by subst hw1; exact Whole.new w 23 s.vals
  have HS := Lib.hid hS
  have HF := Lib.hid hF
  have HT := Lib.hid (ht.fr hF (fun e => e))
  have HB := Lib.hid (fun i (hi : i < 64) => hF.cell (hl i hi) (fun e => e))
  obtain ⟨q, hq⟩ : ∃ q, blk s bs = q := ⟨_, rfl⟩
  have heq : ∀ w, (Op.equalIn 10000 23 (.agg #[.int .u32 q.a, .int .u32 q.b, .int .u32 q.c, .int .u32 q.d, .int .u32 q.e, .int .u32 q.f, .int .u32 q.g, .int .u32 q.h]) (.agg q.vals)).run Tryd.prog w = .ok true w := fun w => eq8 q w
  have heq2 : ∀ w, (Op.equalIn 10000 23 (.agg S8.start.vals) (.agg S8.start.vals)).run Tryd.prog w = .ok true w := fun w => eq8 S8.start w
  have HQ := Lib.hid hq
  clear hS hF ht hl hq
  go_enter Tryd.func3, Tryd.ntmps3
  go_wp2_with (first
    | (refine wpList_load_row rfl 23 _ rfl _ rfl 23 _ _ _ HS.out Tryd.underlying23 rfl size8 ?_)
    | (go_at_call 7; refine (SBlock_ok s bk off cap bs _ hlen HB.out HT.out).mono ?_; rintro e w2 ⟨rfl, b2⟩; rw [HQ.out])
    | (refine wpList_store_at rfl 23 _ _ rfl w2.heap.size 0 23 _ q.vals rfl rfl (Whole.new w2 23 S8.zero.vals) (show 0 + 8 ≤ 8 from Nat.le_refl 8) size8 (S8.one _) ?_; intro w3 hw3 hf3; replace hw3 := S8.laid hw3))
  have F3 : Fr (fun _ => False) w1 w3 := ((Fr.refl (fun _ => False) w1).then_below b2).alloc _ |>.trans hf3 (fun i hi e => by have := b2.size; omega)
  have hs3 := HS.out.fr F3 (fun e => e)
  obtain ⟨k0, k1, k2, k3, k4, k5, k6, k7⟩ := S8.cells hw3
  obtain ⟨l0, l1, l2, l3, l4, l5, l6, l7⟩ := S8.cells hs3
  have HW3 := Lib.hid hw3
  have HS3 := Lib.hid hs3
  have HF3 := Lib.hid F3
  clear hw3 hs3 F3
  go_region_held3 (fun w' => w'.cell? ⟨w2.heap.size, 0, none⟩ = some (.int .u32 q.a) ∧ w'.cell? ⟨w2.heap.size, 1, none⟩ = some (.int .u32 q.b) ∧ w'.cell? ⟨w2.heap.size, 2, none⟩ = some (.int .u32 q.c) ∧ w'.cell? ⟨w2.heap.size, 3, none⟩ = some (.int .u32 q.d) ∧
    w'.cell? ⟨w2.heap.size, 4, none⟩ = some (.int .u32 q.e) ∧ w'.cell? ⟨w2.heap.size, 5, none⟩ = some (.int .u32 q.f) ∧ w'.cell? ⟨w2.heap.size, 6, none⟩ = some (.int .u32 q.g) ∧ w'.cell? ⟨w2.heap.size, 7, none⟩ = some (.int .u32 q.h) ∧
    w'.cell? ⟨w.heap.size, 0, none⟩ = some (.int .u32 s.a) ∧ w'.cell? ⟨w.heap.size, 1, none⟩ = some (.int .u32 s.b) ∧ w'.cell? ⟨w.heap.size, 2, none⟩ = some (.int .u32 s.c) ∧ w'.cell? ⟨w.heap.size, 3, none⟩ = some (.int .u32 s.d) ∧
    w'.cell? ⟨w.heap.size, 4, none⟩ = some (.int .u32 s.e) ∧ w'.cell? ⟨w.heap.size, 5, none⟩ = some (.int .u32 s.f) ∧ w'.cell? ⟨w.heap.size, 6, none⟩ = some (.int .u32 s.g) ∧ w'.cell? ⟨w.heap.size, 7, none⟩ = some (.int .u32 s.h))
    (first | exact both hk7 | exact both hk6 | exact both hk5 | exact both hk4 | go_keep) (first
    | (go_at_call 9; refine (QBlock_any s bk off cap bs w3.drew hlen (fun i hi => Fr.cell (HF3.out.drew) (HB.out i hi) (fun e => e))).mono ?_; rintro e w4 ⟨rfl, b4⟩; rw [HQ.out]; have F4 := (Fr.refl (fun _ => False) w3).drew.then_below b4; have hk4 := And.intro (HW3.out.fr F4 (fun e => e)) (HS3.out.fr F4 (fun e => e)))
    | (go_at_call 10; refine (SStart_any _).mono ?_; rintro e w5 ⟨rfl, b5⟩; have F5 := F4.then_below b5; have hk5 := And.intro (HW3.out.fr F5 (fun e => e)) (HS3.out.fr F5 (fun e => e)))
    | (go_at_call 11; refine (QStart_any _).mono ?_; rintro e w6 ⟨rfl, b6⟩; have F6 := F5.then_below b6; have hk6 := And.intro (HW3.out.fr F6 (fun e => e)) (HS3.out.fr F6 (fun e => e)))
    | (go_at_call 8; refine (works_any _ (Tab.fr HT.out (HF3.out.trans F6 (fun _ _ e => e)) (fun e => e))).mono ?_; rintro e w7 ⟨rfl, b7⟩; have F7 := F6.then_below b7; have hk7 := And.intro (HW3.out.fr F7 (fun e => e)) (HS3.out.fr F7 (fun e => e))))
  go_wp2_with fail
  go_ret
  exact ⟨rfl, ((HF.out.trans HF3.out (fun _ _ e => e)).trans F7 (fun _ _ e => e)).below (fun _ _ e => e)⟩
end Go.Proofs.YtbbjappmaigobaaDoor.blocks

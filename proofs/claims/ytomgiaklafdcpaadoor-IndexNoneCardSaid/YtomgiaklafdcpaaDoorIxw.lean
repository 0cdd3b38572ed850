/- What is proved: Begins of an index that has no ids, by the program. Conditions: its Len is 0. -/
import Derived.Test.YtomgiaklafdcpaaDoorIxv
namespace Go.Proofs.YtomgiaklafdcpaaDoor
open Go.RowKit
set_option linter.unusedVariables false

set_option maxHeartbeats 1600000 in
set_option maxRecDepth 100000 in
theorem Iids_e (ptr : Value) (w : World) (hL : Calls Tryd.prog 15 #[ptr] w fun e w' => e = .returned (.int .i64 0) ∧ w = w') :
    Calls Tryd.prog 33 #[ptr] w fun e w' => e = .returned (.slice (some ⟨w.heap.size, 0, none⟩) 0 0) ∧ Fr (fun _ => False) w w' := by
  obtain ⟨i0, hi, hz0, hz1, hz2⟩ := info_parts infoIDs
  have HLN := Lib.hid hL
  clear hL
  go_enter Tryd.func33, Tryd.ntmps33
  go_upto_region 2 with (first
    | (go_at_call 15; refine HLN.out.mono ?_; rintro e w' ⟨rfl, rfl⟩)
    | (at_make; refine wpList_make_full _ rfl _ _ 63 rfl w.heap.size 24 i0 (.agg zero32) 32 Tryd.underlying63 hi hz0 hz1 .i64 .i64 _ _ 0 rfl rfl rfl rfl (by omega) (by unfold maxLen; omega) (Nat.le_refl _) ?_; intro w1 ho1 hg1; have HF1 := Lib.hid (show Fr (fun _ => False) w w1 from (Fr.refl _ w).grown hg1 (fun _ e => by cases e)); clear ho1 hg1))
  go_wp2_with fail
  refine wp_loop_rounds 1 ?_
  rw [rounds_succ]
  go_wp2_with fail
  go_ret
  exact ⟨rfl, HF1.out⟩
theorem slice_e (g : Nat) (w : World) : (Instr.slice 63 (.slice (some ⟨g, 0, none⟩) 0 0) (some (.int .i64 0)) (some (.int .i64 0)) none).run Tryd.prog w = .ok (.slice (some ⟨g, 0, none⟩) 0 0) w := by kernel_rfl
theorem rg_nil (a : Nat) (N : Int) : rgA [] a N = 0 ∧ rgB [] a N = 0 := by
  unfold rgA rgB posN
  constructor <;> (split <;> simp)

set_option maxHeartbeats 1600000 in
set_option maxRecDepth 100000 in
theorem IBegins_e (ptr : Value) (a : Nat) (N : Int) (h0 : -9223372036854775808 ≤ N) (h1 : N ≤ 9223372036854775807) (ha : a < big) (w : World) (hL : ∀ w', Fr (fun _ => False) w w' → Calls Tryd.prog 15 #[ptr] w' fun e w'' => e = .returned (.int .i64 0) ∧ w' = w'') :
    Calls Tryd.prog 19 #[ptr, .agg (pfC (dgt a) N)] w fun e w' => e = .returned (.slice (some ⟨w.heap.size + 1, 0, none⟩) 0 0) ∧ Below w.heap.size w w' := by
  obtain ⟨w0, hw0⟩ : ∃ w0, w.alloc (.cells (pfC (dgt a) N) 55) = w0 := ⟨_, rfl⟩
  have hF0 : Fr (fun _ => False) w w0 := by subst hw0; exact (Fr.refl _ w).alloc _
  have hs0 : w0.heap.size = w.heap.size + 1 := by subst hw0; simp
  have hP : Whole w0 w.heap.size 55 (pfC (dgt a) N) := by subst hw0; exact Whole.new w 55 _
  have HF0 := Lib.hid hF0
  have HS0 := Lib.hid hs0
  have HP := Lib.hid hP
  have HID := Lib.hid (Iids_e ptr w0 (hL w0 hF0))
  have hps := pfC_size (dgt a) N
  have HRG := Lib.hid (fun w' A c => ORange_any A c [] a N h0 h1 (by simp) ha (by simp) w' (.inl rfl))
  rw [(rg_nil a N).1, (rg_nil a N).2, show ([] : List Nat).length = 0 from rfl] at HRG
  obtain ⟨TP, hTP⟩ : ∃ T : TypeId, T = 55 := ⟨_, rfl⟩
  obtain ⟨n33, h33⟩ : ∃ n : Nat, n = 33 := ⟨_, rfl⟩
  have agP : ∀ w, (isAgg TP).run Tryd.prog w = .ok true w := by rw [hTP]; exact fun _ => by kernel_rfl
  have szP : ∀ w, (sizeOf TP).run Tryd.prog w = .ok n33 w := by rw [hTP, h33]; exact fun _ => by kernel_rfl
  have HLP := Lib.hid (show ∀ w', Fr (fun _ => False) w0 w' → (loadCellsFrom ⟨w.heap.size, 0, none⟩ 0 n33 #[]).run Tryd.prog w' = .ok (pfC (dgt a) N) w' from fun w' f => by
    have := load_first (hP.fr f (fun e => e)) (Fr.refl _ w') (n := n33) (by omega)
    rwa [h33, List.take_of_length_le (by rw [Array.length_toList]; omega), Array.toArray_toList, ← h33] at this)
  obtain ⟨cp, hcp⟩ : ∃ c, pfC (dgt a) N = c := ⟨_, rfl⟩
  rw [hcp] at hw0 HP HRG HLP ⊢
  have hse := fun g w => slice_e g w
  clear hF0 hs0 hP hps hcp hL h33
  rw [← HS0.out]
  go_enter Tryd.func19, Tryd.ntmps19
  rw [show Op.load 55 (.tmp 3) = Op.load TP (.tmp 3) by rw [hTP]]
  clear hTP
  go_upto_region 2 with (go_at_call 33; refine HID.out.mono ?_; rintro e w1 ⟨rfl, f1⟩; have HF1 := Lib.hid f1; have l1 := HLP.out w1 f1; clear f1)
  go_wp2_with (go_at_call 44; refine (HRG.out _ _ _).mono ?_; rintro e w2 ⟨rfl, b2⟩; have HB2 := Lib.hid b2; clear b2)
  go_ret
  exact ⟨rfl, ((HF0.out.trans HF1.out (fun _ _ e => e)).then_below HB2.out).below (fun _ _ e => e)⟩
end Go.Proofs.YtomgiaklafdcpaaDoor

/- What is proved: the walk of the law OidFits, for every beginning and every two ids. Conditions: none. -/
import Derived.Test.YtbfbgopbelmghaaOiw
namespace Go.Proofs.Ytbfbgopbelmghaa
open Go.RowKit
set_option linter.unusedVariables false

set_option maxHeartbeats 3200000 in
theorem fits_walk (p a b : Nat) (hp : p < big) (ha : a < big) (hb : b < big) (N : Int) (h0 : -9223372036854775808 ≤ N) (h1 : N ≤ 9223372036854775807) (w : World) :
    Calls Try.prog 5 #[.agg (pfC (dgt p) N), .agg (idC (dgt a)), .agg (idC (dgt b))] w fun e w' => e = .returned (.bool true) ∧ Below w.heap.size w w' := by
  obtain ⟨w1, hw1⟩ : ∃ w1, w.alloc (.cells (pfC (dgt p) N) 30) = w1 := ⟨_, rfl⟩
  obtain ⟨w2, hw2⟩ : ∃ w2, w1.alloc (.cells (idC (dgt a)) 23) = w2 := ⟨_, rfl⟩
  obtain ⟨w3, hw3⟩ : ∃ w3, w2.alloc (.cells (idC (dgt b)) 23) = w3 := ⟨_, rfl⟩
  have hF1 : Fr (fun _ => False) w w1 := by subst hw1; exact (Fr.refl _ w).alloc _
  have hF2 : Fr (fun _ => False) w1 w2 := by subst hw2; exact (Fr.refl _ w1).alloc _
  have hF3 : Fr (fun _ => False) w2 w3 := by subst hw3; exact (Fr.refl _ w2).alloc _
  have hP : Whole w3 w.heap.size 30 (pfC (dgt p) N) := by subst hw1; exact ((Whole.new w 30 _).fr hF2 (fun e => e)).fr hF3 (fun e => e)
  have hA : Whole w3 w1.heap.size 23 (idC (dgt a)) := by subst hw2; exact (Whole.new w1 23 _).fr hF3 (fun e => e)
  have hB : Whole w3 w2.heap.size 23 (idC (dgt b)) := by subst hw3; exact Whole.new w2 23 _
  have HF := Lib.hid ((hF1.trans hF2 (fun _ _ e => e)).trans hF3 (fun _ _ e => e))
  have cN : ∀ q : Later w3, q.w'.cell? ⟨w.heap.size, 32, none⟩ = some (.int .i64 N) := fun q => by rw [(hP.fr q.fr (fun e => e)).cell, pfC_N]
  have lP : ∀ q : Later w3, (loadCellsFrom ⟨w.heap.size, 0, none⟩ 0 33 #[]).run Try.prog q.w' = .ok (pfC (dgt p) N) q.w' := fun q => by
    have := load_first hP q.fr (n := 33) (by rw [pfC_size]; omega)
    rwa [List.take_of_length_le (by rw [Array.length_toList, pfC_size]; omega), Array.toArray_toList] at this
  have lI : ∀ q : Later w3, (loadCellsFrom ⟨w.heap.size, 0, none⟩ 0 32 #[]).run Try.prog q.w' = .ok (idC (dgt p)) q.w' := fun q => by
    have := load_first hP q.fr (n := 32) (by rw [pfC_size]; omega)
    rwa [pfC_ids, Array.toArray_toList] at this
  have lA : ∀ q : Later w3, (loadCellsFrom ⟨w1.heap.size, 0, none⟩ 0 32 #[]).run Try.prog q.w' = .ok (idC (dgt a)) q.w' := fun q => by
    have := load_first hA q.fr (n := 32) (by rw [idC_size]; omega)
    rwa [List.take_of_length_le (by rw [Array.length_toList, idC_size]; omega), Array.toArray_toList] at this
  have lB : ∀ q : Later w3, (loadCellsFrom ⟨w2.heap.size, 0, none⟩ 0 32 #[]).run Try.prog q.w' = .ok (idC (dgt b)) q.w' := fun q => by
    have := load_first hB q.fr (n := 32) (by rw [idC_size]; omega)
    rwa [List.take_of_length_le (by rw [Array.length_toList, idC_size]; omega), Array.toArray_toList] at this
  have c1 := fun w => ORight_any p hp N h0 h1 w
  have c2 := fun w => QRight_any p hp N h0 h1 w
  have c3 := fun w => OFits_any p a hp ha N h0 h1 w
  have c4 := fun w => QFits_any p a hp ha N h0 h1 w
  have c5 := fun w => OCompare_any a b ha hb w
  have c6 := fun w => QCompare_any a b ha hb w
  obtain ⟨r1, hr1⟩ : ∃ r, rightB p N = r := ⟨_, rfl⟩
  obtain ⟨r2, hr2⟩ : ∃ r, fitB p N a = r := ⟨_, rfl⟩
  obtain ⟨r3, hr3⟩ : ∃ r, cmpN a b = r := ⟨_, rfl⟩
  rw [hr1] at c1 c2
  rw [hr2] at c3 c4
  rw [hr3] at c5 c6
  obtain ⟨cp, hcp⟩ : ∃ c, pfC (dgt p) N = c := ⟨_, rfl⟩
  obtain ⟨ci, hci⟩ : ∃ c, idC (dgt p) = c := ⟨_, rfl⟩
  obtain ⟨ca, hca⟩ : ∃ c, idC (dgt a) = c := ⟨_, rfl⟩
  obtain ⟨cb, hcb⟩ : ∃ c, idC (dgt b) = c := ⟨_, rfl⟩
  rw [hcp] at hw1 lP c1 c3 ⊢
  rw [hci] at lI c2 c4
  rw [hca] at hw2 lA c3 c4 c5 c6 ⊢
  rw [hcb] at hw3 lB c5 c6 ⊢
  obtain ⟨T33, hT33⟩ : ∃ T : TypeId, T = 30 := ⟨_, rfl⟩
  obtain ⟨T32, hT32⟩ : ∃ T : TypeId, T = 23 := ⟨_, rfl⟩
  obtain ⟨n33, hn33⟩ : ∃ n : Nat, 33 = n := ⟨_, rfl⟩
  obtain ⟨n32, hn32⟩ : ∃ n : Nat, 32 = n := ⟨_, rfl⟩
  have ag33 : ∀ w, (isAgg T33).run Try.prog w = .ok true w := by rw [hT33]; exact fun _ => by kernel_rfl
  have ag32 : ∀ w, (isAgg T32).run Try.prog w = .ok true w := by rw [hT32]; exact fun _ => by kernel_rfl
  have sz33 : ∀ w, (sizeOf T33).run Try.prog w = .ok n33 w := by rw [hT33, ← hn33]; exact fun _ => by kernel_rfl
  have sz32 : ∀ w, (sizeOf T32).run Try.prog w = .ok n32 w := by rw [hT32, ← hn32]; exact fun _ => by kernel_rfl
  rw [hn33] at lP
  rw [hn32] at lI lA lB
  have C1 := Lib.hid c1
  have C2 := Lib.hid c2
  have C3 := Lib.hid c3
  have C4 := Lib.hid c4
  have C5 := Lib.hid c5
  have C6 := Lib.hid c6
  clear c1 c2 c3 c4 c5 c6 hF1 hF2 hF3 hP hA hB hcp hci hca hcb hr1 hr2 hr3 hn32 hn33
  go_enter Try.func5, Try.ntmps5
  rw [show Op.load 30 (.tmp 3) = Op.load T33 (.tmp 3) by rw [hT33], show Op.load 23 (.tmp 4) = Op.load T32 (.tmp 4) by rw [hT32], show Op.load 23 (.tmp 5) = Op.load T32 (.tmp 5) by rw [hT32],
    show Op.load 23 (.tmp 9) = Op.load T32 (.tmp 9) by rw [hT32], show Op.load 23 (.tmp 19) = Op.load T32 (.tmp 19) by rw [hT32]]
  clear hT33 hT32
  go_wp2_with fail
  clear hw1 hw2 hw3
  refine wp_region_later (w0 := w3) (Fr.refl _ _) (by kernel_rfl) (by kernel_rfl) ?_
  repeat (quiet_step ((first
    | (go_at_call 16; refine Calls.later_of (C1.out _))
    | (go_at_call 17; refine Calls.later_of (C2.out _))
    | (go_at_call 18; refine Calls.later_of (C3.out _))
    | (go_at_call 19; refine Calls.later_of (C4.out _))
    | (go_at_call 20; refine Calls.later_of (C5.out _))
    | (go_at_call 21; refine Calls.later_of (C6.out _))
    | (go_at_call 15; refine Calls.later_of (works_any _)))))
  refine wpQuiet_nil ?_
  intro _ hw'
  obtain ⟨q, hw''⟩ := hw'
  subst hw''
  go_wp2_with fail
  go_ret
  exact ⟨rfl, (HF.out.trans q.fr (fun _ _ e => e)).below (fun _ _ e => e)⟩
end Go.Proofs.Ytbfbgopbelmghaa

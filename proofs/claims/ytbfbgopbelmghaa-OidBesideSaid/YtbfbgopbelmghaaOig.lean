/- What is proved: whether a beginning is right, and whether an id fits, by the program. Conditions: none. -/
import Derived.Test.YtbfbgopbelmghaaOif
import Derived.Test.YtbfbgopbelmghaaLat
namespace Go.Proofs.Ytbfbgopbelmghaa
open Go.RowKit
set_option linter.unusedVariables false

/-- A beginning of N digits is right. -/
def rightB (a : Nat) (N : Int) : Bool := decide (0 ≤ N ∧ N ≤ 64 ∧ RightN a N.toNat)
/-- An id fits it. -/
def fitB (a : Nat) (N : Int) (x : Nat) : Bool := decide (0 ≤ N ∧ N ≤ 64 ∧ FitN a N.toNat x)
theorem rightB_low (a : Nat) (N : Int) (h : N < 0) : rightB a N = false := by
  rw [rightB, decide_eq_false_iff_not]; omega
theorem rightB_high (a : Nat) (N : Int) (h : 64 < N) : rightB a N = false := by
  rw [rightB, decide_eq_false_iff_not]; omega
theorem rightB_mid (a n : Nat) (ha : a < big) (h : n ≤ 64) : rightB a n = sameD (dgt a) (cutD a n) := by
  rw [Bool.eq_iff_iff, rightB, decide_eq_true_eq, Int.toNat_natCast, right_iff_cut a n ha h, sameD_iff _ _ (dgt_lt a) (cutD_lt a n)]
  constructor
  · intro h; exact h.2.2
  · intro h; exact ⟨by omega, by omega, h⟩
theorem fitB_not (a : Nat) (N : Int) (x : Nat) (h : rightB a N = false) : fitB a N x = false := by
  rw [rightB, decide_eq_false_iff_not] at h
  rw [fitB, decide_eq_false_iff_not]
  intro h2
  exact h ⟨h2.1, h2.2.1, h2.2.2.1⟩
theorem rightB_range {a : Nat} {N : Int} (h : rightB a N = true) : 0 ≤ N ∧ N ≤ 64 ∧ RightN a N.toNat := by
  rw [rightB, decide_eq_true_eq] at h; exact h
theorem fitB_mid (a n x : Nat) (ha : a < big) (hx : x < big) (h : n ≤ 64) (hr : rightB a n = true) : fitB a n x = sameD (dgt a) (cutD x n) := by
  have hr' := (rightB_range hr).2.2
  rw [Int.toNat_natCast] at hr'
  rw [Bool.eq_iff_iff, fitB, decide_eq_true_eq, Int.toNat_natCast, sameD_iff _ _ (dgt_lt a) (cutD_lt x n), ← fit_iff_cut a n x ha hx h hr']
  constructor
  · intro h; exact h.2.2.2
  · intro h; exact ⟨by omega, by omega, hr', h⟩
theorem eq_pfx (a x : Nat) (N : Int) (n : Nat) (w : World) : (Op.equalIn 10000 30 (.agg (pfC (dgt a) N)) (.agg (pfC (cutD x n) N))).run Try.prog w = .ok (sameD (dgt a) (cutD x n)) w := by
  rw [eq_pfxs _ _ (dgt_lt a) (cutD_lt x n) N N 10000 (by decide) w]
  simp
theorem guardP : Try.prog.eqGuardType Try.prog.depth 30 = false := by kernel_rfl
theorem guardI : Try.prog.eqGuardType Try.prog.depth 23 = false := by kernel_rfl
/-- A row's first cells, as a load reads them. -/
theorem load_first {w w' : World} {g n : Nat} {t : TypeId} {Z : Array Value} (h : Whole w' g t Z) (f : Fr (fun _ => False) w' w) (hn : n ≤ Z.size) : (loadCellsFrom ⟨g, 0, none⟩ 0 n #[]).run Try.prog w = .ok (Z.toList.take n).toArray w := by
  have k := h.fr f (fun e => e)
  have h2 := run_loadCells_list (P := Try.prog) w ⟨g, 0, none⟩ (Z.toList.take n) (fun j v hv => by
    rw [add_off, Nat.zero_add, k.cell]
    rw [List.getElem?_take] at hv
    split at hv
    · simpa using hv
    · simp at hv)
  rw [List.length_take, Array.length_toList, Nat.min_eq_left hn] at h2
  simpa [loadCells] using h2

set_option maxHeartbeats 3200000 in
theorem ORight_any (a : Nat) (ha : a < big) (N : Int) (h0 : -9223372036854775808 ≤ N) (h1 : N ≤ 9223372036854775807) (w : World) : Calls Try.prog 16 #[.agg (pfC (dgt a) N)] w fun e w' => e = .returned (.bool (rightB a N)) ∧ Below w.heap.size w w' := by
  obtain ⟨w1, hw1⟩ : ∃ w1, w.alloc (.cells (pfC (dgt a) N) 30) = w1 := ⟨_, rfl⟩
  have hF : Fr (fun _ => False) w w1 := by subst hw1; exact (Fr.refl _ w).alloc _
  have hS : Whole w1 w.heap.size 30 (pfC (dgt a) N) := by subst hw1; exact Whole.new w 30 _
  have HF := Lib.hid hF
  have HS := Lib.hid hS
  have c32 : w1.cell? ⟨w.heap.size, 32, none⟩ = some (.int .i64 N) := by rw [hS.cell, pfC_N]
  obtain ⟨cp, hcp⟩ : ∃ cp, pfC (dgt a) N = cp := ⟨_, rfl⟩
  rw [hcp] at hw1 hS ⊢
  by_cases hneg : N < 0
  · rw [rightB_low a N hneg]
    have hd0 : decide (0 ≤ N) = false := decide_eq_false (by omega)
    clear hS hF hcp
    go_enter Try.func16, Try.ntmps16
    go_wp2_with fail
    go_region
    all_goals go_wp2_with fail
    all_goals go_ret
    all_goals exact ⟨rfl, HF.out.drew.below (fun _ _ e => e)⟩
  · by_cases hbig : 64 < N
    · rw [rightB_high a N hbig]
      have hd0 : decide (0 ≤ N) = true := decide_eq_true (by omega)
      have hd1 : decide (N ≤ 64) = false := decide_eq_false (by omega)
      clear hS hF hcp
      go_enter Try.func16, Try.ntmps16
      go_wp2_with fail
      go_region
      all_goals go_wp2_with fail
      all_goals go_ret
      all_goals exact ⟨rfl, HF.out.drew.below (fun _ _ e => e)⟩
    · obtain ⟨n, hn⟩ : ∃ n : Nat, N = n := ⟨N.toNat, by omega⟩
      have hn64 : n ≤ 64 := by omega
      have hb : rightB a N = sameD (dgt a) (cutD a n) := by rw [hn]; exact rightB_mid a n ha hn64
      have heq := eq_pfx a a N n
      obtain ⟨b, hb2⟩ : ∃ b, sameD (dgt a) (cutD a n) = b := ⟨_, rfl⟩
      rw [hb2] at hb heq
      rw [hcp] at heq
      rw [hb]
      have hfst := fun w => Ofirst_any a n hn64 w
      rw [← hn] at hfst
      obtain ⟨cq, hcq⟩ : ∃ cq, pfC (cutD a n) N = cq := ⟨_, rfl⟩
      rw [hcq] at heq hfst
      obtain ⟨ci, hci⟩ : ∃ ci, idC (dgt a) = ci := ⟨_, rfl⟩
      rw [hci] at hfst
      have HFST := Lib.hid hfst
      have hl33 : ∀ w', Fr (fun _ => False) w1 w' → (loadCellsFrom ⟨w.heap.size, 0, none⟩ 0 33 #[]).run Try.prog w' = .ok cp w' := fun w' f => by
        have := load_first HS.out f (n := 33) (by rw [pfC_size]; omega)
        rwa [List.take_of_length_le (by rw [Array.length_toList, pfC_size]; omega), Array.toArray_toList, hcp] at this
      have hl32 : ∀ w', Fr (fun _ => False) w1 w' → (loadCellsFrom ⟨w.heap.size, 0, none⟩ 0 32 #[]).run Try.prog w' = .ok ci w' := fun w' f => by
        have := load_first HS.out f (n := 32) (by rw [pfC_size]; omega)
        rwa [pfC_ids, Array.toArray_toList, hci] at this
      obtain ⟨T33, hT33⟩ : ∃ T : TypeId, T = 30 := ⟨_, rfl⟩
      obtain ⟨T32, hT32⟩ : ∃ T : TypeId, T = 23 := ⟨_, rfl⟩
      obtain ⟨n33, hn33⟩ : ∃ n : Nat, 33 = n := ⟨_, rfl⟩
      obtain ⟨n32, hn32⟩ : ∃ n : Nat, 32 = n := ⟨_, rfl⟩
      have ag33 : ∀ w, (isAgg T33).run Try.prog w = .ok true w := by rw [hT33]; exact fun _ => by kernel_rfl
      have ag32 : ∀ w, (isAgg T32).run Try.prog w = .ok true w := by rw [hT32]; exact fun _ => by kernel_rfl
      have sz33 : ∀ w, (sizeOf T33).run Try.prog w = .ok n33 w := by rw [hT33, ← hn33]; exact fun _ => by kernel_rfl
      have sz32 : ∀ w, (sizeOf T32).run Try.prog w = .ok n32 w := by rw [hT32, ← hn32]; exact fun _ => by kernel_rfl
      rw [hn33] at hl33
      rw [hn32] at hl32
      have HL33 := Lib.hid hl33
      have HL32 := Lib.hid hl32
      have l1 := hl33 w1.drew ((Fr.refl _ w1).drew)
      have l2 := hl32 w1.drew ((Fr.refl _ w1).drew)
      have hgp := guardP
      clear hS hF hcp hb hb2 hcq hci hn hfst hl33 hl32 hn33 hn32
      go_enter Try.func16, Try.ntmps16
      go_wp2_with fail
      rw [show Op.load 30 (.tmp 1) = Op.load T33 (.tmp 1) by rw [hT33], show Op.load 23 (.tmp 13) = Op.load T32 (.tmp 13) by rw [hT32]]
      clear hT33 hT32
      go_region_law (first
        | (go_simp; go_at_call 36
           refine (HFST.out _).mono ?_
           rintro e w3 ⟨rfl, b3⟩
           have F3 := ((Fr.refl (fun _ => False) w1).drew).then_below b3
           have l3 := HL33.out w3 F3))
      all_goals
        go_wp2_with fail
        go_ret
        exact ⟨rfl, (HF.out.trans F3 (fun _ _ e => e)).below (fun _ _ e => e)⟩

set_option maxHeartbeats 3200000 in
theorem OFits_any (a x : Nat) (ha : a < big) (hx : x < big) (N : Int) (h0 : -9223372036854775808 ≤ N) (h1 : N ≤ 9223372036854775807) (w : World) : Calls Try.prog 18 #[.agg (pfC (dgt a) N), .agg (idC (dgt x))] w fun e w' => e = .returned (.bool (fitB a N x)) ∧ Below w.heap.size w w' := by
  obtain ⟨w1, hw1⟩ : ∃ w1, w.alloc (.cells (pfC (dgt a) N) 30) = w1 := ⟨_, rfl⟩
  obtain ⟨w2, hw2⟩ : ∃ w2, w1.alloc (.cells (idC (dgt x)) 23) = w2 := ⟨_, rfl⟩
  have hF1 : Fr (fun _ => False) w w1 := by subst hw1; exact (Fr.refl _ w).alloc _
  have hF2 : Fr (fun _ => False) w1 w2 := by subst hw2; exact (Fr.refl _ w1).alloc _
  have hF := hF1.trans hF2 (fun _ _ e => e)
  have hS1 : Whole w1 w.heap.size 30 (pfC (dgt a) N) := by subst hw1; exact Whole.new w 30 _
  have hS := hS1.fr hF2 (fun e => e)
  have hX : Whole w2 w1.heap.size 23 (idC (dgt x)) := by subst hw2; exact Whole.new w1 23 _
  have c32 : ∀ w', Fr (fun _ => False) w2 w' → w'.cell? ⟨w.heap.size, 32, none⟩ = some (.int .i64 N) := fun w' f => by rw [(hS.fr f (fun e => e)).cell, pfC_N]
  have hR := fun w => ORight_any a ha N h0 h1 w
  have hl33 : ∀ w', Fr (fun _ => False) w2 w' → (loadCellsFrom ⟨w.heap.size, 0, none⟩ 0 33 #[]).run Try.prog w' = .ok (pfC (dgt a) N) w' := fun w' f => by
    have := load_first hS f (n := 33) (by rw [pfC_size]; omega)
    rwa [List.take_of_length_le (by rw [Array.length_toList, pfC_size]; omega), Array.toArray_toList] at this
  have hl32 : ∀ w', Fr (fun _ => False) w2 w' → (loadCellsFrom ⟨w1.heap.size, 0, none⟩ 0 32 #[]).run Try.prog w' = .ok (idC (dgt x)) w' := fun w' f => by
    have := load_first hX f (n := 32) (by rw [idC_size]; omega)
    rwa [List.take_of_length_le (by rw [Array.length_toList, idC_size]; omega), Array.toArray_toList] at this
  have heq0 := eq_pfx a x N
  have hfst0 := fun n hn w => Ofirst_any x n hn w
  have HF := Lib.hid hF
  obtain ⟨cp, hcp⟩ : ∃ cp, pfC (dgt a) N = cp := ⟨_, rfl⟩
  obtain ⟨ci, hci⟩ : ∃ ci, idC (dgt x) = ci := ⟨_, rfl⟩
  rw [hcp] at hw1 hR hl33 heq0 ⊢
  rw [hci] at hw2 hl32 hfst0 ⊢
  clear hcp hci hF1 hF2 hF hS1 hS hX
  obtain ⟨T33, hT33⟩ : ∃ T : TypeId, T = 30 := ⟨_, rfl⟩
  obtain ⟨T32, hT32⟩ : ∃ T : TypeId, T = 23 := ⟨_, rfl⟩
  obtain ⟨n33, hn33⟩ : ∃ n : Nat, 33 = n := ⟨_, rfl⟩
  obtain ⟨n32, hn32⟩ : ∃ n : Nat, 32 = n := ⟨_, rfl⟩
  have ag33 : ∀ w, (isAgg T33).run Try.prog w = .ok true w := by rw [hT33]; exact fun _ => by kernel_rfl
  have ag32 : ∀ w, (isAgg T32).run Try.prog w = .ok true w := by rw [hT32]; exact fun _ => by kernel_rfl
  have sz33 : ∀ w, (sizeOf T33).run Try.prog w = .ok n33 w := by rw [hT33, ← hn33]; exact fun _ => by kernel_rfl
  have sz32 : ∀ w, (sizeOf T32).run Try.prog w = .ok n32 w := by rw [hT32, ← hn32]; exact fun _ => by kernel_rfl
  rw [hn33] at hl33
  rw [hn32] at hl32
  have HC := Lib.hid c32
  have HL33 := Lib.hid hl33
  have HL32 := Lib.hid hl32
  have HR := Lib.hid hR
  have HEQ := Lib.hid heq0
  have HFST := Lib.hid hfst0
  have l1 := hl33 w2.drew ((Fr.refl _ w2).drew)
  have hgp := guardP
  clear c32 hl33 hl32 hR heq0 hfst0 hn33 hn32
  by_cases hr : rightB a N = true
  · obtain ⟨g1, g2, g3⟩ := rightB_range hr
    obtain ⟨n, hn⟩ : ∃ n : Nat, N = n := ⟨N.toNat, by omega⟩
    have hn64 : n ≤ 64 := by omega
    have hb : fitB a N x = sameD (dgt a) (cutD x n) := by rw [hn]; exact fitB_mid a n x ha hx hn64 (by rw [← hn]; exact hr)
    have heq := HEQ.out n
    obtain ⟨b, hb2⟩ : ∃ b, sameD (dgt a) (cutD x n) = b := ⟨_, rfl⟩
    rw [hb2] at hb heq
    rw [hb]
    rw [hr] at HR
    have hfst := HFST.out n hn64
    rw [← hn] at hfst
    obtain ⟨cq, hcq⟩ : ∃ cq, pfC (cutD x n) N = cq := ⟨_, rfl⟩
    rw [hcq] at heq hfst
    have HFS := Lib.hid hfst
    clear hb hb2 hcq hn hfst hr g1 g2 g3
    go_enter Try.func18, Try.ntmps18
    go_wp2_with fail
    rw [show Op.load 30 (.tmp 2) = Op.load T33 (.tmp 2) by rw [hT33], show Op.load 23 (.tmp 3) = Op.load T32 (.tmp 3) by rw [hT32]]
    clear hT33 hT32
    go_region_law (first
      | (go_simp; go_at_call 36
         refine (HFS.out _).mono ?_
         rintro e w4 ⟨rfl, b4⟩
         have F4 := F3.then_below b4
         have l5 := HL33.out w4 F4)
      | (go_simp; go_at_call 16
         refine (HR.out _).mono ?_
         rintro e w3 ⟨rfl, b3⟩
         have F3 := ((Fr.refl (fun _ => False) w2).drew).then_below b3
         have l2 := HL33.out w3 F3
         have l3 := HL32.out w3 F3
         have l4 := HC.out w3 F3))
    all_goals
      go_wp2_with fail
      go_ret
      exact ⟨rfl, (HF.out.trans F4 (fun _ _ e => e)).below (fun _ _ e => e)⟩
  · have hr' : rightB a N = false := by simpa using hr
    rw [fitB_not a N x hr']
    rw [hr'] at HR
    clear hr hr'
    go_enter Try.func18, Try.ntmps18
    go_wp2_with fail
    rw [show Op.load 30 (.tmp 2) = Op.load T33 (.tmp 2) by rw [hT33], show Op.load 23 (.tmp 3) = Op.load T32 (.tmp 3) by rw [hT32]]
    clear hT33 hT32
    have l3 : ∀ q : Later w2, (loadCellsFrom ⟨w.heap.size, 0, none⟩ 0 n33 #[]).run Try.prog q.w' = .ok cp q.w' := fun q => HL33.out q.w' q.fr
    refine wp_region_later (w0 := w2) (Fr.refl _ _) (by kernel_rfl) (by kernel_rfl) ?_
    repeat (quiet_step ((go_at_call 16; refine Calls.later_of (HR.out _))))
    refine wpQuiet_nil ?_
    intro _ hw'
    obtain ⟨q, hw''⟩ := hw'
    subst hw''
    go_wp2_with fail
    go_ret
    exact ⟨rfl, (HF.out.trans q.fr (fun _ _ e => e)).below (fun _ _ e => e)⟩
end Go.Proofs.Ytbfbgopbelmghaa

/- What is proved: the table for one byte (overByte), a squared table (squared). Conditions: none. -/
import Derived.Test.YtfdindkagddjbaaCrj
import Derived.Deep.RegionLaw
namespace Go.Proofs.Ytfdindkagddjbaa
open Go.RowKit
set_option linter.unusedVariables false

theorem sizeStep : (Try.prog.info? 43).map (·.size) = some 32 := by kernel_rfl

/-- What stands at the head of a round: the first m entries of the table of n steps in block g. -/
def TbRel (w : World) (g n m : Nat) (wr : World) : Prop := Whole wr g 43 (tbV n m) ∧ Fr (fun _ => False) w wr
theorem TbRel.put {w wr : World} {g n m : Nat} (h : TbRel w g n m wr) (hg : w.heap.size ≤ g) (hm : m < 32) {x : Int} (hx : x = rI (tbN n m)) : TbRel w g n (m + 1) (wr.setCell ⟨g, m, none⟩ (.int .u32 x)) := by
  subst hx
  refine ⟨?_, h.2.setCell (fun e => absurd e (by show ¬ g < w.heap.size; omega)) _⟩
  have := h.1.set m (.int .u32 (rI (tbN n m)))
  rwa [tbV_set n m hm] at this
theorem TbRel.zero {w wr : World} {g n m : Nat} (h : TbRel w g n m wr) (hm : m < 32) : wr.cell? ⟨g, m, none⟩ = some (.int .u32 0) := by rw [h.1.cell, tbV_get n m hm]

set_option maxHeartbeats 800000 in
theorem CoverByte_any (w : World) : Calls Try.prog 19 #[] w fun e w' => e = .returned (.agg (tbV 8 32)) ∧ Below w.heap.size w w' := by
  obtain ⟨w1, hw1⟩ : ∃ w1, w.alloc (.cells (tbV 8 0) 43) = w1 := ⟨_, rfl⟩
  have hR : TbRel w w.heap.size 8 0 w1 := by subst hw1; exact ⟨Whole.new w 43 _, (Fr.refl _ w).alloc _⟩
  have HR := Lib.hid hR
  unfold tbV at hw1
  simp [List.replicate] at hw1
  clear hR
  go_enter Try.func19, Try.ntmps19
  go_wp2
  clear hw1
  go_loopw [2] (fun i wr => ∃ k : Nat, k ≤ 32 ∧ i = .int .i64 k ∧ TbRel w w.heap.size 8 k wr) (fun i _ => 32 - (intOf i).toNat)
  case atStart => exact ⟨0, by omega, rfl, HR.out⟩
  case round =>
    obtain ⟨k, hk, rfl, hr⟩ := hrel
    by_cases hlt : k < 32
    · have c1 := hr.zero hlt
      have f1 := hr.1.frozen k
      have hp := two_pow_rI k hlt
      have hp1 := rI_hi (BitVec.twoPow 32 k)
      have hp0 := rI_lo (BitVec.twoPow 32 k)
      rw [hp] at hp0 hp1
      have htk : tk (BitVec.twoPow 32 k) 0 = tbN 8 k := by
        unfold tk tbN
        rw [show bv 0 = 0#32 from rfl, BitVec.xor_zero]
      have HP := Lib.hid hp
      have HTK := Lib.hid htk
      have HRr := Lib.hid hr
      obtain ⟨y, hy⟩ : ∃ y : Int, 2 ^ k = y := ⟨_, rfl⟩
      rw [hy] at hp0 hp1
      have HY := Lib.hid hy
      have hwr : IntKind.u32.wrap y = y := by rw [IntKind.wrap_u32]; omega
      clear hp htk hr
      go_wp2_with (go_at_call 17; refine (Ctaken_any (BitVec.twoPow 32 k) 0 y 0 (by rw [HP.out, HY.out]) rfl _).mono ?_; rintro e w' ⟨rfl, rfl⟩)
      go_roundw
      case rel => exact ⟨k + 1, by omega, by go_num, HRr.out.put (Nat.le_refl _) hlt (by rw [HTK.out])⟩
      case measure => simp [intOf]; omega
    · obtain rfl : k = 32 := by omega
      go_wp2_with (first
        | (refine wpList_load_row rfl 43 _ rfl _ rfl 43 _ _ _ hr.1 Try.underlying43 rfl (by rw [tbV_size _ _ (by omega)]; exact sizeStep) ?_)
        | (refine wpList_store_at rfl 43 _ _ rfl w.heap.size 0 43 _ _ rfl rfl hr.1 (by rw [Nat.zero_add]; exact Nat.le_refl _) (by rw [tbV_size _ _ (by omega)]; exact sizeStep) (tbV_one _ _) ?_; intro w2 hw2 hf2))
      rw [laidAt_all _ _ rfl] at hw2
      refine bodyPost_ret (v := .agg (tbV 8 32)) (results_cell_row (p := 0) rfl _ _ _ _ _ _ _ rfl hw2 Try.underlying43 rfl (by rw [tbV_size _ _ (by omega)]; exact sizeStep)) rfl ?_
      exact ⟨rfl, (hr.2.trans hf2 (fun i hi e => by omega)).below (fun _ _ e => e)⟩

set_option maxHeartbeats 1600000 in
theorem Csquared_any (n : Nat) (w : World) : Calls Try.prog 21 #[.agg (tbV n 32)] w fun e w' => e = .returned (.agg (tbV (n + n) 32)) ∧ Below w.heap.size w w' := by
  obtain ⟨w1, hw1⟩ : ∃ w1, (w.alloc (.cells (tbV n 32) 43)).alloc (.cells (tbV (n + n) 0) 43) = w1 := ⟨_, rfl⟩
  have hR : TbRel w (w.heap.size + 1) (n + n) 0 w1 := by
    refine ⟨?_, by subst hw1; exact ((Fr.refl _ w).alloc _).alloc _⟩
    subst hw1
    have h := Whole.new (w.alloc (.cells (tbV n 32) 43)) 43 (tbV (n + n) 0)
    have e : (w.alloc (.cells (tbV n 32) 43)).heap.size = w.heap.size + 1 := by simp
    rwa [e] at h
  have hS : Whole w1 w.heap.size 43 (tbV n 32) := by
    subst hw1
    exact (Whole.new w 43 (tbV n 32)).fr ((Fr.refl (fun _ => False) _).alloc _) (fun e => e)
  have HR := Lib.hid hR
  have HS := Lib.hid hS
  clear hR hS
  have e0 : (tbV (n + n) 0) = (tbV 0 0) := rfl
  rw [e0] at hw1
  obtain ⟨cw, hcw⟩ : ∃ cw, tbV n 32 = cw := ⟨_, rfl⟩
  rw [hcw] at hw1 ⊢
  unfold tbV at hw1
  simp [List.replicate] at hw1
  have HC := Lib.hid hcw
  clear hcw e0
  have hcs : cw.size = 32 := by rw [← HC.out]; exact tbV_size n 32 (by omega)
  go_enter Try.func21, Try.ntmps21
  go_wp2
  clear hw1
  go_loopw [4] (fun i wr => ∃ k : Nat, k ≤ 32 ∧ i = .int .i64 k ∧ TbRel w (w.heap.size + 1) (n + n) k wr ∧ Whole wr w.heap.size 43 cw) (fun i _ => 32 - (intOf i).toNat)
  case atStart => exact ⟨0, by omega, rfl, HR.out, by have := HS.out; rw [HC.out] at this; exact this⟩
  case round =>
    clear HR HS
    obtain ⟨k, hk, rfl, hr, hs⟩ := hrel
    by_cases hlt : k < 32
    · have c1 := hr.zero hlt
      have f1 := hr.1.frozen k
      have c2 : wr.cell? ⟨w.heap.size, k, none⟩ = some (.int .u32 (rI (tbN n k))) := by rw [hs.cell, ← HC.out, tbV_at n k hlt]
      obtain ⟨z, hz⟩ : ∃ z, rI (tbN n k) = z := ⟨_, rfl⟩
      rw [hz] at c2
      have HZ := Lib.hid hz
      have HN := Lib.hid (show stpN n (tbN n k) = tbN (n + n) k by unfold tbN; rw [stpN_add])
      have HRr := Lib.hid hr
      have HSs := Lib.hid hs
      clear hz hr hs
      obtain ⟨T, hT⟩ : ∃ T : TypeId, T = 43 := ⟨_, rfl⟩
      obtain ⟨n32, hn32⟩ : ∃ n, cw.size = n := ⟨_, rfl⟩
      have hag : ∀ w, (isAgg T).run Try.prog w = .ok true w := by rw [hT]; exact fun _ => by kernel_rfl
      have hsT : ∀ w, (sizeOf T).run Try.prog w = .ok n32 w := by rw [hT, ← hn32, hcs]; exact fun _ => by kernel_rfl
      have HN32 := Lib.hid hn32
      have load_cells : ∀ wq, Whole wq w.heap.size 43 cw → (loadCellsFrom ⟨w.heap.size, 0, none⟩ 0 n32 #[]).run Try.prog wq = .ok cw wq := fun wq hq => by
        have h2 := run_loadCells_list (P := Try.prog) wq ⟨w.heap.size, 0, none⟩ cw.toList (fun j v hv => by rw [add_off, Nat.zero_add, hq.cell]; simpa using hv)
        rw [Array.length_toList, HN32.out] at h2
        simpa [loadCells] using h2
      have hld0 := load_cells wr.drew (HSs.out.fr ((Fr.refl (fun _ => False) wr).drew) (fun e => e))
      have HLC := Lib.hid load_cells
      clear hn32 load_cells
      go_wp2_with fail
      rw [show Op.load 43 (.tmp 1) = Op.load T (.tmp 1) by rw [hT]]
      clear hT
      go_region_law (first
        | (go_simp; go_at_call 20
           refine Calls.mono (by have h := Capplied_any n (tbN n k) z HZ.out.symm wr.drew; rw [HC.out, HN.out] at h; exact h) ?_
           rintro e w5 ⟨rfl, b5⟩
           have F5 := (Fr.refl (fun _ => False) wr).drew.then_below b5
           have c5 := F5.cell c1 (fun e => e)
           have f5 := (HRr.out.1.fr F5 (fun e => e)).frozen k))
      all_goals
        have HRn := Lib.hid (TbRel.put (w := w) ⟨HRr.out.1.fr F5 (fun e => e), HRr.out.2.trans F5 (fun _ _ e => e)⟩ (by omega : w.heap.size ≤ w.heap.size + 1) hlt rfl)
        have HSn := Lib.hid ((HSs.out.fr F5 (fun e => e)).fr (((Fr.refl (fun i => i = w.heap.size + 1) w5)).setCell (p := ⟨w.heap.size + 1, k, none⟩) (fun _ => rfl) (.int .u32 (rI (tbN (n + n) k)))) (show ¬ (w.heap.size = w.heap.size + 1) by omega))
        clear hld0 hag hsT c1 c2 c5 f1 f5
        go_wp2_with fail
        go_roundw
        case rel => exact ⟨k + 1, by omega, by go_num, HRn.out, HSn.out⟩
        case measure => simp [intOf]; omega
    · obtain rfl : k = 32 := by omega
      go_wp2_with (first
        | (refine wpList_load_row rfl 43 _ rfl _ rfl 43 _ _ _ hr.1 Try.underlying43 rfl (by rw [tbV_size _ _ (by omega)]; exact sizeStep) ?_)
        | (refine wpList_store_at rfl 43 _ _ rfl (w.heap.size + 1) 0 43 _ _ rfl rfl hr.1 (by rw [Nat.zero_add]; exact Nat.le_refl _) (by rw [tbV_size _ _ (by omega)]; exact sizeStep) (tbV_one _ _) ?_; intro w2 hw2 hf2))
      rw [laidAt_all _ _ rfl] at hw2
      refine bodyPost_ret (v := .agg (tbV (n + n) 32)) (results_cell_row (p := 2) rfl _ _ _ _ _ _ _ rfl hw2 Try.underlying43 rfl (by rw [tbV_size _ _ (by omega)]; exact sizeStep)) rfl ?_
      exact ⟨rfl, (hr.2.trans hf2 (fun i hi e => by omega)).below (fun _ _ e => e)⟩
end Go.Proofs.Ytfdindkagddjbaa

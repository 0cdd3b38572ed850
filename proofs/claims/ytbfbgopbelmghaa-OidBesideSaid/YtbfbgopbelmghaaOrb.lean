/- What is proved: with how many digits two ids begin alike, by the program; the question that Range asks of a place. Conditions: the list's cells are there. -/
import Derived.Test.YtbfbgopbelmghaaOra
namespace Go.Proofs.Ytbfbgopbelmghaa
open Go.RowKit
set_option linter.unusedVariables false

theorem same_cut (x y n : Nat) (hx : x < big) (hy : y < big) (hn : n ≤ 64) : sameD (cutD x n) (cutD y n) = alikeB x y n := by
  rw [Bool.eq_iff_iff, sameD_iff _ _ (cutD_lt x n) (cutD_lt y n), alikeB, decide_eq_true_eq, ← alike_iff x y hx hy n hn]
  constructor
  · intro h k hk
    have := h k (by omega)
    simpa [cutD, hk] using this
  · intro h k hk
    unfold cutD
    split
    · exact h k (by assumption)
    · rfl

set_option maxHeartbeats 3200000 in
theorem Oshared_any (x y : Nat) (hx : x < big) (hy : y < big) (w : World) : Calls Try.prog 44 #[.agg (idC (dgt x)), .agg (idC (dgt y))] w fun e w' => e = .returned (.int .i64 (shN x y)) ∧ Below w.heap.size w w' := by
  obtain ⟨w1, hw1⟩ : ∃ w1, w.alloc (.cells (idC (dgt x)) 23) = w1 := ⟨_, rfl⟩
  obtain ⟨w2, hw2⟩ : ∃ w2, w1.alloc (.cells (idC (dgt y)) 23) = w2 := ⟨_, rfl⟩
  have hF1 : Fr (fun _ => False) w w1 := by subst hw1; exact (Fr.refl _ w).alloc _
  have hF2 : Fr (fun _ => False) w1 w2 := by subst hw2; exact (Fr.refl _ w1).alloc _
  have hA : Whole w2 w.heap.size 23 (idC (dgt x)) := by subst hw1; exact (Whole.new w 23 _).fr hF2 (fun e => e)
  have hB : Whole w2 w1.heap.size 23 (idC (dgt y)) := by subst hw2; exact Whole.new w1 23 _
  have HF := Lib.hid (hF1.trans hF2 (fun _ _ e => e))
  have c1 := fun n hn w => Ofirst_any x n hn w
  have c2 := fun n hn w => Ofirst_any y n hn w
  obtain ⟨ca, hca⟩ : ∃ c, idC (dgt x) = c := ⟨_, rfl⟩
  obtain ⟨cb, hcb⟩ : ∃ c, idC (dgt y) = c := ⟨_, rfl⟩
  have hsa : 32 = ca.size := by rw [← hca, idC_size]
  have hsb : 32 = cb.size := by rw [← hcb, idC_size]
  obtain ⟨T32, hT32⟩ : ∃ T : TypeId, T = 23 := ⟨_, rfl⟩
  obtain ⟨n32, hn32⟩ : ∃ n : Nat, n = 32 := ⟨_, rfl⟩
  have ag32 : ∀ w, (isAgg T32).run Try.prog w = .ok true w := by rw [hT32]; exact fun _ => by kernel_rfl
  have sz32 : ∀ w, (sizeOf T32).run Try.prog w = .ok n32 w := by rw [hT32, hn32]; exact fun _ => by kernel_rfl
  have hgp := guardP
  obtain ⟨Z, hZ⟩ : ∃ Z : Int, Z = 64 := ⟨_, rfl⟩
  have HZ := Lib.hid hZ
  clear hZ
  rw [hca] at c1 hw1 hA ⊢
  rw [hcb] at c2 hw2 hB ⊢
  have HLA := Lib.hid (fun w3 (f : Fr (fun _ => False) w2 w3) (q : Later w3) => (load_later hA (by rw [hn32, ← hsa]) f q : (loadCellsFrom ⟨w.heap.size, 0, none⟩ 0 n32 #[]).run Try.prog q.w' = .ok ca q.w'))
  have HLB := Lib.hid (fun w3 (f : Fr (fun _ => False) w2 w3) (q : Later w3) => (load_later hB (by rw [hn32, ← hsb]) f q : (loadCellsFrom ⟨w1.heap.size, 0, none⟩ 0 n32 #[]).run Try.prog q.w' = .ok cb q.w'))
  have C1 := Lib.hid c1
  have C2 := Lib.hid c2
  have HU := Lib.hid (fun k hk h1 h2 => sh_unique x y k hk h1 h2)
  have HE := Lib.hid (fun k (hk : k ≤ 64) => same_cut x y k hx hy hk)
  clear hF1 hF2 hA hB hca hcb hsa hsb c1 c2 hx hy hn32
  go_enter Try.func44, Try.ntmps44
  rw [show Op.load 23 (.tmp 2) = Op.load T32 (.tmp 2) by rw [hT32], show Op.load 23 (.tmp 3) = Op.load T32 (.tmp 3) by rw [hT32], show Op.binOp .lss 3 (.tmp 6) (.const (.int .i64 64)) = Op.binOp .lss 3 (.tmp 6) (.const (.int .i64 Z)) by rw [HZ.out]]
  clear hT32
  go_wp2
  clear hw1 hw2
  go_loopw [5] (fun i wr => ∃ k : Nat, k ≤ 64 ∧ i = .int .i64 k ∧ Hid (∀ j, j < k → alikeB x y (j + 1) = true) ∧ Fr (fun _ => False) w2 wr) (fun i _ => 65 - (intOf i).toNat)
  case atStart => exact ⟨0, by omega, rfl, Lib.hid (fun j hj => by omega), Fr.refl _ _⟩
  case round =>
    obtain ⟨k, hk, rfl, hz, hf⟩ := hrel
    have HFr := Lib.hid hf
    by_cases hlt : k < 64
    · have la := HLA.out wr hf
      have lb := HLB.out wr hf
      have d1 := C1.out (k + 1) (by omega)
      have d2 := C2.out (k + 1) (by omega)
      have heq := fun w => eq_pfxs (cutD x (k + 1)) (cutD y (k + 1)) (cutD_lt x _) (cutD_lt y _) ((k + 1 : Nat) : Int) ((k + 1 : Nat) : Int) 10000 (by decide) w
      rw [HE.out (k + 1) (by omega)] at heq
      rw [show ((((k + 1 : Nat) : Int) == ((k + 1 : Nat) : Int)) = true) from beq_self_eq_true _, Bool.and_true] at heq
      obtain ⟨s, hs⟩ : ∃ s, alikeB x y (k + 1) = s := ⟨_, rfl⟩
      rw [hs] at heq
      have HSs := Lib.hid hs
      obtain ⟨p1, hp1⟩ : ∃ c, pfC (cutD x (k + 1)) ((k + 1 : Nat) : Int) = c := ⟨_, rfl⟩
      obtain ⟨p2, hp2⟩ : ∃ c, pfC (cutD y (k + 1)) ((k + 1 : Nat) : Int) = c := ⟨_, rfl⟩
      rw [hp1] at d1 heq
      rw [hp2] at d2 heq
      rw [Int.natCast_add, Int.natCast_one] at d1 d2
      have D1 := Lib.hid d1
      have D2 := Lib.hid d2
      have hk0 : (k : Int) < Z := by have := HZ.out; omega
      have hd0 : decide ((k : Int) < Z) = true := decide_eq_true hk0
      have wk1 := wrap_nat1 k (by omega)
      clear d1 d2 hs hp1 hp2 hf hk
      cases s
      · have HR := Lib.hid (HU.out k (by omega) hz.out (fun _ => HSs.out))
        go_wp2_with fail
        refine wp_region_later (w0 := wr) (Fr.refl _ _) (by kernel_rfl) (by kernel_rfl) ?_
        iterate 6 quiet_step (fail)
        quiet_step ((go_at_call 36; refine Calls.later_of (D1.out _)))
        iterate 3 quiet_step (fail)
        quiet_step ((go_at_call 36; refine Calls.later_of (D2.out _)))
        iterate 2 quiet_step (fail)
        refine wpQuiet_nil ?_
        intro _ hw'
        obtain ⟨q, hw''⟩ := hw'
        subst hw''
        go_wp2_with fail
        go_ret
        exact ⟨by rw [HR.out]; rfl, (HF.out.trans (HFr.out.trans q.fr (fun _ _ e => e)) (fun _ _ e => e)).below (fun _ _ e => e)⟩
      · go_wp2_with fail
        refine wp_region_later (w0 := wr) (Fr.refl _ _) (by kernel_rfl) (by kernel_rfl) ?_
        iterate 6 quiet_step (fail)
        quiet_step ((go_at_call 36; refine Calls.later_of (D1.out _)))
        iterate 3 quiet_step (fail)
        quiet_step ((go_at_call 36; refine Calls.later_of (D2.out _)))
        iterate 2 quiet_step (fail)
        refine wpQuiet_nil ?_
        intro _ hw'
        obtain ⟨q, hw''⟩ := hw'
        subst hw''
        go_wp2_with fail
        go_roundw
        case rel => exact ⟨k + 1, by omega, by go_num, Lib.hid (fun j hj => (by omega : j < k ∨ j = k).elim (hz.out j) (fun e => e ▸ HSs.out)), HFr.out.trans q.fr (fun _ _ e => e)⟩
        case measure => simp [intOf]; omega
    · have HR := Lib.hid (HU.out k hk hz.out (fun h => absurd h hlt))
      have hk0 : ¬ (k : Int) < Z := by have := HZ.out; omega
      have hd0 : decide ((k : Int) < Z) = false := decide_eq_false hk0
      clear hf hk hlt
      go_wp2_with fail
      go_region
      all_goals go_wp2_with fail
      all_goals go_ret
      all_goals exact ⟨by rw [HR.out]; rfl, (HF.out.trans HFr.out.drew (fun _ _ e => e)).below (fun _ _ e => e)⟩

theorem wrap_nat2 (f i : Nat) (h : f + i ≤ 100000) : IntKind.i64.wrap ((f : Int) + (i : Int)) = (f : Int) + (i : Int) := by rw [IntKind.wrap_i64]; omega
theorem toNat_nat2 (f i : Nat) : ((f : Int) + (i : Int)).toNat = f + i := by omega
theorem nonneg_nat2 (f i : Nat) : (0 : Int) ≤ (f : Int) + (i : Int) := by omega
set_option maxHeartbeats 3200000 in
/-- The question that Range asks of a place. -/
theorem ORange1_any (gp gl gf b o cap : Nat) (ns : List Nat) (a : Nat) (N : Int) (h0 : -9223372036854775808 ≤ N) (h1 : N ≤ 9223372036854775807) (hb : ∀ n ∈ ns, n < big) (ha : a < big) (hn : ns.length ≤ 1000) (f i : Nat) (hi : f + i < ns.length) (w : World)
    (hP : Whole w gp 30 (pfC (dgt a) N)) (hl : w.cell? ⟨gl, 0, none⟩ = some (.slice (some ⟨b, o, none⟩) ns.length cap)) (hf : w.cell? ⟨gf, 0, none⟩ = some (.int .i64 f)) (h : Lies w (some ⟨b, o, none⟩) (flatI ns)) :
    Calls Try.prog 43 #[.int .i64 i, .pointer (some ⟨gp, 0, none⟩), .pointer (some ⟨gl, 0, none⟩), .pointer (some ⟨gf, 0, none⟩)] w fun e w' => e = .returned (.bool (!fitB a N (gt ns (f + i)))) ∧ Below w.heap.size w w' := by
  obtain ⟨T32, hT32⟩ : ∃ T : TypeId, T = 23 := ⟨_, rfl⟩
  obtain ⟨n32, hn32⟩ : ∃ n : Nat, n = 32 := ⟨_, rfl⟩
  have ag32 : ∀ w, (isAgg T32).run Try.prog w = .ok true w := by rw [hT32]; exact fun _ => by kernel_rfl
  have sz32 : ∀ w, (sizeOf T32).run Try.prog w = .ok n32 w := by rw [hT32, hn32]; exact fun _ => by kernel_rfl
  obtain ⟨T33, hT33⟩ : ∃ T : TypeId, T = 30 := ⟨_, rfl⟩
  obtain ⟨n33, hn33⟩ : ∃ n : Nat, n = 33 := ⟨_, rfl⟩
  have ag33 : ∀ w, (isAgg T33).run Try.prog w = .ok true w := by rw [hT33]; exact fun _ => by kernel_rfl
  have sz33 : ∀ w, (sizeOf T33).run Try.prog w = .ok n33 w := by rw [hT33, hn33]; exact fun _ => by kernel_rfl
  have hma := hb _ (gt_mem ns (f + i) hi)
  have l0 : ∀ q : Later w, q.w'.cell? ⟨gl, 0, none⟩ = some (.slice (some ⟨b, o, none⟩) ns.length cap) := fun q => q.fr.cell hl (fun e => e)
  have l1 : ∀ q : Later w, (loadCellsFrom ⟨b, o + (f + i) * 32, none⟩ 0 n32 #[]).run Try.prog q.w' = .ok (idC (dgt (gt ns (f + i)))) q.w' := fun q => by rw [hn32]; exact load_at h (gt_some ns (f + i) hi) q.fr
  have l2 : ∀ q : Later w, q.w'.cell? ⟨gf, 0, none⟩ = some (.int .i64 f) := fun q => q.fr.cell hf (fun e => e)
  have l3 : ∀ q : Later w, (loadCellsFrom ⟨gp, 0, none⟩ 0 n33 #[]).run Try.prog q.w' = .ok (pfC (dgt a) N) q.w' := fun q => load_later hP (by rw [pfC_size]; exact hn33) (Fr.refl _ w) q
  have cc := fun w => OFits_any a (gt ns (f + i)) ha hma N h0 h1 w
  obtain ⟨r, hr⟩ : ∃ r, fitB a N (gt ns (f + i)) = r := ⟨_, rfl⟩
  obtain ⟨ca, hca⟩ : ∃ c, idC (dgt (gt ns (f + i))) = c := ⟨_, rfl⟩
  obtain ⟨cp, hcp⟩ : ∃ c, pfC (dgt a) N = c := ⟨_, rfl⟩
  obtain ⟨L, hL⟩ : ∃ L, ns.length = L := ⟨_, rfl⟩
  rw [hca, hcp, hr] at cc
  rw [hca] at l1
  rw [hcp] at l3
  rw [hr]
  rw [hL] at hn hi l0
  have CC := Lib.hid cc
  have hi0 : (f : Int) + (i : Int) < L := by omega
  have wk := wrap_nat2 f i (by omega)
  have tn := toNat_nat2 f i
  have nn := nonneg_nat2 f i
  clear hca hcp hr cc hL hma hl hf hP h hb ha hn32 hn33 h0 h1 hi
  go_enter Try.func43, Try.ntmps43
  rw [show Op.load 23 (.tmp 11) = Op.load T32 (.tmp 11) by rw [hT32], show Op.load 30 (.tmp 1) = Op.load T33 (.tmp 1) by rw [hT33]]
  clear hT32 hT33
  go_wp2_with fail
  refine wp_region_later (w0 := w) (Fr.refl _ _) (by kernel_rfl) (by kernel_rfl) ?_
  repeat (quiet_step ((go_at_call 18; refine Calls.later_of (CC.out _))))
  refine wpQuiet_nil ?_
  intro _ hw'
  obtain ⟨q, hw''⟩ := hw'
  subst hw''
  go_wp2_with fail
  go_ret
  exact ⟨rfl, q.fr.below (fun _ _ e => e)⟩
end Go.Proofs.Ytbfbgopbelmghaa

/- What is proved: whether a beginning is right, and whether an id fits, by the document. Conditions: none. -/
import Derived.Test.YtbfbgopbelmghaaOih
namespace Go.Proofs.Ytbfbgopbelmghaa
open Go.RowKit
set_option linter.unusedVariables false

theorem Lies.at {w : World} {A : Option Addr} {D : Nat → Nat} (h : Lies w A (digV D 64)) : ∃ b o, A = some ⟨b, o, none⟩ ∧ ∀ k, k < 64 → w.cell? ⟨b, o + k, none⟩ = some (.int .i64 (D k : Nat)) := by
  rcases h with h | ⟨b, o, rfl, hc⟩
  · have := congrArg List.length h
    rw [digV_len] at this
    simp at this
  · exact ⟨b, o, rfl, fun k hk => hc k _ (digV_get D 64 k hk)⟩

set_option maxHeartbeats 1600000 in
theorem QRight_any (a : Nat) (ha : a < big) (N : Int) (h0 : -9223372036854775808 ≤ N) (h1 : N ≤ 9223372036854775807) (w : World) : Calls Try.prog 17 #[.agg (idC (dgt a)), .int .i64 N] w fun e w' => e = .returned (.bool (rightB a N)) ∧ Below w.heap.size w w' := by
  obtain ⟨w1, hw1⟩ : ∃ w1, w.alloc (.cells (idC (dgt a)) 23) = w1 := ⟨_, rfl⟩
  have hF : Fr (fun _ => False) w w1 := by subst hw1; exact (Fr.refl _ w).alloc _
  have hS : Whole w1 w.heap.size 23 (idC (dgt a)) := by subst hw1; exact Whole.new w 23 _
  have HF := Lib.hid hF
  have hDg := QDigits_any (dgt a) (dgt_lt a) w1
  obtain ⟨cw, hcw⟩ : ∃ cw, idC (dgt a) = cw := ⟨_, rfl⟩
  have hcs : cw.size = 32 := by rw [← hcw]; exact idC_size _
  rw [hcw] at hw1 hS hDg ⊢
  have HS := Lib.hid hS
  have HDg := Lib.hid hDg
  clear hF hS hcw hDg
  by_cases hneg : N < 0
  · have HR := Lib.hid (rightB_low a N hneg)
    have hd0 : decide (N < 0) = true := decide_eq_true hneg
    go_enter Try.func17, Try.ntmps17
    go_wp2_with fail
    go_ret
    exact ⟨by rw [HR.out]; rfl, HF.out.below (fun _ _ e => e)⟩
  · have hd0 : decide (N < 0) = false := decide_eq_false hneg
    by_cases hbig : 64 < N
    · have HR := Lib.hid (rightB_high a N hbig)
      have hd1 : decide (64 < N) = true := decide_eq_true hbig
      go_enter Try.func17, Try.ntmps17
      go_wp2_with fail
      go_ret
      exact ⟨by rw [HR.out]; rfl, HF.out.below (fun _ _ e => e)⟩
    · have hd1 : decide (64 < N) = false := decide_eq_false hbig
      obtain ⟨n, rfl⟩ : ∃ n : Nat, N = n := ⟨N.toNat, by omega⟩
      have hn64 : n ≤ 64 := by omega
      have HT := Lib.hid (fun (h : ∀ k, n ≤ k → k < 64 → dgt a k = 0) => show rightB a n = true by
        rw [rightB, decide_eq_true_eq, Int.toNat_natCast]
        exact ⟨by omega, by omega, (right_iff a n ha hn64).2 h⟩)
      have HFa := Lib.hid (fun k (h1 : n ≤ k) (h2 : k < 64) (h : dgt a k ≠ 0) => show rightB a n = false by
        rw [rightB, decide_eq_false_iff_not, Int.toNat_natCast]
        intro hh
        exact h ((right_iff a n ha hn64).1 hh.2.2 k h1 h2))
      clear h0 h1
      go_enter Try.func17, Try.ntmps17
      go_wp2_with (first
        | (go_at_call 35; refine HDg.out.mono ?_; rintro e w2 ⟨A, c, rfl, hc, hl, b2⟩
           obtain ⟨b, o, rfl, hcell⟩ := hl.at
           have HC := Lib.hid hcell
           have HF2 := Lib.hid (HF.out.then_below b2)
           clear hl b2 hcell)
        | (refine wpList_load_row rfl 23 _ rfl _ rfl 23 _ _ _ HS.out Try.underlying23 rfl (by rw [hcs]; exact size32) ?_))
      clear hw1
      go_loopw [6] (fun i wr => ∃ k : Nat, n ≤ k ∧ k ≤ 64 ∧ i = .int .i64 k ∧ Hid (∀ j, n ≤ j → j < k → dgt a j = 0) ∧ wr = w2) (fun i _ => 64 - (intOf i).toNat)
      case atStart => exact ⟨n, by omega, by omega, rfl, Lib.hid (fun j hj h => by omega), rfl⟩
      case round =>
        obtain ⟨k, hnk, hk, rfl, hz, rfl⟩ := hrel
        by_cases hlt : k < 64
        · have c1 := HC.out k hlt
          have hq := dgt_lt a k
          obtain ⟨q, hq2⟩ : ∃ q : Int, ((dgt a k : Nat) : Int) = q := ⟨_, rfl⟩
          rw [hq2] at c1
          have HQ := Lib.hid hq2
          clear hq2 hq
          by_cases hq0 : q = 0
          · subst hq0
            go_wp2_with fail
            go_roundw
            case rel => exact ⟨k + 1, by omega, by omega, by go_num, Lib.hid (fun j h1 h2 => (by omega : j < k ∨ j = k).elim (hz.out j h1) (fun e => by subst e; have := HQ.out; omega)), trivial⟩
            case measure => simp [intOf]; omega
          · have hne : (q != 0) = true := by simpa using hq0
            have HR := Lib.hid (HFa.out k hnk hlt (fun e => hq0 (by rw [← HQ.out, e]; rfl)))
            go_wp2_with fail
            go_ret
            exact ⟨by rw [HR.out]; rfl, HF2.out.below (fun _ _ e => e)⟩
        · obtain rfl : k = 64 := by omega
          have HR := Lib.hid (HT.out hz.out)
          go_wp2_with fail
          go_ret
          exact ⟨by rw [HR.out]; rfl, HF2.out.below (fun _ _ e => e)⟩

set_option maxHeartbeats 3200000 in
theorem QFits_any (a x : Nat) (ha : a < big) (hx : x < big) (N : Int) (h0 : -9223372036854775808 ≤ N) (h1 : N ≤ 9223372036854775807) (w : World) : Calls Try.prog 19 #[.agg (idC (dgt a)), .int .i64 N, .agg (idC (dgt x))] w fun e w' => e = .returned (.bool (fitB a N x)) ∧ Below w.heap.size w w' := by
  obtain ⟨w1, hw1⟩ : ∃ w1, w.alloc (.cells (idC (dgt a)) 23) = w1 := ⟨_, rfl⟩
  obtain ⟨w2, hw2⟩ : ∃ w2, w1.alloc (.cells (idC (dgt x)) 23) = w2 := ⟨_, rfl⟩
  have hF1 : Fr (fun _ => False) w w1 := by subst hw1; exact (Fr.refl _ w).alloc _
  have hF2 : Fr (fun _ => False) w1 w2 := by subst hw2; exact (Fr.refl _ w1).alloc _
  have hA : Whole w2 w.heap.size 23 (idC (dgt a)) := by subst hw1; exact (Whole.new w 23 _).fr hF2 (fun e => e)
  have hB : Whole w2 w1.heap.size 23 (idC (dgt x)) := by subst hw2; exact Whole.new w1 23 _
  have HF := Lib.hid (hF1.trans hF2 (fun _ _ e => e))
  have hR := fun w => QRight_any a ha N h0 h1 w
  have hDa := fun w => QDigits_any (dgt a) (dgt_lt a) w
  have hDx := fun w => QDigits_any (dgt x) (dgt_lt x) w
  have HLA := Lib.hid (fun w' (f : Fr (fun _ => False) w2 w') => (by
    have := load_first hA f (n := 32) (by rw [idC_size]; omega)
    rwa [List.take_of_length_le (by rw [Array.length_toList, idC_size]; omega), Array.toArray_toList] at this : (loadCellsFrom ⟨w.heap.size, 0, none⟩ 0 32 #[]).run Try.prog w' = .ok (idC (dgt a)) w'))
  have HLB := Lib.hid (fun w' (f : Fr (fun _ => False) w2 w') => (by
    have := load_first hB f (n := 32) (by rw [idC_size]; omega)
    rwa [List.take_of_length_le (by rw [Array.length_toList, idC_size]; omega), Array.toArray_toList] at this : (loadCellsFrom ⟨w1.heap.size, 0, none⟩ 0 32 #[]).run Try.prog w' = .ok (idC (dgt x)) w'))
  obtain ⟨ca, hca⟩ : ∃ ca, idC (dgt a) = ca := ⟨_, rfl⟩
  obtain ⟨cb, hcb⟩ : ∃ cb, idC (dgt x) = cb := ⟨_, rfl⟩
  have hcas : ca.size = 32 := by rw [← hca]; exact idC_size _
  rw [hca] at hw1 hR hDa HLA hA ⊢
  rw [hcb] at hw2 hDx HLB ⊢
  have HA := Lib.hid hA
  have HDa := Lib.hid hDa
  have HDx := Lib.hid hDx
  have HR := Lib.hid hR
  clear hF1 hF2 hA hB hca hcb hR hDa hDx
  by_cases hr : rightB a N = true
  · obtain ⟨g1, g2, g3⟩ := rightB_range hr
    rw [hr] at HR
    obtain ⟨n, rfl⟩ : ∃ n : Nat, N = n := ⟨N.toNat, by omega⟩
    have hn64 : n ≤ 64 := by omega
    rw [Int.toNat_natCast] at g3
    have HT := Lib.hid (fun (h : ∀ k, k < n → dgt a k = dgt x k) => show fitB a n x = true by
      rw [fitB, decide_eq_true_eq, Int.toNat_natCast]
      exact ⟨by omega, by omega, g3, (alike_iff a x ha hx n hn64).1 h⟩)
    have HFa := Lib.hid (fun k (h2 : k < n) (h : dgt a k ≠ dgt x k) => show fitB a n x = false by
      rw [fitB, decide_eq_false_iff_not, Int.toNat_natCast]
      intro hh
      exact h ((alike_iff a x ha hx n hn64).2 hh.2.2.2 k h2))
    clear h0 h1 hr g1 g2 g3
    go_enter Try.func19, Try.ntmps19
    go_wp2_with (first
      | (go_at_call 17; refine (HR.out _).mono ?_; rintro e w3 ⟨rfl, b3⟩
         have F3 := (Fr.refl (fun _ => False) w2).then_below b3)
      | (refine wpList_load_row rfl 23 _ rfl _ rfl 23 _ _ _ HA.out Try.underlying23 rfl (by rw [hcas]; exact size32) ?_))
    clear hw1 hw2
    have HF3 := Lib.hid F3
    clear F3 b3
    obtain ⟨T32, hT32⟩ : ∃ T : TypeId, T = 23 := ⟨_, rfl⟩
    obtain ⟨n32, hn32⟩ : ∃ n : Nat, 32 = n := ⟨_, rfl⟩
    have ag32 : ∀ w, (isAgg T32).run Try.prog w = .ok true w := by rw [hT32]; exact fun _ => by kernel_rfl
    have sz32 : ∀ w, (sizeOf T32).run Try.prog w = .ok n32 w := by rw [hT32, ← hn32]; exact fun _ => by kernel_rfl
    rw [hn32] at HLA HLB
    have l1 := HLA.out w3.drew HF3.out.drew
    have l2 := HLB.out w3.drew HF3.out.drew
    rw [show Op.load 23 (.tmp 3) = Op.load T32 (.tmp 3) by rw [hT32], show Op.load 23 (.tmp 5) = Op.load T32 (.tmp 5) by rw [hT32]]
    clear hT32 hn32
    go_region_law (first
      | (go_simp; go_at_call 35; have _ := M1
         refine (HDx.out _).mono ?_
         rintro e w5 ⟨Ax, cx, rfl, hcx1, hlx, b5⟩
         have F5 := F4.then_below b5
         have HBO := Lib.hid (And.intro (hla.fr (Fr.of_below (S := fun _ => False) b5) (fun _ _ e => e)) hlx))
      | (go_simp; go_at_call 35; have _ := M1
         refine (HDa.out _).mono ?_
         rintro e w5 ⟨Aa, ca1, rfl, hca1, hla, b5⟩
         have F5 := F4.then_below b5
         have HBO := Lib.hid (And.intro hla (hlx.fr (Fr.of_below (S := fun _ => False) b5) (fun _ _ e => e))))
      | (go_simp; go_at_call 35
         refine (HDa.out _).mono ?_
         rintro e w4 ⟨Aa, ca1, rfl, hca1, hla, b4⟩
         have F4 := (Fr.refl (fun _ => False) w3).drew.then_below b4
         have l3 := HLB.out w4 (HF3.out.trans F4 (fun _ _ e => e))
         have l4 := HLA.out w4 (HF3.out.trans F4 (fun _ _ e => e))
         have M1 := True.intro)
      | (go_simp; go_at_call 35
         refine (HDx.out _).mono ?_
         rintro e w4 ⟨Ax, cx, rfl, hcx1, hlx, b4⟩
         have F4 := (Fr.refl (fun _ => False) w3).drew.then_below b4
         have l3 := HLB.out w4 (HF3.out.trans F4 (fun _ _ e => e))
         have l4 := HLA.out w4 (HF3.out.trans F4 (fun _ _ e => e))
         have M1 := True.intro))
    all_goals
      obtain ⟨ba, oa, rfl, hcell1⟩ := HBO.out.1.at
      obtain ⟨bx, ox, rfl, hcell2⟩ := HBO.out.2.at
      have HC1 := Lib.hid hcell1
      have HC2 := Lib.hid hcell2
      have HF5 := Lib.hid (HF.out.trans (HF3.out.trans F5 (fun _ _ e => e)) (fun _ _ e => e))
      clear hcell1 hcell2 hla hlx l1 l2 l3 l4 F4 F5 b4 b5 M1
      go_wp2_with fail
      go_loopw [9] (fun i wr => ∃ k : Nat, k ≤ n ∧ i = .int .i64 k ∧ Hid (∀ j, j < k → dgt a j = dgt x j) ∧ Fr (fun _ => False) w5 wr) (fun i _ => n - (intOf i).toNat)
      case atStart => exact ⟨0, by omega, rfl, Lib.hid (fun j hj => by omega), Fr.refl _ _⟩
      case round =>
        obtain ⟨k, hk, rfl, hz, hf⟩ := hrel
        have HFr := Lib.hid hf
        by_cases hlt : k < n
        · obtain ⟨y, hy⟩ : ∃ y : Int, ((dgt a k : Nat) : Int) = y := ⟨_, rfl⟩
          obtain ⟨z, hz2⟩ : ∃ z : Int, ((dgt x k : Nat) : Int) = z := ⟨_, rfl⟩
          have c1 : ∀ q : Later wr, q.w'.cell? ⟨ba, oa + k, none⟩ = some (.int .i64 y) := fun q => by rw [← hy]; exact (hf.trans q.fr (fun _ _ e => e)).cell (HC1.out k (by omega)) (fun e => e)
          have c2 : ∀ q : Later wr, q.w'.cell? ⟨bx, ox + k, none⟩ = some (.int .i64 z) := fun q => by rw [← hz2]; exact (hf.trans q.fr (fun _ _ e => e)).cell (HC2.out k (by omega)) (fun e => e)
          have HY := Lib.hid hy
          have HZ := Lib.hid hz2
          have hk64 : (k : Int) < 64 := by omega
          clear hy hz2 hf
          by_cases hyz : y = z
          · have HYZ := Lib.hid hyz
            have hne : (y != z) = false := by simpa using hyz
            clear hyz
            go_wp2_with fail
            refine wp_region_later (w0 := wr) (Fr.refl _ _) (by kernel_rfl) (by kernel_rfl) ?_
            repeat (quiet_step (fail))
            refine wpQuiet_nil ?_
            intro _ hw'
            obtain ⟨q, hw''⟩ := hw'
            subst hw''
            go_wp2_with fail
            go_roundw
            case rel =>
              refine ⟨k + 1, by omega, by go_num, Lib.hid (fun j hj => ?_), HFr.out.trans q.fr (fun _ _ e => e)⟩
              rcases (by omega : j < k ∨ j = k) with h | rfl
              · exact hz.out j h
              · have h1 := HY.out
                have h2 := HZ.out
                have h3 := HYZ.out
                omega
            case measure => simp [intOf]; omega
          · have HYZ := Lib.hid hyz
            have hne : (y != z) = true := by simpa using hyz
            have HRR := Lib.hid (HFa.out k hlt (fun e => HYZ.out (by rw [← HY.out, ← HZ.out, e])))
            clear hyz
            go_wp2_with fail
            refine wp_region_later (w0 := wr) (Fr.refl _ _) (by kernel_rfl) (by kernel_rfl) ?_
            repeat (quiet_step (fail))
            refine wpQuiet_nil ?_
            intro _ hw'
            obtain ⟨q, hw''⟩ := hw'
            subst hw''
            go_wp2_with fail
            go_ret
            exact ⟨by rw [HRR.out]; rfl, (HF5.out.trans (HFr.out.trans q.fr (fun _ _ e => e)) (fun _ _ e => e)).below (fun _ _ e => e)⟩
        · obtain rfl : k = n := by omega
          have HRR := Lib.hid (HT.out hz.out)
          go_wp2_with fail
          go_ret
          exact ⟨by rw [HRR.out]; rfl, (HF5.out.trans HFr.out (fun _ _ e => e)).below (fun _ _ e => e)⟩
  · have hr' : rightB a N = false := by simpa using hr
    rw [hr'] at HR
    have HZ := Lib.hid (fitB_not a N x hr')
    clear hr hr'
    go_enter Try.func19, Try.ntmps19
    go_wp2_with (first
      | (go_at_call 17; refine (HR.out _).mono ?_; rintro e w3 ⟨rfl, b3⟩
         have F3 := (Fr.refl (fun _ => False) w2).then_below b3)
      | (refine wpList_load_row rfl 23 _ rfl _ rfl 23 _ _ _ HA.out Try.underlying23 rfl (by rw [hcas]; exact size32) ?_))
    go_ret
    exact ⟨by rw [HZ.out]; rfl, (HF.out.trans F3 (fun _ _ e => e)).below (fun _ _ e => e)⟩
end Go.Proofs.Ytbfbgopbelmghaa

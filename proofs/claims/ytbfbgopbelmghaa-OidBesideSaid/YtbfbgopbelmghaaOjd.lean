/- What is proved: where an id stands, by the program. Conditions: the list's cells are there. -/
import Derived.Test.YtbfbgopbelmghaaOjc
namespace Go.Proofs.Ytbfbgopbelmghaa
open Go.RowKit
set_option linter.unusedVariables false

theorem one_cell (w : World) (v : Value) (t : TypeId) : (w.alloc (.cells #[v] t)).cell? ⟨w.heap.size, 0, none⟩ = some v := by
  rw [(Whole.new w t #[v]).cell]; rfl

set_option maxHeartbeats 3200000 in
theorem OFind_any (A : Option Addr) (cap : Nat) (ns : List Nat) (x : Nat) (hb : ∀ n ∈ ns, n < big) (hx : x < big) (hn : ns.length ≤ 1000) (w : World) (h : Lies w A (flatI ns)) :
    Calls Try.prog 23 #[.slice A ns.length cap, .agg (idC (dgt x))] w fun e w' => e = .returned (.tuple #[.int .i64 (fAt ns x), .bool (fHas ns x)]) ∧ Below w.heap.size w w' := by
  obtain ⟨w0, hw0⟩ : ∃ w0, w.alloc (.cells #[.slice A ns.length cap] 44) = w0 := ⟨_, rfl⟩
  obtain ⟨w1, hw1⟩ : ∃ w1, w0.alloc (.cells (idC (dgt x)) 23) = w1 := ⟨_, rfl⟩
  have hF0 : Fr (fun _ => False) w w0 := by subst hw0; exact (Fr.refl _ w).alloc _
  have hF1 : Fr (fun _ => False) w0 w1 := by subst hw1; exact (Fr.refl _ w0).alloc _
  have hF := hF0.trans hF1 (fun _ _ e => e)
  have hC0 : w1.cell? ⟨w.heap.size, 0, none⟩ = some (.slice A ns.length cap) := by subst hw0; exact hF1.cell (one_cell w _ _) (fun e => e)
  have hX : Whole w1 w0.heap.size 23 (idC (dgt x)) := by subst hw1; exact Whole.new w0 23 _
  have hl1 := h.fr hF (fun _ _ e => e)
  have hcr := ORising_any A cap ns hb hn w1 hl1
  have HL := Lib.hid hl1
  have HB := Lib.hid hb
  have HF := Lib.hid hF
  have HX := Lib.hid hX
  have HC0 := Lib.hid hC0
  have HXB := Lib.hid hx
  have eg : ∀ args w, (callFunc 42 args).run Try.prog w = .ok (.enter 42 args) w := enters_of Try.func42 (by kernel_rfl) rfl
  have EG := Lib.hid eg
  have hmf : ∀ (fn : Fn) (first cap : Array Value) (w : World), (Instr.makeFunc fn first cap).run Try.prog w = .ok (.func fn first cap) w := fun _ _ _ _ => rfl
  have HSE := Lib.hid (fun (w2 : World) (hf2 : Fr (fun _ => False) w1 w2) (hr : ris ns) => show Calls Try.prog 41 #[.int .i64 ns.length, .func (.func 42) #[] #[.pointer (some ⟨w.heap.size, 0, none⟩), .pointer (some ⟨w0.heap.size, 0, none⟩)]] w2 fun e w' => ∃ m, e = .returned (.int .i64 (m : Nat)) ∧ Found ns.length (fun i => decide (x ≤ gt ns i)) m ∧ Below w2.heap.size w2 w' from by
    refine GSearch_any 42 _ ns.length _ w2 EG.out hn (fun q i hi => ?_) (fun a c hac hc ha => ?_)
    · obtain ⟨b, o, hA⟩ := HL.out.some_of (by omega)
      subst hA
      exact OFind1_any w.heap.size w0.heap.size b o cap ns x HB.out HXB.out hn i hi q.w' ((hf2.trans q.fr (fun _ _ e => e)).cell HC0.out (fun e => e)) (HX.out.fr (hf2.trans q.fr (fun _ _ e => e)) (fun e => e)) (HL.out.fr (hf2.trans q.fr (fun _ _ e => e)) (fun _ _ e => e))
    · have h1 := of_decide_eq_true ha
      refine decide_eq_true ?_
      rcases Nat.lt_or_ge a c with h2 | h2
      · have := hr a c h2 hc
        omega
      · obtain rfl : a = c := by omega
        exact h1)
  obtain ⟨L, hL⟩ : ∃ L, ns.length = L := ⟨_, rfl⟩
  have HLn := Lib.hid hL
  obtain ⟨cx, hcx⟩ : ∃ c, idC (dgt x) = c := ⟨_, rfl⟩
  have HCX := Lib.hid hcx
  obtain ⟨T32, hT32⟩ : ∃ T : TypeId, T = 23 := ⟨_, rfl⟩
  obtain ⟨n32, hn32⟩ : ∃ n : Nat, n = 32 := ⟨_, rfl⟩
  have ag32 : ∀ w, (isAgg T32).run Try.prog w = .ok true w := by rw [hT32]; exact fun _ => by kernel_rfl
  have sz32 : ∀ w, (sizeOf T32).run Try.prog w = .ok n32 w := by rw [hT32, hn32]; exact fun _ => by kernel_rfl
  have hgi := guardI
  have HN32 := Lib.hid hn32
  rw [hL] at hn hcr hC0 hw0 HSE ⊢
  rw [hcx] at hw1 ⊢
  have HCR := Lib.hid hcr
  clear h hb hL hn32 hF0 hF1 hF hX hl1 hx hcx hcr eg
  by_cases hr : risB ns = true
  · have HR := Lib.hid hr
    rw [hr] at HCR
    have HAT : Hid (fAt ns x = posN ns x) := Lib.hid (by rw [fAt, if_pos hr])
    have HHA : Hid (fHas ns x = hasN ns x) := Lib.hid (by rw [fHas, hr, Bool.true_and])
    rw [HAT.out, HHA.out]
    clear hr
    go_enter Try.func23, Try.ntmps23
    rw [show Op.load 23 (.tmp 22) = Op.load T32 (.tmp 22) by rw [hT32], show Op.load 23 (.tmp 3) = Op.load T32 (.tmp 3) by rw [hT32]]
    clear hT32
    go_wp2_with (first
      | (go_at_call 41; refine (HSE.out _ F2 ((risB_iff ns).1 HR.out)).mono ?_; rintro e w3 ⟨m, rfl, hfo, b3⟩)
      | (go_at_call 27; refine HCR.out.mono ?_; rintro e w2 ⟨rfl, b2⟩
         have F2 := (Fr.refl (fun _ => False) w1).then_below b2
         have hC2 := F2.cell HC0.out (fun e => e)
         rw [HLn.out] at hC2))
    clear hw0 hw1
    have HF3 := Lib.hid (F2.then_below b3)
    have HFO := Lib.hid hfo
    have hm := hfo.le
    have HPO := Lib.hid (pos_unique ns x m (by rw [HLn.out]; exact hm) (fun i hi => by have := of_decide_eq_false (hfo.below i hi); omega) (fun hlt => of_decide_eq_true (hfo.here (by rw [← HLn.out]; exact hlt))))
    have l0 : ∀ q : Later w3, q.w'.cell? ⟨w.heap.size, 0, none⟩ = some (.slice A L cap) := fun q => by
      have := (HF3.out.trans q.fr (fun _ _ e => e)).cell HC0.out (fun e => e)
      rwa [HLn.out] at this
    have l2 : ∀ q : Later w3, (loadCellsFrom ⟨w0.heap.size, 0, none⟩ 0 n32 #[]).run Try.prog q.w' = .ok cx q.w' := fun q => by rw [← HCX.out]; exact load_later HX.out (by rw [idC_size]; exact HN32.out) HF3.out q
    clear hfo F2 b2 b3 hC0 hC2
    by_cases hlt : m < L
    · obtain ⟨b, o, hA⟩ := HL.out.some_of (by rw [HLn.out]; omega)
      subst hA
      have hma := HB.out _ (gt_mem ns m (by rw [HLn.out]; omega))
      have l1 : ∀ q : Later w3, (loadCellsFrom ⟨b, o + m * 32, none⟩ 0 n32 #[]).run Try.prog q.w' = .ok (idC (dgt (gt ns m))) q.w' := fun q => by rw [HN32.out]; exact load_at HL.out (gt_some ns m (by rw [HLn.out]; exact hlt)) (HF3.out.trans q.fr (fun _ _ e => e))
      have heq := fun w => eq_nums (gt ns m) x hma HXB.out w
      obtain ⟨s, hs⟩ : ∃ s, (gt ns m == x) = s := ⟨_, rfl⟩
      obtain ⟨ca, hca⟩ : ∃ c, idC (dgt (gt ns m)) = c := ⟨_, rfl⟩
      rw [hca] at l1 heq
      rw [hs, HCX.out] at heq
      have HHS : Hid (hasN ns x = s) := Lib.hid (by
        rw [hasN, HPO.out, ← hs, Bool.eq_iff_iff, decide_eq_true_eq, beq_iff_eq]
        exact ⟨fun e => e.2, fun e => ⟨by rw [HLn.out]; exact hlt, e⟩⟩)
      have hm0 : (m : Int) < L := by omega
      have hd0 : decide ((m : Int) < L) = true := decide_eq_true hm0
      have wk := wrap_nat m (by omega)
      clear hma hca hs hlt hm
      refine wp_region_later (w0 := w3) (Fr.refl _ _) (by kernel_rfl) (by kernel_rfl) ?_
      repeat (quiet_step (fail))
      refine wpQuiet_nil ?_
      intro _ hw'
      obtain ⟨q, hw''⟩ := hw'
      subst hw''
      go_wp2_with fail
      go_ret2
      exact ⟨by rw [HPO.out, HHS.out]; rfl, (HF.out.trans (HF3.out.trans q.fr (fun _ _ e => e)) (fun _ _ e => e)).below (fun _ _ e => e)⟩
    · have HHS : Hid (hasN ns x = false) := Lib.hid (by rw [hasN, HPO.out, HLn.out]; exact decide_eq_false (fun e => hlt e.1))
      have hm0 : ¬ ((m : Int) < L) := by omega
      have hd0 : decide ((m : Int) < L) = false := decide_eq_false hm0
      clear hlt hm
      refine wp_region_later (w0 := w3) (Fr.refl _ _) (by kernel_rfl) (by kernel_rfl) ?_
      repeat (quiet_step (fail))
      refine wpQuiet_nil ?_
      intro _ hw'
      obtain ⟨q, hw''⟩ := hw'
      subst hw''
      go_wp2_with fail
      go_ret2
      exact ⟨by rw [HPO.out, HHS.out]; rfl, (HF.out.trans (HF3.out.trans q.fr (fun _ _ e => e)) (fun _ _ e => e)).below (fun _ _ e => e)⟩
  · have hr' : risB ns = false := by simpa using hr
    rw [hr'] at HCR
    have HAT : Hid (fAt ns x = 0) := Lib.hid (by rw [fAt, if_neg hr])
    have HHA : Hid (fHas ns x = false) := Lib.hid (by rw [fHas, hr', Bool.false_and])
    rw [HAT.out, HHA.out]
    clear hr hr'
    go_enter Try.func23, Try.ntmps23
    go_wp2_with (go_at_call 27; refine HCR.out.mono ?_; rintro e w2 ⟨rfl, b2⟩)
    go_ret2
    exact ⟨rfl, (HF.out.then_below b2).below (fun _ _ e => e)⟩
end Go.Proofs.Ytbfbgopbelmghaa

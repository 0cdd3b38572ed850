/- What is proved: what the library's search in a list of numbers finds. Conditions: the list's cells are there, and rise. -/
import Derived.Test.YthjfkeploofblaaDa
import Derived.Test.YthjfkeploofblaaDas
import Derived.Test.YthjfkeploofblaaDh
namespace Go.Proofs.Ythjfkeploofblaa
open Go.RowKit
set_option linter.unusedVariables false

set_option maxHeartbeats 3200000 in
theorem SearchInts1_any (ga gx eb n ce : Nat) (x y : Int) (i : Nat) (hi : i < n) (w : World) (h0 : w.cell? ⟨ga, 0, none⟩ = some (.slice (some ⟨eb, 0, none⟩) n ce)) (h1 : w.cell? ⟨gx, 0, none⟩ = some (.int .i64 x)) (h2 : w.cell? ⟨eb, i, none⟩ = some (.int .i64 y)) :
    Calls Try.prog 71 #[.int .i64 i, .pointer (some ⟨ga, 0, none⟩), .pointer (some ⟨gx, 0, none⟩)] w fun e w' => e = .returned (.bool (decide (x ≤ y))) ∧ Below w.heap.size w w' := by
  have q0 : ∀ q : Later w, q.w'.cell? ⟨ga, 0, none⟩ = some (.slice (some ⟨eb, 0, none⟩) n ce) := fun q => q.fr.cell h0 (fun e => e)
  have q1 : ∀ q : Later w, q.w'.cell? ⟨gx, 0, none⟩ = some (.int .i64 x) := fun q => q.fr.cell h1 (fun e => e)
  have q2 : ∀ q : Later w, q.w'.cell? ⟨eb, i, none⟩ = some (.int .i64 y) := fun q => q.fr.cell h2 (fun e => e)
  have hi0 : (0 : Int) ≤ i := by omega
  have hi1 : (i : Int) < n := by omega
  obtain ⟨r, hr⟩ : ∃ r, decide (x ≤ y) = r := ⟨_, rfl⟩
  have hr2 : decide (y ≥ x) = r := hr
  have HR := Lib.hid hr
  clear h0 h1 h2
  go_enter Try.func71, Try.ntmps71
  go_wp2_with fail
  refine wp_region_later (w0 := w) (Fr.refl _ _) (by kernel_rfl) (by kernel_rfl) ?_
  repeat (quiet_step (fail))
  refine wpQuiet_nil ?_
  intro _ hw'
  obtain ⟨q, hw''⟩ := hw'
  subst hw''
  go_wp2_with fail
  go_ret
  exact ⟨by rw [HR.out]; rfl, q.fr.below (fun _ _ e => e)⟩

set_option maxHeartbeats 3200000 in
theorem SearchInts_any (eb n ce : Nat) (v : Nat → Int) (x : Int) (hn : n ≤ 1000) (hm : ∀ a c, a ≤ c → c < n → v a ≤ v c) (w : World) (hc : ∀ i, i < n → w.cell? ⟨eb, i, none⟩ = some (.int .i64 (v i))) :
    Calls Try.prog 62 #[.slice (some ⟨eb, 0, none⟩) n ce, .int .i64 x] w fun e w' => ∃ m, e = .returned (.int .i64 (m : Nat)) ∧ Found n (fun i => decide (x ≤ v i)) m ∧ Below w.heap.size w w' := by
  obtain ⟨w1, hw1⟩ : ∃ w1, w.alloc (.cells #[.slice (some ⟨eb, 0, none⟩) n ce] 110) = w1 := ⟨_, rfl⟩
  obtain ⟨w2, hw2⟩ : ∃ w2, w1.alloc (.cells #[.int .i64 x] 3) = w2 := ⟨_, rfl⟩
  have f1 : Fr (fun _ => False) w w1 := by subst hw1; exact (Fr.refl _ _).alloc _
  have f2 : Fr (fun _ => False) w1 w2 := by subst hw2; exact (Fr.refl _ _).alloc _
  have W1 : Whole w1 w.heap.size 110 #[.slice (some ⟨eb, 0, none⟩) n ce] := by subst hw1; exact Whole.new _ _ _
  have W2 : Whole w2 w1.heap.size 3 #[.int .i64 x] := by subst hw2; exact Whole.new _ _ _
  have hsz : w1.heap.size = w.heap.size + 1 := by subst hw1; simp
  have c1 : w2.cell? ⟨w.heap.size, 0, none⟩ = some (.slice (some ⟨eb, 0, none⟩) n ce) := by rw [(W1.fr f2 (fun e => e)).cell]; rfl
  have c2 : w2.cell? ⟨w1.heap.size, 0, none⟩ = some (.int .i64 x) := by rw [W2.cell]; rfl
  have eg : ∀ args w, (callFunc 71 args).run Try.prog w = .ok (.enter 71 args) w := enters_of Try.func71 (by kernel_rfl) rfl
  have hmf : ∀ (fn : Fn) (first cap : Array Value) (w : World), (Instr.makeFunc fn first cap).run Try.prog w = .ok (.func fn first cap) w := fun _ _ _ _ => rfl
  have HSE := Lib.hid (show Calls Try.prog 70 #[.int .i64 n, .func (.func 71) #[] #[.pointer (some ⟨w.heap.size, 0, none⟩), .pointer (some ⟨w1.heap.size, 0, none⟩)]] w2 fun e w' => ∃ m, e = .returned (.int .i64 (m : Nat)) ∧ Found n (fun i => decide (x ≤ v i)) m ∧ Below w2.heap.size w2 w' from by
    refine GSearch_any 71 _ n _ w2 eg hn (fun q i hi => ?_) (fun a c hac hc' ha => ?_)
    · exact SearchInts1_any w.heap.size w1.heap.size eb n ce x (v i) i hi q.w' (q.fr.cell c1 (fun e => e)) (q.fr.cell c2 (fun e => e)) (((f1.trans f2 (fun _ _ e => e)).trans q.fr (fun _ _ e => e)).cell (hc i hi) (fun e => e))
    · have h1 := of_decide_eq_true ha
      have := hm a c hac hc'
      exact decide_eq_true (by omega))
  have HF := Lib.hid (f1.trans f2 (fun _ _ e => e))
  clear f1 f2 W1 W2 hc hm eg hsz
  go_enter Try.func62, Try.ntmps62
  go_wp2_with (go_at_call 70; refine HSE.out.mono ?_; rintro e w3 ⟨m, rfl, hfo, b3⟩; have HFo := Lib.hid hfo; have HF3 := Lib.hid (HF.out.then_below b3); clear hfo b3)
  go_ret
  exact ⟨m, rfl, HFo.out, HF3.out.below (fun _ _ e => e)⟩
end Go.Proofs.Ythjfkeploofblaa

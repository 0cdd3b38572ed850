/- What is proved: what Of answers, by the program and by the document, and that the law's own works answers true. Conditions: the parts lie where they are said to lie. -/
import Derived.Test.YtfdindkagddjbaaCrm
import Derived.Test.YtfdindkagddjbaaPts
import Derived.Lib.SlBytesConst
namespace Go.Proofs.Ytfdindkagddjbaa
open Go.RowKit
set_option linter.unusedVariables false

set_option maxHeartbeats 800000 in
theorem COf_any (A : Option Addr) (cap : Nat) (ps : List (List UInt8)) (w : World) (hp : Parts w A ps) (hps : ps.length ≤ 9223372036854775807) (hn : ps.flatten.length ≤ 9223372036854775807) :
    Calls Try.prog 8 #[.slice A ps.length cap] w fun e w' => e = .returned (.int .u32 (rI (more 0#32 ps.flatten))) ∧ Below w.heap.size w w' := by
  have HP := Lib.hid hp
  have HN := Lib.hid hn
  clear hp hn
  go_enter Try.func8, Try.ntmps8
  go_wp2
  go_loopw [3, 8] (fun v i wr => ∃ k : Nat, k ≤ ps.length ∧ i = .int .i64 k ∧ v = .int .u32 (rI (more 0#32 (ps.take k).flatten)) ∧ Fr (fun _ => False) w wr) (fun _ i _ => ps.length - (intOf i).toNat)
  case atStart => exact ⟨0, by omega, rfl, by rw [List.take_zero, List.flatten_nil, more_nil]; rfl, Fr.refl _ _⟩
  case round =>
    obtain ⟨k, hk, rfl, rfl, hf⟩ := hrel
    obtain ⟨q, hq⟩ : ∃ q, more 0#32 (ps.take k).flatten = q := ⟨_, rfl⟩
    rw [hq]
    by_cases hlt : k < ps.length
    · obtain ⟨p, hpk⟩ : ∃ p, ps[k]? = some p := ⟨_, List.getElem?_eq_getElem hlt⟩
      rcases HP.out with h0 | ⟨b, o, hA, hc⟩
      · rw [h0] at hlt
        simp at hlt
      · obtain ⟨Ai, ci, c1, c2, c3⟩ := hc k p hpk
        have c1' := hf.cell c1 (fun e => e)
        subst hA
        have hft := flatten_take_succ ps k p hpk
        have hfl := flatten_take_le ps (k + 1)
        have hpl : p.length ≤ 9223372036854775807 := by
          rw [hft, List.length_append] at hfl
          have := HN.out
          omega
        have HFT := Lib.hid hft
        have HC3 := Lib.hid (c3.fr hf (fun _ _ e => e))
        have HQ := Lib.hid hq
        obtain ⟨z, hz⟩ : ∃ z, rI q = z := ⟨_, rfl⟩
        rw [hz]
        have HZ := Lib.hid hz
        clear hq hz hc hpk c1 c3 hft hfl
        go_wp2_with (go_at_call 10; refine (CMore_any q z HZ.out.symm Ai ci p _ HC3.out hpl).mono ?_; rintro e w3 ⟨rfl, b3⟩)
        go_roundw
        case rel => exact ⟨k + 1, by omega, by go_num, by rw [HFT.out, more_append, HQ.out], hf.then_below b3⟩
        case measure => simp [intOf]; omega
    · obtain rfl : k = ps.length := by omega
      rw [List.take_length] at hq
      have HQ := Lib.hid hq
      clear hq
      go_wp2_with fail
      go_ret
      exact ⟨by rw [HQ.out]; rfl, hf.below (fun _ _ e => e)⟩

set_option maxHeartbeats 800000 in
theorem QcOf_any (A : Option Addr) (cap : Nat) (bs : List UInt8) (w : World) (hl : Lies w A (bytesV bs)) (hn : bs.length ≤ 9223372036854775807) :
    Calls Try.prog 9 #[.slice A bs.length cap] w fun e w' => e = .returned (.int .u32 (rI (more 0#32 bs))) ∧ Below w.heap.size w w' := by
  go_enter Try.func9, Try.ntmps9
  go_wp2_with (go_at_call 11; refine (QcMore_any 0#32 _ rfl A cap bs _ hl hn).mono ?_; rintro e w2 ⟨rfl, b2⟩)
  go_ret
  exact ⟨rfl, b2⟩

def TruePost (w : World) (e : Ending) (w' : World) : Prop := e = .returned (.bool true) ∧ Below w.heap.size w w'
theorem nine : rI (more 0#32 [49, 50, 51, 52, 53, 54, 55, 56, 57]) = 3421780262 := by decide +kernel

set_option maxHeartbeats 800000 in
theorem works_any (w : World) : Calls Try.prog 7 #[] w (TruePost w) := by
  obtain ⟨bs, hbs⟩ : ∃ bs : List UInt8, [49, 50, 51, 52, 53, 54, 55, 56, 57] = bs := ⟨_, rfl⟩
  have hnine := nine
  rw [hbs] at hnine
  have hbl : bs.length = 9 := by rw [← hbs]; rfl
  obtain ⟨w1, hw1⟩ : ∃ w1, w.alloc (.cells (bytesV bs).toArray 5 (9, 10)) = w1 := ⟨_, rfl⟩
  have hF1 : Fr (fun _ => False) w w1 := by subst hw1; exact (Fr.refl _ w).alloc _
  have hA : w1.heap[w.heap.size]? = some (.cells (bytesV bs).toArray 5 (9, 10)) := by subst hw1; exact heap_alloc_new w _
  have hcv : (convert 24 24 (.slice (some ⟨w.heap.size, 0, none⟩) 9 9)).run Try.prog (w.alloc (.cells #[.int .u8 49, .int .u8 50, .int .u8 51, .int .u8 52, .int .u8 53, .int .u8 54, .int .u8 55, .int .u8 56, .int .u8 57] 5)) = .ok (.slice (some ⟨w.heap.size, 0, none⟩) 9 9) w1 := by
    rw [← hw1, ← hbs]
    exact Lib.run_convert_bytes_const (P := Try.prog) w 24 5 #[.int .u8 49, .int .u8 50, .int .u8 51, .int .u8 52, .int .u8 53, .int .u8 54, .int .u8 55, .int .u8 56, .int .u8 57] 9 9 Try.underlying24 Try.underlying5
  have hs1 : w1.heap.size = w.heap.size + 1 := by subst hw1; simp
  obtain ⟨w2, hw2⟩ : ∃ w2, w1.alloc (.cells #[.slice (some ⟨w.heap.size, 0, none⟩) 9 9] 24) = w2 := ⟨_, rfl⟩
  obtain ⟨ps, hps⟩ : ∃ ps : List (List UInt8), [bs] = ps := ⟨_, rfl⟩
  have hfl : ps.flatten = bs := by rw [← hps]; simp
  have hpl : ps.length = 1 := by rw [← hps]; rfl
  have hF2 : Fr (fun _ => False) w1 w2 := by subst hw2; exact (Fr.refl _ w1).alloc _
  have hP2 : Whole w2 w1.heap.size 24 #[.slice (some ⟨w.heap.size, 0, none⟩) 9 9] := by subst hw2; exact Whole.new w1 _ _
  have hA2 := (hF2.block w.heap.size (by rw [hs1]; omega) (fun e => e)).trans hA
  have hP : Parts w2 (some ⟨w1.heap.size, 0, none⟩) [bs] := .inr ⟨w1.heap.size, 0, rfl, fun i p hi => by
    match i, hi with
    | 0, hi =>
      simp at hi
      subst hi
      exact ⟨some ⟨w.heap.size, 0, none⟩, 9, by rw [Nat.add_zero, hP2.cell, hbl]; rfl, by omega, .inr ⟨w.heap.size, 0, rfl, fun j u hu => by rw [Nat.zero_add, cell_of_row w2 w.heap.size j _ _ _ hA2]; simpa using hu⟩⟩⟩
  have HF := Lib.hid (hF1.trans hF2 (fun _ _ e => e))
  rw [hps, hs1] at hP
  have HP := Lib.hid hP
  have HNN := Lib.hid hnine
  have HFL := Lib.hid hfl
  have HPL := Lib.hid hpl
  have HBL := Lib.hid hbl
  clear hF1 hF2 hA hA2 hP hP2 hw1 hps hfl hpl hbs hnine hbl
  go_enter Try.func7, Try.ntmps7
  go_wp2_with (go_at_call 8; refine Calls.mono (by have h := COf_any _ 1 ps w2 HP.out (by rw [HPL.out]; decide) (by rw [HFL.out, HBL.out]; decide); rw [HPL.out, HFL.out, HNN.out] at h; exact h) ?_; rintro e w3 ⟨rfl, b3⟩)
  go_ret
  exact ⟨rfl, (HF.out.then_below b3).below (fun _ _ e => e)⟩
end Go.Proofs.Ytfdindkagddjbaa

/- What is proved: what Join answers, by the program and by the document. Conditions: none. -/
import Derived.Test.YtfdindkagddjbaaCrk
namespace Go.Proofs.Ytfdindkagddjbaa
open Go.RowKit
set_option linter.unusedVariables false

theorem i64_and1 (n : Int) : bits .and .i64 n 1 = n % 2 := by
  have h1 : (BitVec.ofInt 64 1).toNat = 2 ^ 1 - 1 := by decide
  have key : (BitVec.ofInt 64 n &&& BitVec.ofInt 64 1).toNat = (n % ((2 ^ 64 : Nat) : Int)).toNat % 2 ^ 1 := by
    rw [BitVec.toNat_and, BitVec.toNat_ofInt, h1, Nat.and_two_pow_sub_one_eq_mod]
  show IntKind.i64.wrap ((BitVec.ofInt 64 n &&& BitVec.ofInt 64 1).toNat : Nat) = n % 2
  rw [key, IntKind.wrap_i64]
  omega
theorem join_round (E m : Nat) (q : BitVec 32) : stpN ((E + E) * (m / 2)) (if m % 2 = 1 then stpN E q else q) = stpN (E * m) q := by
  have h := Nat.div_add_mod m 2
  have e1 : (E + E) * (m / 2) = E * (2 * (m / 2)) := by rw [← Nat.two_mul, Nat.mul_comm 2 E, Nat.mul_assoc]
  split
  · rename_i h1
    rw [← stpN_add, e1]
    congr 1
    conv => rhs; rw [← h, h1, Nat.mul_add, Nat.mul_one]
  · rename_i h1
    rw [e1]
    congr 2
    omega

theorem zstep : (tbV 0 0) = #[.int .u32 0, .int .u32 0, .int .u32 0, .int .u32 0, .int .u32 0, .int .u32 0, .int .u32 0, .int .u32 0, .int .u32 0, .int .u32 0, .int .u32 0, .int .u32 0, .int .u32 0, .int .u32 0, .int .u32 0, .int .u32 0, .int .u32 0, .int .u32 0, .int .u32 0, .int .u32 0, .int .u32 0, .int .u32 0, .int .u32 0, .int .u32 0, .int .u32 0, .int .u32 0, .int .u32 0, .int .u32 0, .int .u32 0, .int .u32 0, .int .u32 0, .int .u32 0] := by
  unfold tbV
  simp [List.replicate]
theorem new_step (w : World) : Whole (w.alloc (.cells #[.int .u32 0, .int .u32 0, .int .u32 0, .int .u32 0, .int .u32 0, .int .u32 0, .int .u32 0, .int .u32 0, .int .u32 0, .int .u32 0, .int .u32 0, .int .u32 0, .int .u32 0, .int .u32 0, .int .u32 0, .int .u32 0, .int .u32 0, .int .u32 0, .int .u32 0, .int .u32 0, .int .u32 0, .int .u32 0, .int .u32 0, .int .u32 0, .int .u32 0, .int .u32 0, .int .u32 0, .int .u32 0, .int .u32 0, .int .u32 0, .int .u32 0, .int .u32 0] 43)) w.heap.size 43 (tbV 0 0) := by
  rw [zstep]
  exact Whole.new w 43 _

set_option maxHeartbeats 1600000 in
theorem CJoin_any (a b : BitVec 32) (x y : Int) (hx : x = rI a) (hy : y = rI b) (n : Nat) (hn : n ≤ 65536) (w : World) :
    Calls Try.prog 12 #[.int .u32 x, .int .u32 y, .int .i64 n] w fun e w' => e = .returned (.tuple #[.int .u32 (rI (stpN (8 * n) a ^^^ b)), .int .i64 0]) ∧ Below w.heap.size w w' := by
  have HX := Lib.hid hx
  have HY := Lib.hid hy
  clear hx hy
  obtain ⟨T8, hT8⟩ : ∃ T, tbV 8 32 = T := ⟨_, rfl⟩
  have hs8 : T8.size = 32 := by rw [← hT8]; exact tbV_size _ _ (by omega)
  have ho8 : T8.all (·.oneCell') = true := by rw [← hT8]; exact tbV_one _ _
  have HT8 := Lib.hid hT8
  clear hT8
  go_enter Try.func12, Try.ntmps12
  go_wp2_with (first
    | (go_at_call 19; refine Calls.mono (by have h := CoverByte_any w; rw [HT8.out] at h; exact h) ?_; rintro e w2 ⟨rfl, b2⟩)
    | (refine wpList_store_at rfl 43 _ _ rfl w2.heap.size 0 43 _ T8 rfl rfl (new_step w2) (by rw [hs8, tbV_size _ _ (by omega)]; omega) (by rw [hs8]; exact sizeStep) ho8 ?_
       intro w3 hw3 hf3
       rw [laidAt_all _ _ (by rw [hs8]; rfl)] at hw3))
  have F3 : Fr (fun _ => False) w w3 := (((Fr.of_below b2).alloc _).trans hf3 (fun i hi e => by have := b2.size; omega))
  have HF3 := Lib.hid F3
  have HW3 := Lib.hid hw3
  have hlt2 : w2.heap.size < w3.heap.size := hw3.lt
  have hlt3 : w.heap.size ≤ w2.heap.size := b2.size
  clear hf3 hw3 b2 F3
  simp only [Act.put]
  go_loopw [0, 2] (fun v i wr => ∃ (m E : Nat) (q : BitVec 32), m ≤ 65536 ∧ i = .int .i64 m ∧ v = .int .u32 (rI q) ∧ stpN (E * m) q = stpN (8 * n) a ∧ Whole wr w2.heap.size 43 (tbV E 32) ∧ Fr (fun j => j = w2.heap.size) w3 wr) (fun _ i _ => (intOf i).toNat)
  case atStart => exact ⟨n, 8, a, hn, rfl, by rw [HX.out], rfl, by rw [HT8.out]; exact HW3.out, Fr.refl _ _⟩
  case round =>
    clear HW3
    obtain ⟨m, E, q, hm, rfl, rfl, hinv, hw, hf⟩ := hrel
    obtain ⟨z, hz⟩ : ∃ z, rI q = z := ⟨_, rfl⟩
    rw [hz]
    obtain ⟨TE, hTE⟩ : ∃ T, tbV E 32 = T := ⟨_, rfl⟩
    rw [hTE] at hw
    have hsE : TE.size = 32 := by rw [← hTE]; exact tbV_size _ _ (by omega)
    obtain ⟨TF, hTF⟩ : ∃ T, tbV (E + E) 32 = T := ⟨_, rfl⟩
    have hsF : TF.size = 32 := by rw [← hTF]; exact tbV_size _ _ (by omega)
    have hoF : TF.all (·.oneCell') = true := by rw [← hTF]; exact tbV_one _ _
    have HTE := Lib.hid hTE
    have HTF := Lib.hid hTF
    have HZ := Lib.hid hz
    have HI := Lib.hid hinv
    have hj := join_round E m q
    have HFw := Lib.hid hf
    clear hTE hTF hz hinv hf
    by_cases hpos : 0 < m
    · have qa := i64_and1 m
      by_cases hodd : m % 2 = 1
      · have e1 : (m : Int) % 2 = 1 := by omega
        rw [e1] at qa
        rw [if_pos hodd] at hj
        have HJ := Lib.hid hj
        clear hj
        go_wp2_with (first
          | (refine wpList_load_row rfl 43 _ rfl _ rfl 43 _ _ _ hw Try.underlying43 rfl (by rw [hsE]; exact sizeStep) ?_)
          | (go_at_call 20; refine Calls.mono (by have h := Capplied_any E q z HZ.out.symm wr; rw [HTE.out] at h; exact h) ?_; rintro e w4 ⟨rfl, b4⟩; have F4 := Fr.of_below (S := fun _ => False) b4; have hw4 := hw.fr F4 (fun e => e))
          | (refine wpList_load_row rfl 43 _ rfl _ rfl 43 _ _ _ hw4 Try.underlying43 rfl (by rw [hsE]; exact sizeStep) ?_)
          | (go_at_call 21; refine Calls.mono (by have h := Csquared_any E w4; rw [HTE.out, HTF.out] at h; exact h) ?_; rintro e w5 ⟨rfl, b5⟩; have F5 := F4.then_below b5; have hw5 := hw.fr F5 (fun e => e))
          | (refine wpList_store_at rfl 43 _ _ rfl w2.heap.size 0 43 _ TF rfl rfl hw5 (by rw [hsE, hsF]; omega) (by rw [hsF]; exact sizeStep) hoF ?_
             intro w6 hw6 hf6
             rw [laidAt_all _ _ (by rw [hsE, hsF])] at hw6))
        have HW6 := Lib.hid hw6
        have HF6 := Lib.hid ((HFw.out.trans F5 (fun _ _ e => e.elim)).trans hf6 (fun _ _ e => e))
        clear hw6 hf6
        go_wp2_with fail
        go_roundw
        case rel => exact ⟨m / 2, E + E, stpN E q, by omega, by go_num, rfl, by rw [HJ.out, HI.out], by rw [HTF.out]; exact HW6.out, HF6.out⟩
        case measure => simp [intOf]; omega
      · have e1 : (m : Int) % 2 = 0 := by omega
        rw [e1] at qa
        rw [if_neg hodd] at hj
        have HJ := Lib.hid hj
        clear hj
        go_wp2_with (first
          | (refine wpList_load_row rfl 43 _ rfl _ rfl 43 _ _ _ hw Try.underlying43 rfl (by rw [hsE]; exact sizeStep) ?_)
          | (go_at_call 21; refine Calls.mono (by have h := Csquared_any E wr; rw [HTE.out, HTF.out] at h; exact h) ?_; rintro e w5 ⟨rfl, b5⟩; have F5 := Fr.of_below (S := fun _ => False) b5; have hw5 := hw.fr F5 (fun e => e))
          | (refine wpList_store_at rfl 43 _ _ rfl w2.heap.size 0 43 _ TF rfl rfl hw5 (by rw [hsE, hsF]; omega) (by rw [hsF]; exact sizeStep) hoF ?_
             intro w6 hw6 hf6
             rw [laidAt_all _ _ (by rw [hsE, hsF])] at hw6))
        have HW6 := Lib.hid hw6
        have HF6 := Lib.hid ((HFw.out.trans F5 (fun _ _ e => e.elim)).trans hf6 (fun _ _ e => e))
        clear hw6 hf6
        go_wp2_with fail
        go_roundw
        case rel => exact ⟨m / 2, E + E, q, by omega, by go_num, by rw [HZ.out], by rw [HJ.out, HI.out], by rw [HTF.out]; exact HW6.out, HF6.out⟩
        case measure => simp [intOf]; omega
    · have hm0 : m = 0 := by omega
      subst hm0
      clear hj
      have hx := xor_rI q b
      rw [HZ.out, ← HY.out] at hx
      have HXQ := Lib.hid hx
      have hq : stpN (8 * n) a = q := by rw [← HI.out, Nat.mul_zero]; rfl
      have HQ := Lib.hid hq
      clear hx hq
      go_wp2_with fail
      go_ret2
      exact ⟨by rw [HQ.out, ← HXQ.out]; rfl, (HF3.out.trans HFw.out (fun i hi e => by omega)).below (fun _ _ e => e)⟩
end Go.Proofs.Ytfdindkagddjbaa

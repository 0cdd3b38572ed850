/- What is proved: works, the example of the laws, is true. Conditions: none. -/
import Derived.Test.YtbfbgopbelmghaaOii
namespace Go.Proofs.Ytbfbgopbelmghaa
open Go.RowKit
set_option linter.unusedVariables false

def ab0 : ByteArray := ⟨#[97, 98, 48]⟩
/-- The ids that begin with ab0, as a number: 'ab', and noughts. -/
def nab : Nat := 171 * 16 ^ 62
def nab0c : Nat := 171 * 16 ^ 62 + 12 * 16 ^ 60
def nab1c : Nat := 171 * 16 ^ 62 + 28 * 16 ^ 60
theorem ab0_E : begE ab0 = 0 := by kernel_rfl
theorem ab0_N : begN ab0 = 3 := by kernel_rfl
theorem ab0_A : nu (begA ab0) = nab := by kernel_rfl
theorem nab_lt : nab < big := by decide
theorem nab0c_lt : nab0c < big := by decide
theorem nab1c_lt : nab1c < big := by decide
theorem ab0_P : pfC (begA ab0) (begN ab0) = pfC (dgt nab) 3 := by
  rw [ab0_N, ← ab0_A]
  exact pfC_congr _ _ _ (fun k hk => (dgt_nu (begA ab0) (begD_lt ab0 _) k hk).symm)
theorem fit0 : fitB nab 3 nab0c = true := by kernel_rfl
theorem fit1 : fitB nab 3 nab1c = false := by kernel_rfl
def lit0c : Array Value := (Value.int .u8 171 :: Value.int .u8 12 :: List.replicate 30 (Value.int .u8 0)).toArray
def lit1c : Array Value := (Value.int .u8 171 :: Value.int .u8 28 :: List.replicate 30 (Value.int .u8 0)).toArray
theorem lit0 : idC (dgt nab0c) = lit0c := by kernel_rfl
theorem lit1 : idC (dgt nab1c) = lit1c := by kernel_rfl

set_option maxHeartbeats 3200000 in
theorem works_any (w : World) : Calls Try.prog 15 #[] w fun e w' => e = .returned (.bool true) ∧ Below w.heap.size w w' := by
  have hB := fun w => OBegin_any ab0 (by decide) w
  have hf0 := fun w => OFits_any nab nab0c nab_lt nab0c_lt 3 (by decide) (by decide) w
  have hf1 := fun w => OFits_any nab nab1c nab_lt nab1c_lt 3 (by decide) (by decide) w
  rw [ab0_P, ab0_E] at hB
  rw [fit0, lit0] at hf0
  rw [fit1, lit1] at hf1
  have hc : ∀ (w' : World) (g : Nat), Whole w' g 30 (pfC (dgt nab) 3) → w'.cell? ⟨g, 32, none⟩ = some (.int .i64 3) := fun w' g h => by rw [h.cell, pfC_N]
  obtain ⟨P, hP⟩ : ∃ P, pfC (dgt nab) 3 = P := ⟨_, rfl⟩
  rw [hP] at hB hf0 hf1 hc
  have hPs : P.size = 33 := by rw [← hP]; exact pfC_size _ _
  have hPo : P.all (·.oneCell') = true := by rw [← hP]; exact pfC_one _ _
  have hl33 : ∀ (g : Nat) (w0 w' : World), Whole w0 g 30 P → Fr (fun _ => False) w0 w' → (loadCellsFrom ⟨g, 0, none⟩ 0 33 #[]).run Try.prog w' = .ok P w' := fun g w0 w' h f => by
    have := load_first h f (n := 33) (by rw [hPs]; omega)
    rwa [List.take_of_length_le (by rw [Array.length_toList, hPs]; omega), Array.toArray_toList] at this
  obtain ⟨T33, hT33⟩ : ∃ T : TypeId, T = 30 := ⟨_, rfl⟩
  obtain ⟨n33, hn33⟩ : ∃ n : Nat, 33 = n := ⟨_, rfl⟩
  have ag33 : ∀ w, (isAgg T33).run Try.prog w = .ok true w := by rw [hT33]; exact fun _ => by kernel_rfl
  have sz33 : ∀ w, (sizeOf T33).run Try.prog w = .ok n33 w := by rw [hT33, ← hn33]; exact fun _ => by kernel_rfl
  rw [hn33] at hl33
  have HB := Lib.hid hB
  have H0 := Lib.hid hf0
  have H1 := Lib.hid hf1
  have HC := Lib.hid hc
  have HL := Lib.hid hl33
  clear hB hf0 hf1 hc hl33 hP hn33
  go_enter Try.func15, Try.ntmps15
  rw [show Op.load 30 (.tmp 1) = Op.load T33 (.tmp 1) by rw [hT33]]
  clear hT33
  go_wp2_with (first
    | (go_at_call 11; refine (HB.out _).mono ?_; rintro e w2 ⟨rfl, b2⟩)
    | (go_at_call 18; have _ := M1
       refine (H1.out _).mono ?_; rintro e w5 ⟨rfl, b5⟩)
    | (go_at_call 18
       refine (H0.out _).mono ?_; rintro e w4 ⟨rfl, b4⟩
       have M1 := True.intro
       have F4 := (Fr.refl (fun _ => False) w3).then_below b4
       have l2 := HL.out w2.heap.size w3 w4 hw3 F4)
    | (refine wpList_store_at rfl 30 _ _ rfl w2.heap.size 0 30 _ P rfl rfl (Whole.new w2 30 zero33) (by rw [hPs]; decide) (by rw [hPs]; exact size33) hPo ?_
       intro w3 hw3 hf3
       rw [laidAt_all _ _ (by rw [hPs]; rfl)] at hw3
       have l1 := HL.out w2.heap.size w3 w3 hw3 (Fr.refl _ _)
       have c1 := HC.out w3 w2.heap.size hw3))
  go_ret
  exact ⟨rfl, (((((Fr.refl (fun _ => False) w).then_below b2).alloc _).trans hf3 (fun i hi e => by have := b2.size; omega)).trans (F4.then_below b5) (fun _ _ e => e)).below (fun _ _ e => e)⟩
end Go.Proofs.Ytbfbgopbelmghaa

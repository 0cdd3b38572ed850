/- What is proved: how many bits of a filter are 1, by the program; and plainly. Conditions: the filter's cells are there; at most nine hundred thousand bytes. -/
import Derived.Test.YtgmohgofcjemkaaNq
import Derived.Test.YtgmohgofcjemkaaNs
import Derived.Test.YtgmohgofcjemkaaSbc
namespace Go.Proofs.Ytgmohgofcjemkaa
open Go.RowKit Go.Shelf
set_option linter.unusedVariables false

/-- How many bits are 1. -/
def popB (f : List UInt8) : Nat := (f.map fun b => Lib.onesCount b.toNat).sum
def cntB (f : List UInt8) (m : Nat) : Nat := ((List.range m).filter (bitB f)).length
theorem cntB_succ (f : List UInt8) (m : Nat) : cntB f (m + 1) = cntB f m + (if bitB f m = true then 1 else 0) := by
  unfold cntB
  rw [List.range_succ, List.filter_append, List.length_append]
  cases h : bitB f m <;> simp [h]
theorem cntB_le (f : List UInt8) (m : Nat) : cntB f m ≤ m := by
  unfold cntB
  exact Nat.le_trans (List.length_filter_le _ _) (by simp)
theorem pop_byte : ∀ x : Fin 256, ((List.range 8).filter fun s => (x : Nat).testBit s).length = Lib.onesCount (x : Nat) := by decide +kernel
theorem popB_app (l : List UInt8) (b : UInt8) : popB (l ++ [b]) = popB l + Lib.onesCount b.toNat := by simp [popB]
theorem popB_take (f : List UInt8) : ∀ m, m ≤ f.length → cntB f (8 * m) = popB (f.take m)
  | 0, _ => rfl
  | m + 1, h => by
    have ih := popB_take f m (by omega)
    have hb := f[m].toNat_lt
    have e1 : List.range (8 * (m + 1)) = List.range (8 * m) ++ (List.range 8).map (8 * m + ·) := by
      rw [show 8 * (m + 1) = 8 * m + 8 from by omega, List.range_add]
    have e2 : ((List.range 8).filter (bitB f ∘ fun x => 8 * m + x)).length = Lib.onesCount f[m].toNat := by
      rw [← pop_byte ⟨f[m].toNat, hb⟩]
      congr 1
      refine List.filter_congr (fun s hs => ?_)
      have hs8 : s < 8 := List.mem_range.1 hs
      show bitB f (8 * m + s) = _
      rw [bitB_test, show (8 * m + s) / 8 = m from by omega, show (8 * m + s) % 8 = s from by omega, List.getD_eq_getElem?_getD, List.getElem?_eq_getElem (by omega)]
      rfl
    unfold cntB at ih ⊢
    rw [e1, List.filter_append, List.length_append, ih, List.filter_map, List.length_map, e2, List.take_add_one, List.getElem?_eq_getElem (by omega)]
    exact (popB_app _ _).symm
theorem popB_cnt (f : List UInt8) : cntB f (8 * f.length) = popB f := by
  rw [popB_take f _ (Nat.le_refl _), List.take_length]
theorem popB_le (f : List UInt8) (m : Nat) (h : m ≤ f.length) : popB (f.take m) ≤ 8 * m := by
  rw [← popB_take f m h]; exact cntB_le _ _

set_option maxHeartbeats 1600000 in
set_option maxRecDepth 100000 in
theorem Bits_any (A : Option Addr) (c : Nat) (f : List UInt8) (hf : f.length ≤ 900000) (w : World) (h : Lies w A (bytesV f)) :
    Calls Try.prog 17 #[.slice A f.length c] w fun e w' => e = .returned (.int .i64 (popB f : Nat)) ∧ w = w' := by
  have HC := Lib.hid (fun k (hk : k < f.length) => lies_u8 h (Fr.refl _ w) k hk)
  have HOn := Lib.hid (fun (b : UInt8) w => Any.bits_OnesCount8 bits8 (b.toNat : Int) w (by omega) (by have := b.toNat_lt; omega))
  have HSt := Lib.hid (fun k (hk : k < f.length) => show popB (f.take (k + 1)) = popB (f.take k) + Lib.onesCount (f.getD k 0).toNat from by
    rw [List.take_add_one, List.getElem?_eq_getElem hk, List.getD_eq_getElem?_getD, List.getElem?_eq_getElem hk]
    exact popB_app _ _)
  have HLe := Lib.hid (fun k (hk : k ≤ f.length) => popB_le f k hk)
  have HTn : Hid (f.take f.length = f) := Lib.hid List.take_length
  have HT0 : Hid (popB (f.take 0) = 0) := Lib.hid rfl
  obtain ⟨n, hn⟩ : ∃ n, f.length = n := ⟨_, rfl⟩
  rw [hn] at hf HC HSt HLe HTn ⊢
  clear h hn
  go_enter Try.func17, Try.ntmps17
  go_wp2
  go_loopg [3, 8] n (fun kx s3 s8 wr => ∃ k : Nat, s3 = .int .i64 (popB (f.take k) : Nat) ∧ s8 = .int .i64 k ∧ k ≤ n ∧ n - k ≤ kx ∧ w = wr)
  case atStart => exact ⟨0, by rw [HT0.out]; rfl, rfl, by omega, by omega, rfl⟩
  case round =>
    obtain ⟨k, rfl, rfl, hk, hkx, rfl⟩ := hrel
    by_cases hlt : k < n
    · have hltz : (k : Int) < (n : Int) := by omega
      have hk0 : (0 : Int) ≤ (k : Int) := by omega
      have wk := wrap_nat1 k (by omega)
      obtain ⟨b, o, hA, cx⟩ := HC.out k hlt
      subst hA
      have hs := HSt.out k hlt
      have hl := HLe.out (k + 1) hlt
      have HO2 := Lib.hid (HOn.out (f.getD k 0))
      simp only [Int.toNat_natCast] at HO2
      obtain ⟨x, hx⟩ : ∃ x, (f.getD k 0).toNat = x := ⟨_, rfl⟩
      rw [hx] at cx hs HO2
      obtain ⟨z, hz⟩ : ∃ z, Lib.onesCount x = z := ⟨_, rfl⟩
      rw [hz] at hs HO2
      obtain ⟨p, hp⟩ : ∃ p, popB (f.take k) = p := ⟨_, rfl⟩
      rw [hp] at hs ⊢
      have hpz : IntKind.i64.wrap ((p : Int) + (z : Int)) = (p : Int) + (z : Int) := by rw [IntKind.wrap_i64]; omega
      have hpw : wrap64 ((p : Int) + (z : Int)) = (p : Int) + (z : Int) := by unfold wrap64; omega
      have HS := Lib.hid hs
      clear hx hz hp hs hl
      go_wp2_with (go_at_call 28; refine (HO2.out _).mono ?_; rintro e w2 ⟨rfl, rfl⟩)
      go_roundg (n - (k + 1))
      case measure => omega
      case rel => exact ⟨k + 1, by rw [HS.out]; go_num, by go_num, by omega, Nat.le_refl _, rfl⟩
    · obtain rfl : k = n := by omega
      go_wp2
      go_ret
      exact ⟨by rw [HTn.out]; rfl, rfl⟩
end Go.Proofs.Ytgmohgofcjemkaa

/- What is proved: what the program's tables hold: a step's table, how it is applied, squared, and laid for one byte. Conditions: none. -/
import Derived.Test.YtfdindkagddjbaaCrm
import Derived.Test.YtfdindkagddjbaaRow
import Derived.Deep.WholeRow
import Derived.Deep.QuietTactic
import Derived.Deep.RegionHeld3
namespace Go.Proofs.Ytfdindkagddjbaa
open Go.RowKit
set_option linter.unusedVariables false

/-- The lowest k bits of a register. -/
def low (r : BitVec 32) (k : Nat) : BitVec 32 := r &&& (BitVec.ofNat 32 (2 ^ k - 1))
theorem low_get (r : BitVec 32) (k i : Nat) : (low r k).getLsbD i = (r.getLsbD i && decide (i < k)) := by
  unfold low
  rw [BitVec.getLsbD_and, BitVec.getLsbD_ofNat, Nat.testBit_two_pow_sub_one]
  by_cases h : i < 32
  · simp [h]
  · simp [BitVec.getLsbD_of_ge r i (by omega)]
theorem low_zero (r : BitVec 32) : low r 0 = 0#32 := by
  apply BitVec.eq_of_getLsbD_eq
  intro i hi
  rw [low_get]; simp
theorem low_all (r : BitVec 32) : low r 32 = r := by
  apply BitVec.eq_of_getLsbD_eq
  intro i hi
  rw [low_get]; simp [hi]
theorem low_succ (r : BitVec 32) (k : Nat) (hk : k < 32) : low r (k + 1) = low r k ^^^ (if r.getLsbD k then BitVec.twoPow 32 k else 0#32) := by
  apply BitVec.eq_of_getLsbD_eq
  intro i hi
  rw [BitVec.getLsbD_xor, low_get, low_get]
  by_cases h : i = k
  · subst h
    cases r.getLsbD i <;> simp [hi]
  · have e : decide (i < k + 1) = decide (i < k) := by rw [decide_eq_decide]; omega
    have e2 : (if r.getLsbD k then BitVec.twoPow 32 k else 0#32).getLsbD i = false := by
      split
      · rw [BitVec.getLsbD_twoPow]; simp; omega
      · simp
    rw [e, e2, Bool.xor_false]

/-- Entry k of the table of n steps. -/
def tbN (n k : Nat) : BitVec 32 := stpN n (BitVec.twoPow 32 k)
/-- The first m entries of the table, and noughts. -/
def tbV (n m : Nat) : Array Value := ((List.range m).map (fun k => Value.int .u32 (rI (tbN n k))) ++ List.replicate (32 - m) (Value.int .u32 0)).toArray
theorem tbV_size (n m : Nat) (h : m ≤ 32) : (tbV n m).size = 32 := by simp [tbV]; omega
theorem tbV_one (n m : Nat) : (tbV n m).all (·.oneCell') = true := by
  refine Array.all_eq_true_iff_forall_mem.2 (fun v hv => ?_)
  simp only [tbV, List.mem_toArray, List.mem_append, List.mem_map, List.mem_replicate] at hv
  rcases hv with ⟨x, _, rfl⟩ | ⟨_, rfl⟩ <;> rfl
theorem tbV_get (n m : Nat) (h : m < 32) : (tbV n m)[m]? = some (.int .u32 0) := by
  simp only [tbV, List.getElem?_toArray]
  rw [List.getElem?_append_right (by simp), List.getElem?_replicate, if_pos (by simp; omega)]
theorem tbV_at (n k : Nat) (h : k < 32) : (tbV n 32)[k]? = some (.int .u32 (rI (tbN n k))) := by
  simp only [tbV, List.getElem?_toArray]
  rw [List.getElem?_append_left (by simpa using h), List.getElem?_map, List.getElem?_range h]
  rfl
theorem tbV_set (n m : Nat) (h : m < 32) : (tbV n m).setIfInBounds m (.int .u32 (rI (tbN n m))) = tbV n (m + 1) := by
  apply Array.toList_inj.1
  simp only [tbV, Array.toList_setIfInBounds]
  obtain ⟨k, hk⟩ : ∃ k, 32 - m = k + 1 := ⟨32 - m - 1, by omega⟩
  have h2 : 32 - (m + 1) = k := by omega
  rw [hk, h2, List.set_append, if_neg (by simp), List.length_map, List.length_range, Nat.sub_self, List.replicate_succ, List.set_cons_zero, List.range_succ, List.map_append, List.append_assoc]
  rfl
theorem tb_step (n : Nat) (r : BitVec 32) (k : Nat) (hk : k < 32) : stpN n (low r (k + 1)) = stpN n (low r k) ^^^ (if r.getLsbD k then tbN n k else 0#32) := by
  rw [low_succ r k hk, stpN_xor]
  unfold tbN
  split
  · rfl
  · rw [stpN_zero]
theorem bitk (r : BitVec 32) (k : Nat) : r.getLsbD k = decide (rI r / 2 ^ k % 2 = 1) := by
  rw [← BitVec.testBit_toNat, Nat.testBit_eq_decide_div_mod_eq]
  unfold rI
  rw [decide_eq_decide]
  have e : ((r.toNat : Int) / 2 ^ k) = ((r.toNat / 2 ^ k : Nat) : Int) := by rw [Int.natCast_ediv, Int.natCast_pow]; rfl
  rw [e]
  omega
theorem two_pow_rI (k : Nat) (h : k < 32) : rI (BitVec.twoPow 32 k) = 2 ^ k := by
  unfold rI
  rw [BitVec.toNat_twoPow, Nat.mod_eq_of_lt (Nat.pow_lt_pow_right (by decide) h), Int.natCast_pow]
  rfl
theorem div_pow_bound (x : Int) (k : Nat) (h0 : 0 ≤ x) (h1 : x < 4294967296) : 0 ≤ x / 2 ^ k ∧ x / 2 ^ k < 4294967296 := by
  have hp : (0 : Int) < 2 ^ k := by exact_mod_cast Nat.two_pow_pos k
  refine ⟨Int.ediv_nonneg h0 (Int.le_of_lt hp), ?_⟩
  have := Int.ediv_le_self (2 ^ k) h0
  omega

set_option maxHeartbeats 800000 in
theorem Capplied_any (n : Nat) (r : BitVec 32) (x : Int) (hx : x = rI r) (w : World) :
    Calls Try.prog 20 #[.agg (tbV n 32), .int .u32 x] w fun e w' => e = .returned (.int .u32 (rI (stpN n r))) ∧ Below w.heap.size w w' := by
  obtain ⟨w1, hw1⟩ : ∃ w1, w.alloc (.cells (tbV n 32) 43) = w1 := ⟨_, rfl⟩
  have hF : Fr (fun _ => False) w w1 := by subst hw1; exact (Fr.refl _ w).alloc _
  have hS : Whole w1 w.heap.size 43 (tbV n 32) := by subst hw1; exact Whole.new w 43 _
  have HF := Lib.hid hF
  have HS := Lib.hid hS
  have hx0 : 0 ≤ x := by rw [hx]; exact rI_lo r
  have hx1 : x < 4294967296 := by rw [hx]; exact rI_hi r
  have HX := Lib.hid hx
  obtain ⟨cw, hcw⟩ : ∃ cw, tbV n 32 = cw := ⟨_, rfl⟩
  rw [hcw] at hw1 ⊢
  clear hF hS hx hcw
  go_enter Try.func20, Try.ntmps20
  go_wp2
  clear hw1
  go_loopw [5, 7] (fun v i wr => ∃ k : Nat, k ≤ 32 ∧ i = .int .i64 k ∧ v = .int .u32 (rI (stpN n (low r k))) ∧ Fr (fun _ => False) w1 wr) (fun _ i _ => 32 - (intOf i).toNat)
  case atStart => exact ⟨0, by omega, rfl, by rw [low_zero, stpN_zero]; rfl, Fr.refl _ _⟩
  case round =>
    obtain ⟨k, hk, rfl, rfl, hf⟩ := hrel
    obtain ⟨q, hq⟩ : ∃ q, stpN n (low r k) = q := ⟨_, rfl⟩
    rw [hq]
    by_cases hlt : k < 32
    · have hst := tb_step n r k hlt
      rw [hq] at hst
      have c1 : wr.cell? ⟨w.heap.size, k, none⟩ = some (.int .u32 (rI (tbN n k))) := by rw [(HS.out.fr hf (fun e => e)).cell, tbV_at n k hlt]
      obtain ⟨t, ht⟩ : ∃ t, tbN n k = t := ⟨_, rfl⟩
      rw [ht] at c1 hst
      obtain ⟨y, hy⟩ : ∃ y : Int, x / 2 ^ k = y := ⟨_, rfl⟩
      have hbk := bitk r k
      rw [← HX.out, hy] at hbk
      obtain ⟨y0, y1⟩ := div_pow_bound x k hx0 hx1
      rw [hy] at y0 y1
      have qa := and1 y y0 y1
      have t0 := rI_lo t
      have t1 := rI_hi t
      have hxq := xor_rI q t
      have hxz : bits .xor .u32 (rI q) 0 = rI q := by
        have := xor_rI q 0#32
        rw [BitVec.xor_zero] at this
        exact this
      obtain ⟨z, hz⟩ : ∃ z, rI q = z := ⟨_, rfl⟩
      obtain ⟨u, hu⟩ : ∃ u, rI t = u := ⟨_, rfl⟩
      rw [hz, hu] at hxq
      rw [hz] at hxz ⊢
      rw [hu] at t0 t1 c1
      have HZ := Lib.hid hz
      have HXQ := Lib.hid hxq
      have HXZ := Lib.hid hxz
      have HST := Lib.hid hst
      have HFr := Lib.hid hf
      by_cases hodd : y % 2 = 1
      · rw [hodd] at qa
        have hb1 : r.getLsbD k = true := by rw [hbk, decide_eq_true hodd]
        have HB := Lib.hid hb1
        have hmul : u * 1 = u := by omega
        have hwr : IntKind.u32.wrap u = u := by rw [IntKind.wrap_u32]; omega
        clear hq hst ht hbk hz hu hxq hxz hb1 hodd hf
        go_wp2_with fail
        go_region
        go_wp2_with fail
        go_roundw
        case rel => exact ⟨k + 1, by omega, by go_num, by rw [HST.out, HB.out, if_pos rfl, ← HXQ.out], HFr.out.drewN _⟩
        case measure => simp [intOf]; omega
      · have hev : y % 2 = 0 := by omega
        rw [hev] at qa
        have hb1 : r.getLsbD k = false := by rw [hbk, decide_eq_false hodd]
        have HB := Lib.hid hb1
        clear hq hst ht hbk hz hu hxq hxz hb1 hodd hev hf
        go_wp2_with fail
        go_region
        go_wp2_with fail
        go_roundw
        case rel => exact ⟨k + 1, by omega, by go_num, by rw [HST.out, HB.out, if_neg (by decide), BitVec.xor_zero, HZ.out, HXZ.out], HFr.out.drewN _⟩
        case measure => simp [intOf]; omega
    · obtain rfl : k = 32 := by omega
      rw [low_all] at hq
      have HQ := Lib.hid hq
      clear hq
      go_wp2_with fail
      go_ret
      exact ⟨by rw [HQ.out]; rfl, (HF.out.trans hf (fun _ _ e => e)).below (fun _ _ e => e)⟩
end Go.Proofs.Ytfdindkagddjbaa

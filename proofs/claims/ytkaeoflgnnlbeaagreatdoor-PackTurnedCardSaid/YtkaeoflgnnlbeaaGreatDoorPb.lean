/- What is proved: what the walks of this seat need of layers below, merged out of the texts Crm (of each just what is needed). Conditions: each theorem names its own. -/
import Derived.Deep.QuietTactic
import Derived.BigQuiet
import Derived.Test.YtkaeoflgnnlbeaaGreatDoorPa
/- What is proved: what More and Of answer, by the program and by the document. Conditions: the bytes lie where they are said to lie. -/
namespace Go.Proofs.YtkaeoflgnnlbeaaGreatDoor
open Go.RowKit
set_option linter.unusedVariables false
theorem tks_take_succ (r : BitVec 32) (l : List UInt8) (k : Nat) (b : UInt8) (h : l[k]? = some b) : tks r (l.take (k + 1)) = tk (tks r (l.take k)) b := by
  rw [List.take_add_one, h, Option.toList_some, tks_append]
  rfl
theorem bytesV_at {l : List UInt8} {k : Nat} {b : UInt8} (h : l[k]? = some b) : (bytesV l)[k]? = some (.int .u8 (b.toNat : Int)) := by
  unfold bytesV
  rw [List.getElem?_map, h]
  rfl
set_option maxHeartbeats 800000 in
theorem CMore_any (c : BitVec 32) (x : Int) (hx : x = rI c) (A : Option Addr) (cap : Nat) (bs : List UInt8) (w : World) (hl : Lies w A (bytesV bs)) (hn : bs.length ≤ 9223372036854775807) :
    Calls Tryz.prog 78 #[.int .u32 x, .slice A bs.length cap] w fun e w' => e = .returned (.int .u32 (rI (more c bs))) ∧ Below w.heap.size w w' := by
  have hx0 : 0 ≤ x := by rw [hx]; exact rI_lo c
  have hx1 : x < 4294967296 := by rw [hx]; exact rI_hi c
  have hnx := not_rI c
  rw [← hx] at hnx
  have HL := Lib.hid hl
  have HN := Lib.hid hnx
  clear hx hl hnx
  go_enter Tryz.func78, Tryz.ntmps78
  go_wp2
  have hmx : IntKind.u32.max = 4294967295 := rfl
  rw [hmx, HN.out]
  clear hmx
  have hstart : rI (c ^^^ 4294967295#32) = rI (tks (c ^^^ 4294967295#32) (bs.take 0)) := rfl
  go_loopw [5, 12] (fun v i wr => ∃ k : Nat, k ≤ bs.length ∧ i = .int .i64 k ∧ v = .int .u32 (rI (tks (c ^^^ 4294967295#32) (bs.take k))) ∧ Fr (fun _ => False) w wr) (fun _ i _ => bs.length - (intOf i).toNat)
  case atStart => exact ⟨0, by omega, rfl, by rw [hstart], Fr.refl _ _⟩
  case round =>
    clear hstart
    obtain ⟨k, hk, rfl, rfl, hf⟩ := hrel
    obtain ⟨q, hq⟩ : ∃ q, tks (c ^^^ 4294967295#32) (bs.take k) = q := ⟨_, rfl⟩
    rw [hq]
    by_cases hlt : k < bs.length
    · obtain ⟨b, hb⟩ : ∃ b, bs[k]? = some b := ⟨_, List.getElem?_eq_getElem hlt⟩
      have HS := Lib.hid (tks_take_succ (c ^^^ 4294967295#32) bs k b hb)
      have HQ := Lib.hid hq
      rcases HL.out with h0 | ⟨bk, o, hA, hc⟩
      · have := congrArg List.length h0
        rw [bytesV_length] at this
        simp at this
        rw [this] at hlt
        simp at hlt
      · have c1 := hf.cell (hc k _ (bytesV_at hb)) (fun e => e)
        subst hA
        obtain ⟨z, hz⟩ : ∃ z, rI q = z := ⟨_, rfl⟩
        obtain ⟨y, hy⟩ : ∃ y : Int, (b.toNat : Int) = y := ⟨_, rfl⟩
        rw [hy] at c1
        rw [hz]
        have HZ := Lib.hid hz
        have HY := Lib.hid hy
        clear hq hb hz hy hc
        go_wp2_with (go_at_call 110; refine (Ctaken_any q b _ _ HZ.out.symm HY.out.symm _).mono ?_; rintro e w' ⟨rfl, rfl⟩)
        go_roundw
        case rel => exact ⟨k + 1, by omega, by go_num, by rw [HS.out, HQ.out], hf⟩
        case measure => simp [intOf]; omega
    · obtain rfl : k = bs.length := by omega
      rw [List.take_length] at hq
      have HQ := Lib.hid hq
      clear hq
      obtain ⟨z, hz⟩ : ∃ z, rI q = z := ⟨_, rfl⟩
      rw [hz]
      have hzn := not_rI q
      rw [hz] at hzn
      have HZ := Lib.hid hzn
      have hz0 : 0 ≤ z := by rw [← hz]; exact rI_lo q
      have hz1 : z < 4294967296 := by rw [← hz]; exact rI_hi q
      clear hz hzn
      go_wp2_with fail
      go_ret
      exact ⟨ret_num (by show bits .xor .u32 4294967295 z = _; rw [HZ.out, ← HQ.out]; rfl), hf.below (fun _ _ e => e)⟩
set_option maxHeartbeats 800000 in
theorem QcMore_any (c : BitVec 32) (x : Int) (hx : x = rI c) (A : Option Addr) (cap : Nat) (bs : List UInt8) (w : World) (hl : Lies w A (bytesV bs)) (hn : bs.length ≤ 9223372036854775807) :
    Calls Tryz.prog 54 #[.int .u32 x, .slice A bs.length cap] w fun e w' => e = .returned (.int .u32 (rI (more c bs))) ∧ Below w.heap.size w w' := by
  have hx0 : 0 ≤ x := by rw [hx]; exact rI_lo c
  have hx1 : x < 4294967296 := by rw [hx]; exact rI_hi c
  have hnx := not_rI c
  rw [← hx] at hnx
  have HL := Lib.hid hl
  have HN := Lib.hid hnx
  clear hx hl hnx
  go_enter Tryz.func54, Tryz.ntmps54
  go_wp2
  have hmx : IntKind.u32.max = 4294967295 := rfl
  rw [hmx, HN.out]
  clear hmx
  have hstart : rI (c ^^^ 4294967295#32) = rI (tks (c ^^^ 4294967295#32) (bs.take 0)) := rfl
  go_loopw [0, 5] (fun v i wr => ∃ k : Nat, k ≤ bs.length ∧ i = .int .i64 k ∧ v = .int .u32 (rI (tks (c ^^^ 4294967295#32) (bs.take k))) ∧ Fr (fun _ => False) w wr) (fun _ i _ => bs.length - (intOf i).toNat)
  case atStart => exact ⟨0, by omega, rfl, by rw [hstart], Fr.refl _ _⟩
  case round =>
    clear hstart
    obtain ⟨k, hk, rfl, rfl, hf⟩ := hrel
    obtain ⟨q, hq⟩ : ∃ q, tks (c ^^^ 4294967295#32) (bs.take k) = q := ⟨_, rfl⟩
    rw [hq]
    by_cases hlt : k < bs.length
    · obtain ⟨b, hb⟩ : ∃ b, bs[k]? = some b := ⟨_, List.getElem?_eq_getElem hlt⟩
      have HS := Lib.hid (tks_take_succ (c ^^^ 4294967295#32) bs k b hb)
      have HQ := Lib.hid hq
      rcases HL.out with h0 | ⟨bk, o, hA, hc⟩
      · have := congrArg List.length h0
        rw [bytesV_length] at this
        simp at this
        rw [this] at hlt
        simp at hlt
      · have c1 := hf.cell (hc k _ (bytesV_at hb)) (fun e => e)
        subst hA
        obtain ⟨z, hz⟩ : ∃ z, rI q = z := ⟨_, rfl⟩
        obtain ⟨y, hy⟩ : ∃ y : Int, (b.toNat : Int) = y := ⟨_, rfl⟩
        rw [hy] at c1
        rw [hz]
        have HZ := Lib.hid hz
        have HY := Lib.hid hy
        clear hq hb hz hy hc
        go_wp2_with (go_at_call 84; refine (Qctake_any q b _ _ HZ.out.symm HY.out.symm _).mono ?_; rintro e w' ⟨rfl, rfl⟩)
        go_roundw
        case rel => exact ⟨k + 1, by omega, by go_num, by rw [HS.out, HQ.out], hf⟩
        case measure => simp [intOf]; omega
    · obtain rfl : k = bs.length := by omega
      rw [List.take_length] at hq
      have HQ := Lib.hid hq
      clear hq
      obtain ⟨z, hz⟩ : ∃ z, rI q = z := ⟨_, rfl⟩
      rw [hz]
      have hzn := not_rI q
      rw [hz] at hzn
      have HZ := Lib.hid hzn
      have hz0 : 0 ≤ z := by rw [← hz]; exact rI_lo q
      have hz1 : z < 4294967296 := by rw [← hz]; exact rI_hi q
      clear hz hzn
      go_wp2_with fail
      go_ret
      exact ⟨ret_num (by show bits .xor .u32 4294967295 z = _; rw [HZ.out, ← HQ.out]; rfl), hf.below (fun _ _ e => e)⟩
end Go.Proofs.YtkaeoflgnnlbeaaGreatDoor

/- What is proved: texts that stand one behind the other: Pa Pb Pc. Conditions: each theorem names its own. -/
import Derived.Test.YtkaeoflgnnlbeaaGreatDoorRows
import Derived.Laws.BitsAllLaws
import Derived.Deep.DeepFit
import Derived.WalkSpells
import Derived.WalkLawsBesides
import Derived.Test.YtkaeoflgnnlbeaaGreatDoorQDa
import Derived.Deep.QuietTactic
import Derived.BigQuiet
import Derived.Deep.Slices
import Derived.Lib.SlBytesConst
import Derived.Test.YtkaeoflgnnlbeaaGreatDoorQDg
/- What is proved: what the walks of this seat need of layers below, merged out of the texts Cra Crb (of each just what is needed). Conditions: each theorem names its own. -/
/- What is proved: plain facts on registers of 32 bits: the step is linear and loses nothing; what taking bytes makes; what turning bits makes of it. Conditions: none; no program is named. -/
namespace Go.Proofs.YtkaeoflgnnlbeaaGreatDoor
open Go.RowKit
set_option linter.unusedVariables false
/-- One step of the register. -/
def stp (r : BitVec 32) : BitVec 32 := (r >>> 1) ^^^ (if r.getLsbD 0 then 0xedb88320#32 else 0#32)
/-- n steps. -/
def stpN : Nat → BitVec 32 → BitVec 32
  | 0, r => r
  | n + 1, r => stpN n (stp r)
theorem stpN_add (m n : Nat) (r : BitVec 32) : stpN (m + n) r = stpN m (stpN n r) := by
  induction n generalizing r with
  | zero => rfl
  | succ n ih => rw [← Nat.add_assoc, stpN, ih, stpN]
theorem stpN_succ (n : Nat) (r : BitVec 32) : stpN (n + 1) r = stp (stpN n r) := by rw [Nat.add_comm, stpN_add]; rfl
/-- A byte as a register. -/
def bv (b : UInt8) : BitVec 32 := BitVec.ofNat 32 b.toNat
/-- The register behind a byte, behind bytes. -/
def tk (r : BitVec 32) (b : UInt8) : BitVec 32 := stpN 8 (r ^^^ bv b)
def tks (r : BitVec 32) (l : List UInt8) : BitVec 32 := l.foldl tk r
/-- The sum of a text whose sum is c, with l behind it. -/
def more (c : BitVec 32) (l : List UInt8) : BitVec 32 := (tks (c ^^^ 0xffffffff#32) l) ^^^ 0xffffffff#32
theorem tks_append (r : BitVec 32) (l m : List UInt8) : tks r (l ++ m) = tks (tks r l) m := by unfold tks; rw [List.foldl_append]
theorem all_self (x : BitVec 32) : x ^^^ 0xffffffff#32 ^^^ 0xffffffff#32 = x := by rw [BitVec.xor_assoc, BitVec.xor_self, BitVec.xor_zero]
theorem more_append (c : BitVec 32) (l m : List UInt8) : more c (l ++ m) = more (more c l) m := by
  unfold more
  rw [all_self, tks_append]
theorem more_nil (c : BitVec 32) : more c [] = c := all_self c
/-- The number of a register. -/
def rI (r : BitVec 32) : Int := (r.toNat : Int)
theorem rI_lo (r : BitVec 32) : 0 ≤ rI r := Int.natCast_nonneg _
theorem rI_hi (r : BitVec 32) : rI r < 4294967296 := by have := r.isLt; unfold rI; omega
theorem xor_rI (a b : BitVec 32) : bits .xor .u32 (rI a) (rI b) = rI (a ^^^ b) := by
  unfold rI
  rw [u32_xor_nat _ _ a.isLt b.isLt, BitVec.toNat_xor]
theorem and1 (x : Int) (h0 : 0 ≤ x) (h1 : x < 4294967296) : bits .and .u32 x 1 = x % 2 := by
  rw [u32_and x 1 h0 h1 (by decide) (by decide)]
  show ((x.toNat &&& 1 : Nat) : Int) = _
  rw [Nat.and_one_is_mod]
  omega
theorem rI_shift (r : BitVec 32) : rI (r >>> 1) = rI r / 2 := by
  unfold rI
  rw [BitVec.toNat_ushiftRight, Nat.shiftRight_eq_div_pow]
  omega
theorem bit0 (r : BitVec 32) : r.getLsbD 0 = decide (rI r % 2 = 1) := by
  rw [← BitVec.testBit_toNat, Nat.testBit_zero]
  unfold rI
  rw [decide_eq_decide]
  omega
theorem stp_odd (r : BitVec 32) (h : rI r % 2 = 1) : bits .xor .u32 (rI r / 2) 3988292384 = rI (stp r) := by
  have e : (3988292384 : Int) = rI 0xedb88320#32 := rfl
  rw [← rI_shift, e, xor_rI]
  unfold stp
  rw [bit0, h]
  rfl
theorem stp_even (r : BitVec 32) (h : rI r % 2 ≠ 1) : rI r / 2 = rI (stp r) := by
  rw [← rI_shift]
  unfold stp
  rw [bit0, decide_eq_false h]
  simp
theorem stp_even0 (r : BitVec 32) (h : rI r % 2 ≠ 1) : bits .xor .u32 (rI r / 2) 0 = rI (stp r) := by
  rw [← stp_even r h, ← rI_shift]
  have e : (0 : Int) = rI 0#32 := rfl
  rw [e, xor_rI, BitVec.xor_zero]
theorem not_rI (r : BitVec 32) : bits .xor .u32 4294967295 (rI r) = rI (r ^^^ 0xffffffff#32) := by
  have e : (4294967295 : Int) = rI 0xffffffff#32 := rfl
  rw [e, xor_rI, BitVec.xor_comm]
theorem bv_rI (b : UInt8) : rI (bv b) = (b.toNat : Int) := by
  have := b.toNat_lt
  unfold rI bv
  rw [BitVec.toNat_ofNat, Nat.mod_eq_of_lt (by omega)]
end Go.Proofs.YtkaeoflgnnlbeaaGreatDoor
/- What is proved: what taking one byte makes of the register, by the program and by the document. Conditions: none. -/
namespace Go.Proofs.YtkaeoflgnnlbeaaGreatDoor
open Go.RowKit
set_option linter.unusedVariables false
set_option maxHeartbeats 800000 in
theorem Ctaken_any (r : BitVec 32) (b : UInt8) (x y : Int) (hx : x = rI r) (hy : y = (b.toNat : Int)) (w : World) :
    Calls Tryz.prog 110 #[.int .u32 x, .int .u8 y] w fun e w' => e = .returned (.int .u32 (rI (tk r b))) ∧ w = w' := by
  have hb := b.toNat_lt
  have hy0 : 0 ≤ y := by omega
  have hy1 : y < 256 := by omega
  have hx0 : 0 ≤ x := by rw [hx]; exact rI_lo r
  have hx1 : x < 4294967296 := by rw [hx]; exact rI_hi r
  have HX := Lib.hid hx
  have HY := Lib.hid hy
  clear hx hy hb
  go_enter Tryz.func110, Tryz.ntmps110
  go_wp2
  have h0 : bits .xor .u32 x y = rI (stpN 0 (r ^^^ bv b)) := by rw [HX.out, HY.out, ← bv_rI, xor_rI]; rfl
  rw [h0]
  clear h0
  go_loopw [0, 9] (fun v i wr => ∃ k : Nat, k ≤ 8 ∧ i = .int .i64 k ∧ v = .int .u32 (rI (stpN k (r ^^^ bv b))) ∧ wr = w) (fun _ i _ => 8 - (intOf i).toNat)
  case atStart => exact ⟨0, by omega, rfl, rfl, rfl⟩
  case round =>
    obtain ⟨k, hk, rfl, rfl, rfl⟩ := hrel
    have HN := Lib.hid (stpN_succ k (r ^^^ bv b))
    have HE := Lib.hid (show tk r b = stpN 8 (r ^^^ bv b) from rfl)
    obtain ⟨q, hq⟩ : ∃ q, stpN k (r ^^^ bv b) = q := ⟨_, rfl⟩
    rw [hq] at HN ⊢
    have HQ := Lib.hid hq
    clear hq
    have q0 := rI_lo q
    have q1 := rI_hi q
    have M1 := stp_odd q
    have M0 := stp_even0 q
    obtain ⟨z, hz⟩ : ∃ z, rI q = z := ⟨_, rfl⟩
    rw [hz] at q0 q1 M1 M0 ⊢
    have HZ := Lib.hid hz
    have M1 := Lib.hid M1
    have M0 := Lib.hid M0
    clear hz
    have qa := and1 z q0 q1
    by_cases hlt : k < 8
    · by_cases hodd : z % 2 = 1
      · have HM := Lib.hid (M1.out hodd)
        rw [hodd] at qa
        go_wp2_with fail
        go_roundw
        case rel => exact ⟨k + 1, by omega, by go_num, by rw [HN.out, ← HM.out], trivial⟩
        case measure => simp [intOf]; omega
      · have hev : z % 2 = 0 := by omega
        rw [hev] at qa
        have HM := Lib.hid (M0.out hodd)
        go_wp2_with fail
        go_roundw
        case rel => exact ⟨k + 1, by omega, by go_num, by rw [HN.out, ← HM.out], trivial⟩
        case measure => simp [intOf]; omega
    · obtain rfl : k = 8 := by omega
      go_wp2_with fail
      go_ret
      exact ⟨by rw [HE.out, HQ.out, HZ.out]; rfl, rfl⟩
set_option maxHeartbeats 800000 in
theorem Qctake_any (r : BitVec 32) (b : UInt8) (x y : Int) (hx : x = rI r) (hy : y = (b.toNat : Int)) (w : World) :
    Calls Tryz.prog 84 #[.int .u32 x, .int .u8 y] w fun e w' => e = .returned (.int .u32 (rI (tk r b))) ∧ w = w' := by
  have hb := b.toNat_lt
  have hy0 : 0 ≤ y := by omega
  have hy1 : y < 256 := by omega
  have hx0 : 0 ≤ x := by rw [hx]; exact rI_lo r
  have hx1 : x < 4294967296 := by rw [hx]; exact rI_hi r
  have HX := Lib.hid hx
  have HY := Lib.hid hy
  clear hx hy hb
  go_enter Tryz.func84, Tryz.ntmps84
  go_wp2
  have h0 : bits .xor .u32 x y = rI (stpN 0 (r ^^^ bv b)) := by rw [HX.out, HY.out, ← bv_rI, xor_rI]; rfl
  rw [h0]
  clear h0
  go_loopw [0, 5] (fun v i wr => ∃ k : Nat, k ≤ 8 ∧ i = .int .i64 k ∧ v = .int .u32 (rI (stpN k (r ^^^ bv b))) ∧ wr = w) (fun _ i _ => 8 - (intOf i).toNat)
  case atStart => exact ⟨0, by omega, rfl, rfl, rfl⟩
  case round =>
    obtain ⟨k, hk, rfl, rfl, rfl⟩ := hrel
    have HN := Lib.hid (stpN_succ k (r ^^^ bv b))
    have HE := Lib.hid (show tk r b = stpN 8 (r ^^^ bv b) from rfl)
    obtain ⟨q, hq⟩ : ∃ q, stpN k (r ^^^ bv b) = q := ⟨_, rfl⟩
    rw [hq] at HN ⊢
    have HQ := Lib.hid hq
    clear hq
    have q0 := rI_lo q
    have q1 := rI_hi q
    have M1 := stp_odd q
    have M0 := stp_even q
    obtain ⟨z, hz⟩ : ∃ z, rI q = z := ⟨_, rfl⟩
    rw [hz] at q0 q1 M1 M0 ⊢
    have HZ := Lib.hid hz
    have M1 := Lib.hid M1
    have M0 := Lib.hid M0
    clear hz
    by_cases hlt : k < 8
    · by_cases hodd : z % 2 = 1
      · have HM := Lib.hid (M1.out hodd)
        go_wp2_with fail
        go_roundw
        case rel => exact ⟨k + 1, by omega, by go_num, by rw [HN.out, ← HM.out], trivial⟩
        case measure => simp [intOf]; omega
      · have HM := Lib.hid (M0.out hodd)
        go_wp2_with fail
        go_roundw
        case rel => exact ⟨k + 1, by omega, by go_num, by rw [HN.out, ← HM.out], trivial⟩
        case measure => simp [intOf]; omega
    · obtain rfl : k = 8 := by omega
      go_wp2_with fail
      go_ret
      exact ⟨by rw [HE.out, HQ.out, HZ.out]; rfl, rfl⟩
end Go.Proofs.YtkaeoflgnnlbeaaGreatDoor
/- What is proved: what the walks of this seat need of layers below, merged out of the texts Crm (of each just what is needed). Conditions: each theorem names its own. -/
/- What is proved: what More and Of answer, by the program and by the document. Conditions: the bytes lie where they are said to lie. -/
namespace Go.Proofs.YtkaeoflgnnlbeaaGreatDoor
open Go.RowKit
set_option linter.unusedVariables false
theorem tks_take_succ (r : BitVec 32) (l : List UInt8) (k : Nat) (b : UInt8) (h : l[k]? = some b) : tks r (l.take (k + 1)) = tk (tks r (l.take k)) b := by
  rw [List.take_add_one, h, Option.toList_some, tks_append]
  rfl
theorem bytesV_at {l : List UInt8} {k : Nat} {b : UInt8} (h : l[k]? = some b) : (bytesV l)[k]? = some (.int .u8 (b.toNat : Int)) := by
  unfold bytesV
  rw [List.getElem?_map, h]
  rfl
set_option maxHeartbeats 800000 in
theorem CMore_any (c : BitVec 32) (x : Int) (hx : x = rI c) (A : Option Addr) (cap : Nat) (bs : List UInt8) (w : World) (hl : Lies w A (bytesV bs)) (hn : bs.length ≤ 9223372036854775807) :
    Calls Tryz.prog 78 #[.int .u32 x, .slice A bs.length cap] w fun e w' => e = .returned (.int .u32 (rI (more c bs))) ∧ Below w.heap.size w w' := by
  have hx0 : 0 ≤ x := by rw [hx]; exact rI_lo c
  have hx1 : x < 4294967296 := by rw [hx]; exact rI_hi c
  have hnx := not_rI c
  rw [← hx] at hnx
  have HL := Lib.hid hl
  have HN := Lib.hid hnx
  clear hx hl hnx
  go_enter Tryz.func78, Tryz.ntmps78
  go_wp2
  have hmx : IntKind.u32.max = 4294967295 := rfl
  rw [hmx, HN.out]
  clear hmx
  have hstart : rI (c ^^^ 4294967295#32) = rI (tks (c ^^^ 4294967295#32) (bs.take 0)) := rfl
  go_loopw [5, 12] (fun v i wr => ∃ k : Nat, k ≤ bs.length ∧ i = .int .i64 k ∧ v = .int .u32 (rI (tks (c ^^^ 4294967295#32) (bs.take k))) ∧ Fr (fun _ => False) w wr) (fun _ i _ => bs.length - (intOf i).toNat)
  case atStart => exact ⟨0, by omega, rfl, by rw [hstart], Fr.refl _ _⟩
  case round =>
    clear hstart
    obtain ⟨k, hk, rfl, rfl, hf⟩ := hrel
    obtain ⟨q, hq⟩ : ∃ q, tks (c ^^^ 4294967295#32) (bs.take k) = q := ⟨_, rfl⟩
    rw [hq]
    by_cases hlt : k < bs.length
    · obtain ⟨b, hb⟩ : ∃ b, bs[k]? = some b := ⟨_, List.getElem?_eq_getElem hlt⟩
      have HS := Lib.hid (tks_take_succ (c ^^^ 4294967295#32) bs k b hb)
      have HQ := Lib.hid hq
      rcases HL.out with h0 | ⟨bk, o, hA, hc⟩
      · have := congrArg List.length h0
        rw [bytesV_length] at this
        simp at this
        rw [this] at hlt
        simp at hlt
      · have c1 := hf.cell (hc k _ (bytesV_at hb)) (fun e => e)
        subst hA
        obtain ⟨z, hz⟩ : ∃ z, rI q = z := ⟨_, rfl⟩
        obtain ⟨y, hy⟩ : ∃ y : Int, (b.toNat : Int) = y := ⟨_, rfl⟩
        rw [hy] at c1
        rw [hz]
        have HZ := Lib.hid hz
        have HY := Lib.hid hy
        clear hq hb hz hy hc
        go_wp2_with (go_at_call 110; refine (Ctaken_any q b _ _ HZ.out.symm HY.out.symm _).mono ?_; rintro e w' ⟨rfl, rfl⟩)
        go_roundw
        case rel => exact ⟨k + 1, by omega, by go_num, by rw [HS.out, HQ.out], hf⟩
        case measure => simp [intOf]; omega
    · obtain rfl : k = bs.length := by omega
      rw [List.take_length] at hq
      have HQ := Lib.hid hq
      clear hq
      obtain ⟨z, hz⟩ : ∃ z, rI q = z := ⟨_, rfl⟩
      rw [hz]
      have hzn := not_rI q
      rw [hz] at hzn
      have HZ := Lib.hid hzn
      have hz0 : 0 ≤ z := by rw [← hz]; exact rI_lo q
      have hz1 : z < 4294967296 := by rw [← hz]; exact rI_hi q
      clear hz hzn
      go_wp2_with fail
      go_ret
      exact ⟨ret_num (by show bits .xor .u32 4294967295 z = _; rw [HZ.out, ← HQ.out]; rfl), hf.below (fun _ _ e => e)⟩
set_option maxHeartbeats 800000 in
theorem QcMore_any (c : BitVec 32) (x : Int) (hx : x = rI c) (A : Option Addr) (cap : Nat) (bs : List UInt8) (w : World) (hl : Lies w A (bytesV bs)) (hn : bs.length ≤ 9223372036854775807) :
    Calls Tryz.prog 54 #[.int .u32 x, .slice A bs.length cap] w fun e w' => e = .returned (.int .u32 (rI (more c bs))) ∧ Below w.heap.size w w' := by
  have hx0 : 0 ≤ x := by rw [hx]; exact rI_lo c
  have hx1 : x < 4294967296 := by rw [hx]; exact rI_hi c
  have hnx := not_rI c
  rw [← hx] at hnx
  have HL := Lib.hid hl
  have HN := Lib.hid hnx
  clear hx hl hnx
  go_enter Tryz.func54, Tryz.ntmps54
  go_wp2
  have hmx : IntKind.u32.max = 4294967295 := rfl
  rw [hmx, HN.out]
  clear hmx
  have hstart : rI (c ^^^ 4294967295#32) = rI (tks (c ^^^ 4294967295#32) (bs.take 0)) := rfl
  go_loopw [0, 5] (fun v i wr => ∃ k : Nat, k ≤ bs.length ∧ i = .int .i64 k ∧ v = .int .u32 (rI (tks (c ^^^ 4294967295#32) (bs.take k))) ∧ Fr (fun _ => False) w wr) (fun _ i _ => bs.length - (intOf i).toNat)
  case atStart => exact ⟨0, by omega, rfl, by rw [hstart], Fr.refl _ _⟩
  case round =>
    clear hstart
    obtain ⟨k, hk, rfl, rfl, hf⟩ := hrel
    obtain ⟨q, hq⟩ : ∃ q, tks (c ^^^ 4294967295#32) (bs.take k) = q := ⟨_, rfl⟩
    rw [hq]
    by_cases hlt : k < bs.length
    · obtain ⟨b, hb⟩ : ∃ b, bs[k]? = some b := ⟨_, List.getElem?_eq_getElem hlt⟩
      have HS := Lib.hid (tks_take_succ (c ^^^ 4294967295#32) bs k b hb)
      have HQ := Lib.hid hq
      rcases HL.out with h0 | ⟨bk, o, hA, hc⟩
      · have := congrArg List.length h0
        rw [bytesV_length] at this
        simp at this
        rw [this] at hlt
        simp at hlt
      · have c1 := hf.cell (hc k _ (bytesV_at hb)) (fun e => e)
        subst hA
        obtain ⟨z, hz⟩ : ∃ z, rI q = z := ⟨_, rfl⟩
        obtain ⟨y, hy⟩ : ∃ y : Int, (b.toNat : Int) = y := ⟨_, rfl⟩
        rw [hy] at c1
        rw [hz]
        have HZ := Lib.hid hz
        have HY := Lib.hid hy
        clear hq hb hz hy hc
        go_wp2_with (go_at_call 84; refine (Qctake_any q b _ _ HZ.out.symm HY.out.symm _).mono ?_; rintro e w' ⟨rfl, rfl⟩)
        go_roundw
        case rel => exact ⟨k + 1, by omega, by go_num, by rw [HS.out, HQ.out], hf⟩
        case measure => simp [intOf]; omega
    · obtain rfl : k = bs.length := by omega
      rw [List.take_length] at hq
      have HQ := Lib.hid hq
      clear hq
      obtain ⟨z, hz⟩ : ∃ z, rI q = z := ⟨_, rfl⟩
      rw [hz]
      have hzn := not_rI q
      rw [hz] at hzn
      have HZ := Lib.hid hzn
      have hz0 : 0 ≤ z := by rw [← hz]; exact rI_lo q
      have hz1 : z < 4294967296 := by rw [← hz]; exact rI_hi q
      clear hz hzn
      go_wp2_with fail
      go_ret
      exact ⟨ret_num (by show bits .xor .u32 4294967295 z = _; rw [HZ.out, ← HQ.out]; rfl), hf.below (fun _ _ e => e)⟩
end Go.Proofs.YtkaeoflgnnlbeaaGreatDoor
/- What is proved: what the walks of this seat need of layers below, merged out of the texts Pts Cro (of each just what is needed). Conditions: each theorem names its own. -/
/- What is proved: what it is that a list of slices of bytes lies in memory, and how an argument that is such a list is opened. Conditions: none; no program is named. -/
namespace Go.Proofs.YtkaeoflgnnlbeaaGreatDoor
open Go.ChangeShapes Go.WideShapes Go.ChangeAt Go.RowKit Go.Deep
set_option linter.unusedVariables false
/-- Parts: where their bytes lie. -/
def Parts (w : World) (A : Option Addr) (ps : List (List UInt8)) : Prop :=
  ps = [] ∨ ∃ b o, A = some ⟨b, o, none⟩ ∧ ∀ i p, ps[i]? = some p → ∃ Ai ci, w.cell? ⟨b, o + i, none⟩ = some (.slice Ai p.length ci) ∧ p.length ≤ ci ∧ Lies w Ai (bytesV p)
theorem Parts.fr {w w' : World} {A : Option Addr} {ps : List (List UInt8)} (h : Parts w A ps) (f : Fr (fun _ => False) w w') : Parts w' A ps := by
  rcases h with h | ⟨b, o, rfl, hc⟩
  · exact .inl h
  · refine .inr ⟨b, o, rfl, fun i p hi => ?_⟩
    obtain ⟨Ai, ci, h1, h2, h3⟩ := hc i p hi
    exact ⟨Ai, ci, f.cell h1 (fun e => e), h2, h3.fr f (fun _ _ e => e)⟩
theorem flatten_take_succ (ps : List (List UInt8)) (k : Nat) (p : List UInt8) (h : ps[k]? = some p) : (ps.take (k + 1)).flatten = (ps.take k).flatten ++ p := by
  rw [List.take_add_one, h, Option.toList_some, List.flatten_append]
  simp
theorem flatten_take_le (ps : List (List UInt8)) (k : Nat) : (ps.take k).flatten.length ≤ ps.flatten.length := by
  conv => rhs; rw [← List.take_append_drop k ps, List.flatten_append, List.length_append]
  omega
end Go.Proofs.YtkaeoflgnnlbeaaGreatDoor
/- What is proved: what Of answers, by the program and by the document, and that the law's own works answers true. Conditions: the parts lie where they are said to lie. -/
namespace Go.Proofs.YtkaeoflgnnlbeaaGreatDoor
open Go.RowKit
set_option linter.unusedVariables false
set_option maxHeartbeats 800000 in
theorem COf_any (A : Option Addr) (cap : Nat) (ps : List (List UInt8)) (w : World) (hp : Parts w A ps) (hps : ps.length ≤ 9223372036854775807) (hn : ps.flatten.length ≤ 9223372036854775807) :
    Calls Tryz.prog 49 #[.slice A ps.length cap] w fun e w' => e = .returned (.int .u32 (rI (more 0#32 ps.flatten))) ∧ Below w.heap.size w w' := by
  have HP := Lib.hid hp
  have HN := Lib.hid hn
  clear hp hn
  go_enter Tryz.func49, Tryz.ntmps49
  go_wp2
  go_loopw [3, 8] (fun v i wr => ∃ k : Nat, k ≤ ps.length ∧ i = .int .i64 k ∧ v = .int .u32 (rI (more 0#32 (ps.take k).flatten)) ∧ Fr (fun _ => False) w wr) (fun _ i _ => ps.length - (intOf i).toNat)
  case atStart => exact ⟨0, by omega, rfl, by rw [List.take_zero, List.flatten_nil, more_nil]; rfl, Fr.refl _ _⟩
  case round =>
    obtain ⟨k, hk, rfl, rfl, hf⟩ := hrel
    obtain ⟨q, hq⟩ : ∃ q, more 0#32 (ps.take k).flatten = q := ⟨_, rfl⟩
    rw [hq]
    by_cases hlt : k < ps.length
    · obtain ⟨p, hpk⟩ : ∃ p, ps[k]? = some p := ⟨_, List.getElem?_eq_getElem hlt⟩
      rcases HP.out with h0 | ⟨b, o, hA, hc⟩
      · rw [h0] at hlt
        simp at hlt
      · obtain ⟨Ai, ci, c1, c2, c3⟩ := hc k p hpk
        have c1' := hf.cell c1 (fun e => e)
        subst hA
        have hft := flatten_take_succ ps k p hpk
        have hfl := flatten_take_le ps (k + 1)
        have hpl : p.length ≤ 9223372036854775807 := by
          rw [hft, List.length_append] at hfl
          have := HN.out
          omega
        have HFT := Lib.hid hft
        have HC3 := Lib.hid (c3.fr hf (fun _ _ e => e))
        have HQ := Lib.hid hq
        obtain ⟨z, hz⟩ : ∃ z, rI q = z := ⟨_, rfl⟩
        rw [hz]
        have HZ := Lib.hid hz
        clear hq hz hc hpk c1 c3 hft hfl
        go_wp2_with (go_at_call 78; refine (CMore_any q z HZ.out.symm Ai ci p _ HC3.out hpl).mono ?_; rintro e w3 ⟨rfl, b3⟩)
        go_roundw
        case rel => exact ⟨k + 1, by omega, by go_num, by rw [HFT.out, more_append, HQ.out], hf.then_below b3⟩
        case measure => simp [intOf]; omega
    · obtain rfl : k = ps.length := by omega
      rw [List.take_length] at hq
      have HQ := Lib.hid hq
      clear hq
      go_wp2_with fail
      go_ret
      exact ⟨by rw [HQ.out]; rfl, hf.below (fun _ _ e => e)⟩
set_option maxHeartbeats 800000 in
theorem QcOf_any (A : Option Addr) (cap : Nat) (bs : List UInt8) (w : World) (hl : Lies w A (bytesV bs)) (hn : bs.length ≤ 9223372036854775807) :
    Calls Tryz.prog 31 #[.slice A bs.length cap] w fun e w' => e = .returned (.int .u32 (rI (more 0#32 bs))) ∧ Below w.heap.size w w' := by
  go_enter Tryz.func31, Tryz.ntmps31
  go_wp2_with (go_at_call 54; refine (QcMore_any 0#32 _ rfl A cap bs _ hl hn).mono ?_; rintro e w2 ⟨rfl, b2⟩)
  go_ret
  exact ⟨rfl, b2⟩
end Go.Proofs.YtkaeoflgnnlbeaaGreatDoor

/- What is proved: what the program's Pad answers: a byte 128, noughts, eight bytes. Conditions: none. -/
import Derived.Test.YtbbjappmaigobaaDoorShb
import Derived.Laws.OwnMore
namespace Go.Proofs.YtbbjappmaigobaaDoor
open Go.RowKit
set_option linter.unusedVariables false

/-- The last t bytes of a number, the highest first. -/
def tailB (m : Nat) : Nat → List UInt8
  | 0 => []
  | t + 1 => UInt8.ofNat (m / 256 ^ t % 256) :: tailB m t
theorem tailB_length (m t : Nat) : (tailB m t).length = t := by
  induction t with
  | zero => rfl
  | succ t ih => simp [tailB, ih]
def noughts (n : Nat) : Nat := (119 - n % 64) % 64
/-- What stands behind n bytes. -/
def padB (n : Nat) : List UInt8 := 128 :: (List.replicate (noughts n) 0 ++ tailB (8 * n % 18446744073709551616) 8)
theorem padB_length (n : Nat) : (padB n).length = noughts n + 9 := by simp [padB, tailB_length]
theorem padB_whole (n : Nat) : (n + (padB n).length) % 64 = 0 := by rw [padB_length]; unfold noughts; omega
theorem noughts_lt (n : Nat) : noughts n < 64 := Nat.mod_lt _ (by decide)

/-- While it is filled. -/
def padC (k m t : Nat) : List UInt8 := 128 :: (List.replicate (k + (8 - t)) 0 ++ tailB m t)
theorem padC_length (k m t : Nat) (h : t ≤ 8) : (padC k m t).length = k + 9 := by simp [padC, tailB_length]; omega
theorem padC_end (n : Nat) : padC (noughts n) (8 * n % 18446744073709551616) 8 = padB n := rfl
theorem padC_set (k m t : Nat) (h : t < 8) : (bytesV (padC k m t)).toArray.setIfInBounds (k + 8 - t) (.int .u8 ((m / 256 ^ t % 256 : Nat) : Int)) = (bytesV (padC k m (t + 1))).toArray := by
  apply Array.toList_inj.1
  simp only [Array.toList_setIfInBounds]
  obtain ⟨j, hj⟩ : ∃ j, k + (8 - t) = j + 1 := ⟨k + (8 - t) - 1, by omega⟩
  have e1 : k + 8 - t = j + 1 := by omega
  have e2 : k + (8 - (t + 1)) = j := by omega
  have e3 : byteV (UInt8.ofNat (m / 256 ^ t % 256)) = .int .u8 ((m / 256 ^ t % 256 : Nat) : Int) := by
    unfold byteV
    rw [UInt8.toNat_ofNat_of_lt' (by show _ < 256; omega)]
  unfold padC
  rw [hj, e1, e2, tailB, List.replicate_succ']
  simp only [bytesV, List.map_cons, List.map_append, List.map_replicate, List.set_cons_succ, List.append_assoc, List.cons_append, List.nil_append]
  rw [List.set_append_right _ _ (by simp), List.length_replicate, Nat.sub_self, List.set_cons_zero, e3]

theorem info_u8 : (Tryd.prog.info? 5).map (fun i => (i.zero, i.size, i.bytes)) = some (some (.int .u8 0), 1, 1) := by kernel_rfl
theorem info_parts {P : Program} {t : TypeId} {z : Value} {s b : Nat} (h : (P.info? t).map (fun i => (i.zero, i.size, i.bytes)) = some (some z, s, b)) : ∃ i, P.info? t = some i ∧ i.zero = some z ∧ i.size = s ∧ i.bytes = b := by
  cases hq : P.info? t with
  | none => simp [hq] at h
  | some i =>
    simp [hq] at h
    exact ⟨i, rfl, h.1, h.2.1, h.2.2⟩
/-- A new slice of noughts. -/
theorem make_bytes (w : World) (k : Nat) (hk : k < 64) : (Instr.makeSlice 24 (.int .u64 (1 + k + 8)) (.int .u64 (1 + k + 8))).run Tryd.prog w =
    .ok (.slice (some ⟨w.heap.size, 0, none⟩) (k + 9) (k + 9)) (w.alloc (.cells (bytesV (List.replicate (k + 9) 0)).toArray 5)) := by
  obtain ⟨i0, hi, hz0, hz1, hz2⟩ := info_parts info_u8
  have h := run_make (P := Tryd.prog) w 24 5 i0 (.int .u8 0) Tryd.underlying24 hi hz0 .u64 .u64 (1 + k + 8) (1 + k + 8) (by omega) (by omega) (by rw [hz2]; omega) (by omega)
  have e : ((1 : Int) + k + 8).toNat = k + 9 := by omega
  rw [e, hz1, Nat.mul_one] at h
  have e2 : madeCells (Value.int .u8 0).cells (k + 9) = (bytesV (List.replicate (k + 9) 0)).toArray := by
    apply Array.toList_inj.1
    show (madeCells #[Value.int .u8 0] (k + 9)).toList = _
    rw [toList_madeCells_one]
    simp [bytesV, byteV]
  rw [e2] at h
  exact h

theorem shr_tail (m : Int) (M t : Nat) (h : (M : Int) = m) : m / 2 ^ (8 * t) % 256 = ((M / 256 ^ t % 256 : Nat) : Int) := by
  rw [← h]
  have e : (256 : Nat) ^ t = 2 ^ (8 * t) := by rw [Nat.pow_mul]
  rw [e, Int.natCast_emod, Int.natCast_ediv, Int.natCast_pow]
  rfl

def PadRel (w : World) (k M t : Nat) (wr : World) : Prop := Whole wr w.heap.size 5 (bytesV (padC k M t)).toArray ∧ Fr (fun _ => False) w wr
theorem PadRel.put {w wr : World} {k M t : Nat} (h : PadRel w k M t wr) (ht : t < 8) : PadRel w k M (t + 1) (wr.setCell ⟨w.heap.size, k + 8 - t, none⟩ (.int .u8 ((M / 256 ^ t % 256 : Nat) : Int))) := by
  refine ⟨?_, h.2.setCell (fun e => absurd e (Nat.lt_irrefl _)) _⟩
  have := h.1.set (k + 8 - t) (.int .u8 ((M / 256 ^ t % 256 : Nat) : Int))
  rwa [padC_set k M t ht] at this
theorem PadRel.cell {w wr : World} {k M t : Nat} (h : PadRel w k M t wr) (ht : t < 8) : ∃ u, wr.cell? ⟨w.heap.size, k + 8 - t, none⟩ = some u := by
  rw [h.1.cell]
  have : k + 8 - t < (bytesV (padC k M t)).toArray.size := by rw [List.size_toArray, bytesV_length, padC_length _ _ _ (by omega)]; omega
  exact ⟨_, Array.getElem?_eq_getElem this⟩

set_option maxHeartbeats 800000 in
theorem SPad_any (n : Nat) (hn : n < 18446744073709551616) (w : World) :
    Calls Tryd.prog 12 #[.int .u64 n] w fun e w' => ∃ g, e = .returned (.slice (some ⟨g, 0, none⟩) (padB n).length (padB n).length) ∧ w.heap.size ≤ g ∧ Whole w' g 5 (bytesV (padB n)).toArray ∧ Below w.heap.size w w' := by
  obtain ⟨N, hN⟩ : ∃ N : Int, (n : Int) = N := ⟨_, rfl⟩
  rw [hN]
  obtain ⟨k, hk⟩ : ∃ k, noughts n = k := ⟨_, rfl⟩
  have hk64 : k < 64 := by rw [← hk]; exact noughts_lt n
  obtain ⟨x, hx⟩ : ∃ x : Int, (55 - N) % 18446744073709551616 = x := ⟨_, rfl⟩
  have e0 : IntKind.u64.wrap (55 - N) = x := by rw [IntKind.wrap_u64]; exact hx
  have hx0 : 0 ≤ x := by omega
  have hx1 : x < 18446744073709551616 := by omega
  have e1 : x % 64 = (k : Int) := by
    rw [← hk, ← hx, ← hN]
    unfold noughts
    omega
  obtain ⟨M, hM⟩ : ∃ M, 8 * n % 18446744073709551616 = M := ⟨_, rfl⟩
  obtain ⟨m, hm⟩ : ∃ m : Int, (M : Int) = m := ⟨_, rfl⟩
  have e2 : IntKind.u64.wrap (8 * N) = m := by rw [IntKind.wrap_u64, ← hN, ← hm, ← hM]; omega
  have hm0 : 0 ≤ m := by omega
  have hm1 : m < 18446744073709551616 := by omega
  have HE := Lib.hid (show padC k M 8 = padB n by rw [← hk, ← hM]; exact padC_end n)
  have HL := Lib.hid (show (padB n).length = k + 9 by rw [padB_length, hk])
  clear hN hk hM hx
  have HM := Lib.hid hm
  clear hm
  have hmk := fun w => make_bytes w k hk64
  have hW := Whole.new w 5 (bytesV (List.replicate (k + 9) 0)).toArray
  have hP : PadRel w k M 0 (w.alloc (.cells ((bytesV (List.replicate (k + 9) 0)).toArray.setIfInBounds 0 (.int .u8 128)) 5)) := by
    have e : (bytesV (List.replicate (k + 9) 0)).toArray.setIfInBounds 0 (.int .u8 128) = (bytesV (padC k M 0)).toArray := by
      apply Array.toList_inj.1
      simp only [Array.toList_setIfInBounds]
      rw [List.replicate_succ]
      simp only [bytesV, List.map_cons, List.set_cons_zero, padC, tailB, List.append_nil]
      rfl
    rw [e]
    exact ⟨Whole.new w 5 _, (Fr.refl _ w).alloc _⟩
  have c0 : ∃ u, (w.alloc (.cells (bytesV (List.replicate (k + 9) 0)).toArray 5)).cell? ⟨w.heap.size, 0, none⟩ = some u := by
    rw [hW.cell, List.replicate_succ]
    exact ⟨_, rfl⟩
  obtain ⟨u0, c0⟩ := c0
  have f0 := hW.frozen 0
  obtain ⟨Z, hZ⟩ : ∃ Z, (bytesV (List.replicate (k + 9) 0)).toArray = Z := ⟨_, rfl⟩
  rw [hZ] at hP c0 f0
  have hmk' : ∀ w, (Instr.makeSlice 24 (.int .u64 (1 + k + 8)) (.int .u64 (1 + k + 8))).run Tryd.prog w = .ok (.slice (some ⟨w.heap.size, 0, none⟩) (k + 9) (k + 9)) (w.alloc (.cells Z 5)) := fun w => by rw [← hZ]; exact hmk w
  have HP := Lib.hid hP
  clear hmk hZ hW hP
  rw [HL.out]
  go_enter Tryd.func12, Tryd.ntmps12
  go_wp2_with fail
  go_loopw [15] (fun i wr => ∃ t : Nat, t ≤ 8 ∧ i = .int .i64 t ∧ PadRel w k M t wr) (fun i _ => 8 - (intOf i).toNat)
  case atStart => exact ⟨0, by omega, rfl, HP.out⟩
  case round =>
    clear c0 f0 hmk'
    obtain ⟨t, ht, rfl, hr⟩ := hrel
    by_cases hlt : t < 8
    · obtain ⟨u, c1⟩ := hr.cell hlt
      have f1 := hr.1.frozen (k + 8 - t)
      have HS := Lib.hid (shr_tail m M t HM.out)
      have HR := Lib.hid hr
      clear hr
      go_wp2_with fail
      go_roundw
      case rel => exact ⟨t + 1, by omega, by go_num, by rw [HS.out]; exact PadRel.put HR.out hlt⟩
      case measure => simp [intOf]; omega
    · obtain rfl : t = 8 := by omega
      go_wp2_with fail
      go_ret
      refine ⟨w.heap.size, rfl, Nat.le_refl _, ?_, hr.2.below (fun _ _ e => e)⟩
      rw [← HE.out]
      exact hr.1
end Go.Proofs.YtbbjappmaigobaaDoor

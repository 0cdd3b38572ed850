/- What is proved: what the walks of this seat need of layers below, merged out of the texts Lay Ref (of each just what is needed). Conditions: each theorem names its own. -/
import Derived.Laws.IdiomStrings
import Derived.Test.YtgbhdjncccmabaaGreatDoorDb
set_option maxRecDepth 100000
/- What is proved: what the law's own lay does: each call of a Writer lays the bytes that belong to it. Conditions: the writer's bytes stay below 2^47. -/
namespace Go.Proofs.YtgbhdjncccmabaaGreatDoor
open Go.RowKit
set_option linter.unusedVariables false
theorem conv_bytes (w : World) (s : ByteArray) : ∃ A c W, (convert 9 28 (.string s)).run Tryz.prog w = .ok (.slice A s.data.toList.length c) W ∧ Lies W A (bytesV s.data.toList) ∧ Below w.heap.size w W := by
  have h := run_bytes_of_string (P := Tryz.prog) w 9 28 5 s Tryz.underlying9 Tryz.underlying28 Tryz.underlying5
  have hl : s.size = s.data.toList.length := by rw [Array.length_toList]; rfl
  rw [hl] at h
  refine ⟨_, _, _, h, .inr ⟨w.heap.size, 0, rfl, fun j u hu => ?_⟩, ((Below.refl _ _).drew).alloc (Nat.le_refl _) _⟩
  have hj : j < s.data.size := by
    have := (List.getElem?_eq_some_iff.1 hu).1
    rwa [bytesV_length, Array.length_toList] at this
  rw [Nat.zero_add]
  have e : ∀ C fr, (w.drew.alloc (.cells C 5 fr)).cell? ⟨w.heap.size, j, none⟩ = C[j]? := fun C fr => World.cell?_alloc_mark w.drew C 5 fr j
  rw [e, bytesRow_at _ _ _ hj, ← hu]
  unfold bytesV
  rw [List.getElem?_map, Array.getElem?_toList, Array.getElem?_eq_getElem hj]
  rfl
theorem WSt.after {w w1 w2 : World} {g : Nat} {v v2 : Value} (h : Below w.heap.size w w1) (k : WSt w1 g v w2 v2) : WSt w g v w2 v2 :=
  ⟨(Fr.of_below h).trans k.fr (fun _ _ e => e), k.own.imp id fun ⟨b, hb, hl⟩ => ⟨b, hb, Nat.le_trans h.size hl⟩⟩
end Go.Proofs.YtgbhdjncccmabaaGreatDoor
/- What is proved: what the document's own answers Big, Var and Text make (the law's side): the bytes of a number, and of a text. Conditions: numbers below 2^64, texts below 2^47 bytes. -/
namespace Go.Proofs.YtgbhdjncccmabaaGreatDoor
open Go.RowKit
set_option linter.unusedVariables false
/-- A slice of bytes that the call made: where it lies, and nothing that was there has turned. -/
def MadePost (w : World) (ys : List UInt8) (e : Ending) (w' : World) : Prop := ∃ A c, e = .returned (.slice A ys.length c) ∧ Lies w' A (bytesV ys) ∧ Below w.heap.size w w'
theorem row_set {w : World} {base : Nat} {h n c : Nat} {zs : List UInt8} (ho : w.ownsRow base 5 1 (.slice (some ⟨h, 0, none⟩) n c) n (bytesV zs)) (k : Nat) (z : Int) (h0 : 0 ≤ z) (h1 : z ≤ 255) :
    (w.setCell ⟨h, k, none⟩ (.int .u8 z)).ownsRow base 5 1 (.slice (some ⟨h, 0, none⟩) n c) n (bytesV (zs.set k (toB z))) := by
  have := (World.ownsRow.stored ho k (.int .u8 z)).1
  have e : bytesV (zs.set k (toB z)) = (bytesV zs).set k (.int .u8 z) := by
    unfold bytesV
    rw [List.map_set, byteV_toB h0 h1]
  rw [e]
  exact this
/-- The bytes of Big, the last k of them laid. -/
def bigRow (n : Int) (size k : Nat) : List UInt8 := List.replicate (size - k) 0 ++ (hiB n size size).drop (size - k)
theorem bigRow_next (n : Int) (size k : Nat) (hk : k < size) : (bigRow n size k).set (size - 1 - k) (toB (n / 2 ^ (8 * k) % 256)) = bigRow n size (k + 1) := by
  unfold bigRow
  have e1 : size - k = (size - (k + 1)) + 1 := by omega
  have e2 : size - 1 - k = size - (k + 1) := by omega
  have hd : (hiB n size size).drop (size - (k + 1)) = toB (n / 2 ^ (8 * k) % 256) :: (hiB n size size).drop (size - k) := by
    rw [List.drop_eq_getElem_cons (by rw [hiB_length]; omega), ← e1]
    congr 1
    simp only [hiB, List.getElem_map, List.getElem_range]
    rw [show size - 1 - (size - (k + 1)) = k by omega]
  rw [hd, e2, e1, List.replicate_succ', List.append_assoc, List.set_append_right _ _ (by simp)]
  simp
set_option maxHeartbeats 1600000 in
theorem refBig_any (n : Int) (size : Nat) (w : World) (h0 : 0 ≤ n) (h1 : n < 18446744073709551616) (hs : size ≤ 8) (hs0 : 0 < size) : Calls Tryz.prog 20 #[.int .u64 n, .int .i64 size] w (MadePost w (hiB n size size)) := by
  obtain ⟨i0, hi, hz0, hz1, hz2⟩ := info_parts info_u8
  go_enter Tryz.func20, Tryz.ntmps20
  go_wp2_with (at_make; refine wpList_make_full _ rfl _ _ 28 rfl w.heap.size 5 i0 (.int .u8 0) 1 Tryz.underlying28 hi hz0 hz1 .i64 .i64 _ _ size rfl rfl rfl rfl (by rw [hz2]; omega) (by unfold maxLen; omega) (Nat.le_refl _) ?_)
  intro w1 o1 g1
  have hO1 : w1.ownsRow w.heap.size 5 1 (.slice (some ⟨w.heap.size, 0, none⟩) size size) size (bytesV (bigRow n size 0)) := by
    have e : bytesV (bigRow n size 0) = (madeCells #[.int .u8 0] size).toList := by
      rw [toList_madeCells_one]
      unfold bigRow bytesV
      rw [List.drop_of_length_le (by rw [hiB_length]; omega), List.append_nil, List.map_replicate, Nat.sub_zero]
      rfl
    rw [e]; exact o1
  have HO1 := Lib.hid hO1
  have B1 := (Below.refl w.heap.size w).grown g1 (Nat.le_refl _) (fun k hk => by cases hk)
  clear o1 g1 hO1
  go_wp2_with fail
  go_loopw [0, 6] (fun m i wr => ∃ k : Nat, k ≤ size ∧ i = .int .i64 k ∧ (∃ mm : Int, m = .int .u64 mm ∧ 0 ≤ mm ∧ mm < 18446744073709551616 ∧ mm = n / 2 ^ (8 * k)) ∧ wr.ownsRow w.heap.size 5 1 (.slice (some ⟨w.heap.size, 0, none⟩) size size) size (bytesV (bigRow n size k)) ∧ Below w.heap.size w wr) (fun _ i _ => size - (intOf i).toNat)
  case atStart => exact ⟨0, Nat.zero_le _, rfl, ⟨n, rfl, h0, h1, by simp⟩, HO1.out, B1⟩
  case round =>
    obtain ⟨k, hk, rfl, ⟨mm, rfl, hm0, hm1, hmm⟩, ho, hb⟩ := hrel
    have HM := Lib.hid hmm
    have HO := Lib.hid ho
    have HB := Lib.hid hb
    clear hmm ho hb
    by_cases hlt : k < size
    · have hcell : wr.cell? ⟨w.heap.size, size - 1 - k, none⟩ = some (.int .u8 0) := by
        rw [World.ownsRow.cellAt HO.out (size - 1 - k) (by omega)]
        unfold bytesV bigRow
        rw [List.getElem?_map, List.getElem?_append_left (by simp; omega), List.getElem?_replicate, if_pos (by omega)]
        rfl
      have hfz := World.ownsRow.frozenAt HO.out (size - 1 - k)
      have hk0 : (0 : Int) ≤ (size : Int) - 1 - k := by omega
      have hk1 : (size : Int) - 1 - k < size := by omega
      have hkn : ((size : Int) - 1 - k).toNat = size - 1 - k := by omega
      go_wp2_with fail
      have hset := row_set HO.out (size - 1 - k) (mm % 256) (by omega) (by omega)
      have hmq : mm % 256 = n / 2 ^ (8 * k) % 256 := by rw [HM.out]
      rw [hmq, bigRow_next n size k hlt] at hset
      rw [← hmq] at hset
      have hmd : mm / 256 = n / 2 ^ (8 * (k + 1)) := by
        rw [HM.out, show 8 * (k + 1) = 8 * k + 8 by omega, Int.pow_add, Int.ediv_ediv_of_nonneg (Int.le_of_lt (Int.pow_pos (by decide)))]
        rfl
      have HS := Lib.hid hset
      have HMD := Lib.hid hmd
      clear hset hmd hmq
      go_roundw
      case rel => exact ⟨k + 1, by omega, by go_num, ⟨mm / 256, rfl, by omega, by omega, HMD.out⟩, HS.out, HB.out.setCell (p := ⟨w.heap.size, size - 1 - k, none⟩) (Nat.le_refl _) _⟩
      case measure => simp [intOf]; omega
    · obtain rfl : k = size := by omega
      have hfin : bigRow n k k = hiB n k k := by unfold bigRow; simp
      have hL := Lies.of_own HO.out
      rw [hfin] at hL
      have HLI := Lib.hid hL
      clear hL hfin
      go_wp2_with fail
      go_ret
      refine ⟨some ⟨w.heap.size, 0, none⟩, k, ?_, HLI.out, HB.out⟩
      rw [hiB_length]
      rfl
end Go.Proofs.YtgbhdjncccmabaaGreatDoor

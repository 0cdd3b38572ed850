/- What is proved: what the walks of this seat need of layers below, merged out of the texts Lay Ref (of each just what is needed). Conditions: each theorem names its own. -/
import Derived.Laws.IdiomStrings
import Derived.Test.YtkaeoflgnnlbeaaGreatDoorDb
set_option maxRecDepth 100000
/- What is proved: what the law's own lay does: each call of a Writer lays the bytes that belong to it. Conditions: the writer's bytes stay below 2^47. -/
namespace Go.Proofs.YtkaeoflgnnlbeaaGreatDoor
open Go.RowKit
set_option linter.unusedVariables false
variable {X : Option (List Value)}
theorem conv_bytes (w : World) (s : ByteArray) : ∃ A c W, (convert 9 25 (.string s)).run Tryz.prog w = .ok (.slice A s.data.toList.length c) W ∧ Lies W A (bytesV s.data.toList) ∧ Below w.heap.size w W := by
  have h := run_bytes_of_string (P := Tryz.prog) w 9 25 5 s Tryz.underlying9 Tryz.underlying25 Tryz.underlying5
  have hl : s.size = s.data.toList.length := by rw [Array.length_toList]; rfl
  rw [hl] at h
  refine ⟨_, _, _, h, .inr ⟨w.heap.size, 0, rfl, fun j u hu => ?_⟩, ((Below.refl _ _).drew).alloc (Nat.le_refl _) _⟩
  have hj : j < s.data.size := by
    have := (List.getElem?_eq_some_iff.1 hu).1
    rwa [bytesV_length, Array.length_toList] at this
  rw [Nat.zero_add]
  have e : ∀ C fr, (w.drew.alloc (.cells C 5 fr)).cell? ⟨w.heap.size, j, none⟩ = C[j]? := fun C fr => World.cell?_alloc_mark w.drew C 5 fr j
  rw [e, bytesRow_at _ _ _ hj, ← hu]
  unfold bytesV
  rw [List.getElem?_map, Array.getElem?_toList, Array.getElem?_eq_getElem hj]
  rfl
theorem WRaw_n (g : Nat) (v : Value) (xs ys : List UInt8) (A : Option Addr) (c N : Nat) (w : World) (hN : ys.length = N) (h : Wr X w g v xs) (hy : Lies w A (bytesV ys)) (hb : xs.length + ys.length ≤ 140737488355328) :
    Calls Tryz.prog 44 #[.pointer (some ⟨g, 0, none⟩), .slice A N c] w (WPost X w g v (xs ++ ys)) := by
  subst hN
  exact WRaw_any g v xs ys A c w h hy hb
theorem WSt.after {w w1 w2 : World} {g : Nat} {v v2 : Value} (h : Below w.heap.size w w1) (k : WSt w1 g v w2 v2) : WSt w g v w2 v2 :=
  ⟨(Fr.of_below h).trans k.fr (fun _ _ e => e), k.own.imp id fun ⟨b, hb, hl⟩ => ⟨b, hb, Nat.le_trans h.size hl⟩⟩
end Go.Proofs.YtkaeoflgnnlbeaaGreatDoor
/- What is proved: what the document's own answers Big, Var and Text make (the law's side): the bytes of a number, and of a text. Conditions: numbers below 2^64, texts below 2^47 bytes. -/
namespace Go.Proofs.YtkaeoflgnnlbeaaGreatDoor
open Go.RowKit
set_option linter.unusedVariables false
/-- A slice of bytes that the call made: where it lies, and nothing that was there has turned. -/
def MadePost (w : World) (ys : List UInt8) (e : Ending) (w' : World) : Prop := ∃ A c, e = .returned (.slice A ys.length c) ∧ Lies w' A (bytesV ys) ∧ Below w.heap.size w w'
theorem src_one (w : World) (c : Int) : Src Tryz.prog 1 25 (.slice (some ⟨w.heap.size, 0, none⟩) 1 1) 1 [.int .u8 c] (w.alloc (.cells #[.int .u8 c] 5)) :=
  Src.ofSlice _ Tryz.underlying25 ⟨w.heap.size, 0, none⟩ 1 1 [.int .u8 c] rfl (by intro j u hj; match j, hj with | 0, hj => simp at hj; subst hj; simp [Addr.add]) (by intro u hu; simp at hu; subst hu; rfl)
theorem below_append {w wr w1 : World} {o : Obj} {v : Value} {e : TypeId} {size n : Nat} {xs : List Value} (hb : Below w.heap.size w wr) (hown : wr.ownsRow w.heap.size e size v n xs) (hg : (wr.alloc o).grownBy w1 v.ownBlock) : Below w.heap.size w w1 :=
  (hb.alloc hb.size o).grown hg (by have := hb.size; simp; omega) (fun k hk => (World.ownsRow.lt hown k hk).1)
set_option maxHeartbeats 1600000 in
theorem refVar_any (n : Int) (w : World) (h0 : 0 ≤ n) (h1 : n < 18446744073709551616) : Calls Tryz.prog 32 #[.int .u64 n] w (OwnPost w (varB n.toNat)) := by
  obtain ⟨i0, hi, hz0, hz1, hz2⟩ := info_parts info_u8
  go_enter Tryz.func32, Tryz.ntmps32
  go_wp2_with fail
  go_loopw [0, 3] (fun i v wr => ∃ (m : Int) (f : Nat) (ys : List UInt8), i = .int .u64 m ∧ 0 ≤ m ∧ m < 18446744073709551616 ∧ (ys.length + f = 9 ∧ m.toNat < 128 ^ (f + 1) ∧ ys ++ varF f m.toNat = varB n.toNat) ∧ wr.ownsRow w.heap.size 5 1 v ys.length (bytesV ys) ∧ Below w.heap.size w wr) (fun i _ _ => (intOf i).toNat)
  case atStart => exact ⟨n, 9, [], rfl, h0, h1, ⟨rfl, by omega, rfl⟩, World.ownsRow_nil _ _ _ _, Below.refl _ _⟩
  case round =>
    obtain ⟨m, f, ys, rfl, hm0, hm1, hf, hown, hbl⟩ := hrel
    have HF := Lib.hid hf
    have hyl : ys.length ≤ 9 := by omega
    clear hf
    have hbs := hbl.size
    have HO := Lib.hid hown
    have HB := Lib.hid hbl
    obtain ⟨A0, c0, hv0, -, -⟩ := own_slice hown
    subst hv0
    clear hown hbl
    by_cases hlt : 128 ≤ m
    · go_wp2_with (at_builtin; refine wpList_append_row _ rfl (.tmp 6) (.tmp 11) 25 25 rfl w.heap.size 5 i0 (.int .u8 0) 1 1 Tryz.underlying25 hi hz0 hz1 hz2 rfl _ ys.length (bytesV ys) rfl (HO.out.alloc _) _ 1 [.int .u8 (m % 128 + 128)] rfl (src_one wr _) (by unfold maxLen; omega) (by omega) (by simp; omega) ?_)
      intro v1 w1 hown1 hg1 hat1
      have hB1 := below_append HB.out HO.out hg1
      obtain ⟨f1, f2, f3⟩ := HF.out
      have hf0 : f ≠ 0 := by rintro rfl; omega
      obtain ⟨f', rfl⟩ := Nat.exists_eq_succ_of_ne_zero hf0
      have e1 : (m / 128).toNat = m.toNat / 128 := by omega
      have e2 : toB (m % 128 + 128) = UInt8.ofNat (m.toNat % 128 + 128) := by unfold toB; congr 1; omega
      have hP : (ys ++ [toB (m % 128 + 128)]).length + f' = 9 ∧ (m / 128).toNat < 128 ^ (f' + 1) ∧ (ys ++ [toB (m % 128 + 128)]) ++ varF f' (m / 128).toNat = varB n.toNat := by
        refine ⟨by simp; omega, by rw [e1]; exact pow128 _ _ f2, ?_⟩
        rw [← f3, e1, e2, List.append_assoc]
        congr 1
        simp only [varF]
        rw [if_neg (by omega)]
        rfl
      have hO1 : w1.ownsRow w.heap.size 5 1 v1 (ys ++ [toB (m % 128 + 128)]).length (bytesV (ys ++ [toB (m % 128 + 128)])) := by
        rw [List.length_append, bytesV_append]
        have : bytesV [toB (m % 128 + 128)] = [.int .u8 (m % 128 + 128)] := by show [byteV (toB (m % 128 + 128))] = _; rw [byteV_toB (by omega) (by omega)]
        rw [this]
        exact hown1
      have HP := Lib.hid hP
      have HO1 := Lib.hid hO1
      clear hP e1 e2 f1 f2 f3 hO1 hown1 hat1 hg1
      go_wp2_with fail
      go_roundw
      case rel => exact ⟨m / 128, f', ys ++ [toB (m % 128 + 128)], rfl, by omega, by omega, HP.out, HO1.out, hB1⟩
      case measure => simp [intOf]; omega
    · go_wp2_with (at_builtin; refine wpList_append_row _ rfl (.tmp 15) (.tmp 18) 25 25 rfl w.heap.size 5 i0 (.int .u8 0) 1 1 Tryz.underlying25 hi hz0 hz1 hz2 rfl _ ys.length (bytesV ys) rfl (HO.out.alloc _) _ 1 [.int .u8 m] rfl (src_one wr _) (by unfold maxLen; omega) (by omega) (by simp; omega) ?_)
      intro v1 w1 hown1 hg1 hat1
      have hB1 := below_append HB.out HO.out hg1
      obtain ⟨f1, f2, f3⟩ := HF.out
      have hO1 : w1.ownsRow w.heap.size 5 1 v1 (varB n.toNat).length (bytesV (varB n.toNat)) := by
        rw [← f3, varF_small _ _ (by omega), List.length_append, bytesV_append]
        have : bytesV [UInt8.ofNat m.toNat] = [.int .u8 m] := by show [byteV (toB m)] = _; rw [byteV_toB (by omega) (by omega)]
        rw [this]
        exact hown1
      have HO1 := Lib.hid hO1
      clear f1 f2 f3 hO1 hown1 hat1 hg1
      go_wp2_with fail
      go_ret
      exact ⟨v1, rfl, HO1.out, hB1⟩
set_option maxHeartbeats 1600000 in
theorem refText_any (s : ByteArray) (w : World) (hs : s.size ≤ 140000000000000) : Calls Tryz.prog 83 #[.string s] w (OwnPost w (textB s.data.toList)) := by
  obtain ⟨i0, hi, hz0, hz1, hz2⟩ := info_parts info_u8
  have hsl : s.data.toList.length = s.size := by rw [Array.length_toList]; rfl
  have HSL := Lib.hid hsl
  clear hsl
  go_enter Tryz.func83, Tryz.ntmps83
  have hvl := varB_length s.size
  go_wp2_with (first
    | (go_at_call 32; refine (refVar_any _ _ (by omega) (by omega)).mono ?_; rintro e w1 ⟨v1, rfl, o1, b1⟩; rw [Int.toNat_natCast] at o1; obtain ⟨A1, c1, hv1, -, -⟩ := own_slice o1; subst hv1; obtain ⟨A, c, W, hconv, hlies, hbW⟩ := conv_bytes w1 s; have hsrc := hlies.src Tryz.underlying25 (bytesV_one _) c; rw [bytesV_length, HSL.out] at hsrc; have HSR := Lib.hid hsrc; have O1 := Lib.hid (own_fr o1 (Fr.of_below (S := fun _ => False) hbW) (fun _ _ e => e)); have B1 := Lib.hid (Fr.then_below (Fr.of_below (S := fun _ => False) b1) hbW); have hbs := b1.size; have hbt := hbW.size; clear hlies hbW o1 b1 hsrc)
    | (at_builtin; refine wpList_append_row _ rfl (.tmp 6) (.tmp 8) 25 25 rfl w.heap.size 5 i0 (.int .u8 0) 1 1 Tryz.underlying25 hi hz0 hz1 hz2 rfl _ (varB s.size).length (bytesV (varB s.size)) rfl O1.out _ s.size (bytesV s.data.toList) rfl HSR.out (by unfold maxLen; omega) (by omega) (by omega) ?_))
  intro v2 w2 o2 g2 at2
  have hB2 := (B1.out.below (fun _ _ e => e)).grown g2 (by omega) (fun k hk => (World.ownsRow.lt O1.out k hk).1)
  have hO2 : w2.ownsRow w.heap.size 5 1 v2 (textB s.data.toList).length (bytesV (textB s.data.toList)) := by
    unfold textB
    rw [List.length_append, bytesV_append, HSL.out]
    exact o2
  have HO2 := Lib.hid hO2
  clear o2 g2 at2 hO2
  go_wp2_with fail
  go_ret
  exact ⟨v2, rfl, HO2.out, hB2⟩
theorem row_set {w : World} {base : Nat} {h n c : Nat} {zs : List UInt8} (ho : w.ownsRow base 5 1 (.slice (some ⟨h, 0, none⟩) n c) n (bytesV zs)) (k : Nat) (z : Int) (h0 : 0 ≤ z) (h1 : z ≤ 255) :
    (w.setCell ⟨h, k, none⟩ (.int .u8 z)).ownsRow base 5 1 (.slice (some ⟨h, 0, none⟩) n c) n (bytesV (zs.set k (toB z))) := by
  have := (World.ownsRow.stored ho k (.int .u8 z)).1
  have e : bytesV (zs.set k (toB z)) = (bytesV zs).set k (.int .u8 z) := by
    unfold bytesV
    rw [List.map_set, byteV_toB h0 h1]
  rw [e]
  exact this
/-- The bytes of Big, the last k of them laid. -/
def bigRow (n : Int) (size k : Nat) : List UInt8 := List.replicate (size - k) 0 ++ (hiB n size size).drop (size - k)
theorem bigRow_next (n : Int) (size k : Nat) (hk : k < size) : (bigRow n size k).set (size - 1 - k) (toB (n / 2 ^ (8 * k) % 256)) = bigRow n size (k + 1) := by
  unfold bigRow
  have e1 : size - k = (size - (k + 1)) + 1 := by omega
  have e2 : size - 1 - k = size - (k + 1) := by omega
  have hd : (hiB n size size).drop (size - (k + 1)) = toB (n / 2 ^ (8 * k) % 256) :: (hiB n size size).drop (size - k) := by
    rw [List.drop_eq_getElem_cons (by rw [hiB_length]; omega), ← e1]
    congr 1
    simp only [hiB, List.getElem_map, List.getElem_range]
    rw [show size - 1 - (size - (k + 1)) = k by omega]
  rw [hd, e2, e1, List.replicate_succ', List.append_assoc, List.set_append_right _ _ (by simp)]
  simp
set_option maxHeartbeats 1600000 in
theorem refBig_any (n : Int) (size : Nat) (w : World) (h0 : 0 ≤ n) (h1 : n < 18446744073709551616) (hs : size ≤ 8) (hs0 : 0 < size) : Calls Tryz.prog 29 #[.int .u64 n, .int .i64 size] w (MadePost w (hiB n size size)) := by
  obtain ⟨i0, hi, hz0, hz1, hz2⟩ := info_parts info_u8
  go_enter Tryz.func29, Tryz.ntmps29
  go_wp2_with (at_make; refine wpList_make_full _ rfl _ _ 25 rfl w.heap.size 5 i0 (.int .u8 0) 1 Tryz.underlying25 hi hz0 hz1 .i64 .i64 _ _ size rfl rfl rfl rfl (by rw [hz2]; omega) (by unfold maxLen; omega) (Nat.le_refl _) ?_)
  intro w1 o1 g1
  have hO1 : w1.ownsRow w.heap.size 5 1 (.slice (some ⟨w.heap.size, 0, none⟩) size size) size (bytesV (bigRow n size 0)) := by
    have e : bytesV (bigRow n size 0) = (madeCells #[.int .u8 0] size).toList := by
      rw [toList_madeCells_one]
      unfold bigRow bytesV
      rw [List.drop_of_length_le (by rw [hiB_length]; omega), List.append_nil, List.map_replicate, Nat.sub_zero]
      rfl
    rw [e]; exact o1
  have HO1 := Lib.hid hO1
  have B1 := (Below.refl w.heap.size w).grown g1 (Nat.le_refl _) (fun k hk => by cases hk)
  clear o1 g1 hO1
  go_wp2_with fail
  go_loopw [0, 6] (fun m i wr => ∃ k : Nat, k ≤ size ∧ i = .int .i64 k ∧ (∃ mm : Int, m = .int .u64 mm ∧ 0 ≤ mm ∧ mm < 18446744073709551616 ∧ mm = n / 2 ^ (8 * k)) ∧ wr.ownsRow w.heap.size 5 1 (.slice (some ⟨w.heap.size, 0, none⟩) size size) size (bytesV (bigRow n size k)) ∧ Below w.heap.size w wr) (fun _ i _ => size - (intOf i).toNat)
  case atStart => exact ⟨0, Nat.zero_le _, rfl, ⟨n, rfl, h0, h1, by simp⟩, HO1.out, B1⟩
  case round =>
    obtain ⟨k, hk, rfl, ⟨mm, rfl, hm0, hm1, hmm⟩, ho, hb⟩ := hrel
    have HM := Lib.hid hmm
    have HO := Lib.hid ho
    have HB := Lib.hid hb
    clear hmm ho hb
    by_cases hlt : k < size
    · have hcell : wr.cell? ⟨w.heap.size, size - 1 - k, none⟩ = some (.int .u8 0) := by
        rw [World.ownsRow.cellAt HO.out (size - 1 - k) (by omega)]
        unfold bytesV bigRow
        rw [List.getElem?_map, List.getElem?_append_left (by simp; omega), List.getElem?_replicate, if_pos (by omega)]
        rfl
      have hfz := World.ownsRow.frozenAt HO.out (size - 1 - k)
      have hk0 : (0 : Int) ≤ (size : Int) - 1 - k := by omega
      have hk1 : (size : Int) - 1 - k < size := by omega
      have hkn : ((size : Int) - 1 - k).toNat = size - 1 - k := by omega
      go_wp2_with fail
      have hset := row_set HO.out (size - 1 - k) (mm % 256) (by omega) (by omega)
      have hmq : mm % 256 = n / 2 ^ (8 * k) % 256 := by rw [HM.out]
      rw [hmq, bigRow_next n size k hlt] at hset
      rw [← hmq] at hset
      have hmd : mm / 256 = n / 2 ^ (8 * (k + 1)) := by
        rw [HM.out, show 8 * (k + 1) = 8 * k + 8 by omega, Int.pow_add, Int.ediv_ediv_of_nonneg (Int.le_of_lt (Int.pow_pos (by decide)))]
        rfl
      have HS := Lib.hid hset
      have HMD := Lib.hid hmd
      clear hset hmd hmq
      go_roundw
      case rel => exact ⟨k + 1, by omega, by go_num, ⟨mm / 256, rfl, by omega, by omega, HMD.out⟩, HS.out, HB.out.setCell (p := ⟨w.heap.size, size - 1 - k, none⟩) (Nat.le_refl _) _⟩
      case measure => simp [intOf]; omega
    · obtain rfl : k = size := by omega
      have hfin : bigRow n k k = hiB n k k := by unfold bigRow; simp
      have hL := Lies.of_own HO.out
      rw [hfin] at hL
      have HLI := Lib.hid hL
      clear hL hfin
      go_wp2_with fail
      go_ret
      refine ⟨some ⟨w.heap.size, 0, none⟩, k, ?_, HLI.out, HB.out⟩
      rw [hiB_length]
      rfl
end Go.Proofs.YtkaeoflgnnlbeaaGreatDoor

/- What is proved: what the walks of this seat need of layers below, merged out of the texts Lay Ref (of each just what is needed). Conditions: each theorem names its own. -/
import Derived.Laws.IdiomStrings
import Derived.Test.YthjfkeploofblaaDb
set_option maxRecDepth 100000
/- What is proved: what the law's own lay does: each call of a Writer lays the bytes that belong to it. Conditions: the writer's bytes stay below 2^47. -/
namespace Go.Proofs.Ythjfkeploofblaa
open Go.RowKit
set_option linter.unusedVariables false
theorem conv_bytes (w : World) (s : ByteArray) : ∃ A c W, (convert 9 26 (.string s)).run Try.prog w = .ok (.slice A s.data.toList.length c) W ∧ Lies W A (bytesV s.data.toList) ∧ Below w.heap.size w W := by
  have h := run_bytes_of_string (P := Try.prog) w 9 26 5 s Try.underlying9 Try.underlying26 Try.underlying5
  have hl : s.size = s.data.toList.length := by rw [Array.length_toList]; rfl
  rw [hl] at h
  refine ⟨_, _, _, h, .inr ⟨w.heap.size, 0, rfl, fun j u hu => ?_⟩, ((Below.refl _ _).drew).alloc (Nat.le_refl _) _⟩
  have hj : j < s.data.size := by
    have := (List.getElem?_eq_some_iff.1 hu).1
    rwa [bytesV_length, Array.length_toList] at this
  rw [Nat.zero_add]
  have e : ∀ C fr, (w.drew.alloc (.cells C 5 fr)).cell? ⟨w.heap.size, j, none⟩ = C[j]? := fun C fr => World.cell?_alloc_mark w.drew C 5 fr j
  rw [e, bytesRow_at _ _ _ hj, ← hu]
  unfold bytesV
  rw [List.getElem?_map, Array.getElem?_toList, Array.getElem?_eq_getElem hj]
  rfl
theorem WRaw_n (g : Nat) (v : Value) (xs ys : List UInt8) (A : Option Addr) (c N : Nat) (w : World) (hN : ys.length = N) (h : Wr w g v xs) (hy : Lies w A (bytesV ys)) (hb : xs.length + ys.length ≤ 140737488355328) :
    Calls Try.prog 53 #[.pointer (some ⟨g, 0, none⟩), .slice A N c] w (WPost w g v (xs ++ ys)) := by
  subst hN
  exact WRaw_any g v xs ys A c w h hy hb
theorem WSt.after {w w1 w2 : World} {g : Nat} {v v2 : Value} (h : Below w.heap.size w w1) (k : WSt w1 g v w2 v2) : WSt w g v w2 v2 :=
  ⟨(Fr.of_below h).trans k.fr (fun _ _ e => e), k.own.imp id fun ⟨b, hb, hl⟩ => ⟨b, hb, Nat.le_trans h.size hl⟩⟩
end Go.Proofs.Ythjfkeploofblaa
/- What is proved: what the document's own answers Big, Var and Text make (the law's side): the bytes of a number, and of a text. Conditions: numbers below 2^64, texts below 2^47 bytes. -/
namespace Go.Proofs.Ythjfkeploofblaa
open Go.RowKit
set_option linter.unusedVariables false
theorem src_one (w : World) (c : Int) : Src Try.prog 1 26 (.slice (some ⟨w.heap.size, 0, none⟩) 1 1) 1 [.int .u8 c] (w.alloc (.cells #[.int .u8 c] 5)) :=
  Src.ofSlice _ Try.underlying26 ⟨w.heap.size, 0, none⟩ 1 1 [.int .u8 c] rfl (by intro j u hj; match j, hj with | 0, hj => simp at hj; subst hj; simp [Addr.add]) (by intro u hu; simp at hu; subst hu; rfl)
theorem below_append {w wr w1 : World} {o : Obj} {v : Value} {e : TypeId} {size n : Nat} {xs : List Value} (hb : Below w.heap.size w wr) (hown : wr.ownsRow w.heap.size e size v n xs) (hg : (wr.alloc o).grownBy w1 v.ownBlock) : Below w.heap.size w w1 :=
  (hb.alloc hb.size o).grown hg (by have := hb.size; simp; omega) (fun k hk => (World.ownsRow.lt hown k hk).1)
set_option maxHeartbeats 1600000 in
theorem refVar_any (n : Int) (w : World) (h0 : 0 ≤ n) (h1 : n < 18446744073709551616) : Calls Try.prog 31 #[.int .u64 n] w (OwnPost w (varB n.toNat)) := by
  obtain ⟨i0, hi, hz0, hz1, hz2⟩ := info_parts info_u8
  go_enter Try.func31, Try.ntmps31
  go_wp2_with fail
  go_loopw [0, 3] (fun i v wr => ∃ (m : Int) (f : Nat) (ys : List UInt8), i = .int .u64 m ∧ 0 ≤ m ∧ m < 18446744073709551616 ∧ (ys.length + f = 9 ∧ m.toNat < 128 ^ (f + 1) ∧ ys ++ varF f m.toNat = varB n.toNat) ∧ wr.ownsRow w.heap.size 5 1 v ys.length (bytesV ys) ∧ Below w.heap.size w wr) (fun i _ _ => (intOf i).toNat)
  case atStart => exact ⟨n, 9, [], rfl, h0, h1, ⟨rfl, by omega, rfl⟩, World.ownsRow_nil _ _ _ _, Below.refl _ _⟩
  case round =>
    obtain ⟨m, f, ys, rfl, hm0, hm1, hf, hown, hbl⟩ := hrel
    have HF := Lib.hid hf
    have hyl : ys.length ≤ 9 := by omega
    clear hf
    have hbs := hbl.size
    have HO := Lib.hid hown
    have HB := Lib.hid hbl
    obtain ⟨A0, c0, hv0, -, -⟩ := own_slice hown
    subst hv0
    clear hown hbl
    by_cases hlt : 128 ≤ m
    · go_wp2_with (at_builtin; refine wpList_append_row _ rfl (.tmp 6) (.tmp 11) 26 26 rfl w.heap.size 5 i0 (.int .u8 0) 1 1 Try.underlying26 hi hz0 hz1 hz2 rfl _ ys.length (bytesV ys) rfl (HO.out.alloc _) _ 1 [.int .u8 (m % 128 + 128)] rfl (src_one wr _) (by unfold maxLen; omega) (by omega) (by simp; omega) ?_)
      intro v1 w1 hown1 hg1 hat1
      have hB1 := below_append HB.out HO.out hg1
      obtain ⟨f1, f2, f3⟩ := HF.out
      have hf0 : f ≠ 0 := by rintro rfl; omega
      obtain ⟨f', rfl⟩ := Nat.exists_eq_succ_of_ne_zero hf0
      have e1 : (m / 128).toNat = m.toNat / 128 := by omega
      have e2 : toB (m % 128 + 128) = UInt8.ofNat (m.toNat % 128 + 128) := by unfold toB; congr 1; omega
      have hP : (ys ++ [toB (m % 128 + 128)]).length + f' = 9 ∧ (m / 128).toNat < 128 ^ (f' + 1) ∧ (ys ++ [toB (m % 128 + 128)]) ++ varF f' (m / 128).toNat = varB n.toNat := by
        refine ⟨by simp; omega, by rw [e1]; exact pow128 _ _ f2, ?_⟩
        rw [← f3, e1, e2, List.append_assoc]
        congr 1
        simp only [varF]
        rw [if_neg (by omega)]
        rfl
      have hO1 : w1.ownsRow w.heap.size 5 1 v1 (ys ++ [toB (m % 128 + 128)]).length (bytesV (ys ++ [toB (m % 128 + 128)])) := by
        rw [List.length_append, bytesV_append]
        have : bytesV [toB (m % 128 + 128)] = [.int .u8 (m % 128 + 128)] := by show [byteV (toB (m % 128 + 128))] = _; rw [byteV_toB (by omega) (by omega)]
        rw [this]
        exact hown1
      have HP := Lib.hid hP
      have HO1 := Lib.hid hO1
      clear hP e1 e2 f1 f2 f3 hO1 hown1 hat1 hg1
      go_wp2_with fail
      go_roundw
      case rel => exact ⟨m / 128, f', ys ++ [toB (m % 128 + 128)], rfl, by omega, by omega, HP.out, HO1.out, hB1⟩
      case measure => simp [intOf]; omega
    · go_wp2_with (at_builtin; refine wpList_append_row _ rfl (.tmp 15) (.tmp 18) 26 26 rfl w.heap.size 5 i0 (.int .u8 0) 1 1 Try.underlying26 hi hz0 hz1 hz2 rfl _ ys.length (bytesV ys) rfl (HO.out.alloc _) _ 1 [.int .u8 m] rfl (src_one wr _) (by unfold maxLen; omega) (by omega) (by simp; omega) ?_)
      intro v1 w1 hown1 hg1 hat1
      have hB1 := below_append HB.out HO.out hg1
      obtain ⟨f1, f2, f3⟩ := HF.out
      have hO1 : w1.ownsRow w.heap.size 5 1 v1 (varB n.toNat).length (bytesV (varB n.toNat)) := by
        rw [← f3, varF_small _ _ (by omega), List.length_append, bytesV_append]
        have : bytesV [UInt8.ofNat m.toNat] = [.int .u8 m] := by show [byteV (toB m)] = _; rw [byteV_toB (by omega) (by omega)]
        rw [this]
        exact hown1
      have HO1 := Lib.hid hO1
      clear f1 f2 f3 hO1 hown1 hat1 hg1
      go_wp2_with fail
      go_ret
      exact ⟨v1, rfl, HO1.out, hB1⟩
set_option maxHeartbeats 1600000 in
theorem refText_any (s : ByteArray) (w : World) (hs : s.size ≤ 140000000000000) : Calls Try.prog 32 #[.string s] w (OwnPost w (textB s.data.toList)) := by
  obtain ⟨i0, hi, hz0, hz1, hz2⟩ := info_parts info_u8
  have hsl : s.data.toList.length = s.size := by rw [Array.length_toList]; rfl
  have HSL := Lib.hid hsl
  clear hsl
  go_enter Try.func32, Try.ntmps32
  have hvl := varB_length s.size
  go_wp2_with (first
    | (go_at_call 31; refine (refVar_any _ _ (by omega) (by omega)).mono ?_; rintro e w1 ⟨v1, rfl, o1, b1⟩; rw [Int.toNat_natCast] at o1; obtain ⟨A1, c1, hv1, -, -⟩ := own_slice o1; subst hv1; obtain ⟨A, c, W, hconv, hlies, hbW⟩ := conv_bytes w1 s; have hsrc := hlies.src Try.underlying26 (bytesV_one _) c; rw [bytesV_length, HSL.out] at hsrc; have HSR := Lib.hid hsrc; have O1 := Lib.hid (own_fr o1 (Fr.of_below (S := fun _ => False) hbW) (fun _ _ e => e)); have B1 := Lib.hid (Fr.then_below (Fr.of_below (S := fun _ => False) b1) hbW); have hbs := b1.size; have hbt := hbW.size; clear hlies hbW o1 b1 hsrc)
    | (at_builtin; refine wpList_append_row _ rfl (.tmp 6) (.tmp 8) 26 26 rfl w.heap.size 5 i0 (.int .u8 0) 1 1 Try.underlying26 hi hz0 hz1 hz2 rfl _ (varB s.size).length (bytesV (varB s.size)) rfl O1.out _ s.size (bytesV s.data.toList) rfl HSR.out (by unfold maxLen; omega) (by omega) (by omega) ?_))
  intro v2 w2 o2 g2 at2
  have hB2 := (B1.out.below (fun _ _ e => e)).grown g2 (by omega) (fun k hk => (World.ownsRow.lt O1.out k hk).1)
  have hO2 : w2.ownsRow w.heap.size 5 1 v2 (textB s.data.toList).length (bytesV (textB s.data.toList)) := by
    unfold textB
    rw [List.length_append, bytesV_append, HSL.out]
    exact o2
  have HO2 := Lib.hid hO2
  clear o2 g2 at2 hO2
  go_wp2_with fail
  go_ret
  exact ⟨v2, rfl, HO2.out, hB2⟩
end Go.Proofs.Ythjfkeploofblaa

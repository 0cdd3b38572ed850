/- What is proved: what the walks of this seat need of layers below, merged out of the texts Rta Rtb Rtc Trn (of each just what is needed). Conditions: each theorem names its own. -/
import Derived.WalkKit
import Derived.Test.YtinjednmamkjgaaRows
import Derived.Lib.Strings
import Derived.Lib.Walk
import Derived.Lib.IndexLaws
import Derived.Deep.DeepFit
import Derived.WalkSpells
import Derived.WalkLawsBesides
import Derived.Laws.IdiomStrings
import Derived.Laws.DeepStrings4
import Derived.Laws.Concat
import Derived.Laws.OwnMore
import Derived.Test.YtinjednmamkjgaaBas
/- What is proved: plain facts on names, paths, patterns, and what follows from them. Conditions: none; no program is named. -/
namespace Go.Proofs.Ytinjednmamkjgaa
set_option linter.unusedVariables false
def visB (l : List UInt8) : Bool := l.all fun b => decide (33 ≤ (b.toNat : Int)) && decide ((b.toNat : Int) ≤ 126)
def nameB (l : List UInt8) : Bool := decide (1 ≤ l.length) && decide (l.length ≤ 32) && visB l && !l.contains 47 && !(l == [46]) && !(l == [46, 46])
end Go.Proofs.Ytinjednmamkjgaa
/- What is proved: whether a text's bytes can be seen, by the program and by the document; where a byte stands. Conditions: none. -/
namespace Go.Proofs.Ytinjednmamkjgaa
open Go.RowKit
set_option linter.unusedVariables false
/-- Bytes as a string's bytes. -/
def strB (xs : List UInt8) : ByteArray := ⟨xs.toArray⟩
theorem strB_list (xs : List UInt8) : (strB xs).toList = xs := ByteArray.toList_mk xs
theorem strB_data (xs : List UInt8) : (strB xs).data.toList = xs := by simp [strB]
theorem strB_size (xs : List UInt8) : (strB xs).size = xs.length := by simp [strB, ByteArray.size]
theorem strB_of (s : ByteArray) : strB s.data.toList = s := by simp [strB]
theorem strB_append (xs ys : List UInt8) : strB xs ++ strB ys = strB (xs ++ ys) := by
  apply ByteArray.ext
  simp [strB, ByteArray.data_append]
theorem str_eq (xs ys : List UInt8) : ((strB xs).toList == (strB ys).toList) = (xs == ys) := by rw [strB_list, strB_list]
section
variable {P : Program} (w : World) {t : TypeId} (h : P.underlying t = some .string) (l : List UInt8)
include h
theorem index_str (k : Nat) (hk : k < l.length) : (Instr.index t (.string (strB l)) (.int .i64 k)).run P w = .ok (.int .u8 ((l.getD k 0).toNat : Nat)) w := by
  rw [run_index_string w t _ .i64 (k : Int) h, dif_pos ⟨by omega, by rw [strB_size]; omega⟩]
  congr 3
  simp only [Int.toNat_natCast]
  rw [List.getD_eq_getElem?_getD, List.getElem?_eq_getElem hk]
  simp [strB]
  rfl
end
/-- As far as here, all bytes can be seen. -/
theorem vis_all {l : List UInt8} (h : ∀ j, j < l.length → 33 ≤ ((l.getD j 0).toNat : Int) ∧ ((l.getD j 0).toNat : Int) ≤ 126) : visB l = true := by
  simp only [visB, List.all_eq_true, Bool.and_eq_true, decide_eq_true_eq]
  intro b hb
  obtain ⟨j, hj, rfl⟩ := List.getElem_of_mem hb
  have := h j hj
  rwa [List.getD_eq_getElem?_getD, List.getElem?_eq_getElem hj, Option.getD_some] at this
theorem vis_not {l : List UInt8} {j : Nat} (hj : j < l.length) (h : ¬ (33 ≤ ((l.getD j 0).toNat : Int) ∧ ((l.getD j 0).toNat : Int) ≤ 126)) : visB l = false := by
  rw [← Bool.not_eq_true]
  intro hv
  simp only [visB, List.all_eq_true, Bool.and_eq_true, decide_eq_true_eq] at hv
  apply h
  rw [List.getD_eq_getElem?_getD, List.getElem?_eq_getElem hj, Option.getD_some]
  exact hv _ (List.getElem_mem hj)
set_option maxHeartbeats 1000000 in
theorem Rtvisible_any (l : List UInt8) (hl : l.length ≤ 9223372036854775806) (w : World) : Calls Try.prog 23 #[.string (strB l)] w fun e w' => e = .returned (.bool (visB l)) ∧ w = w' := by
  have hix := fun k hk w => index_str (P := Try.prog) w Try.underlying9 l k hk
  have HIX := Lib.hid hix
  have HN := Lib.hid (fun j hj h => vis_not (l := l) (j := j) hj h)
  have HA := Lib.hid (fun h => vis_all (l := l) h)
  have hsz := strB_size l
  obtain ⟨S, hS⟩ : ∃ S, strB l = S := ⟨_, rfl⟩
  obtain ⟨n, hn⟩ : ∃ n, l.length = n := ⟨_, rfl⟩
  rw [hS] at hix hsz ⊢
  rw [hS] at HIX
  rw [hn] at hsz hl HIX HN HA
  clear hix hS
  go_enter Try.func23, Try.ntmps23
  go_wp2
  go_loopw [6] (fun i wr => ∃ k : Nat, k ≤ n ∧ i = .int .i64 k ∧ Hid (∀ j, j < k → 33 ≤ ((l.getD j 0).toNat : Int) ∧ ((l.getD j 0).toNat : Int) ≤ 126) ∧ wr = w) (fun i _ => n - (intOf i).toNat)
  case atStart => exact ⟨0, by omega, rfl, Lib.hid (fun j hj => by omega), rfl⟩
  case round =>
    obtain ⟨k, hk, rfl, hz, rfl⟩ := hrel
    by_cases hlt : k < n
    · have hixk := fun w => HIX.out k hlt w
      obtain ⟨c, hc⟩ : ∃ c : Int, ((l.getD k 0).toNat : Int) = c := ⟨_, rfl⟩
      rw [hc] at hixk
      have HC := Lib.hid hc
      clear hc
      go_wp2_with fail
      · go_ret
        exact ⟨by rw [HN.out k hlt (by rw [HC.out]; omega)]; rfl, rfl⟩
      · go_roundw
        case rel => exact ⟨k + 1, by omega, by go_num, Lib.hid (fun j hj => (by omega : j < k ∨ j = k).elim (hz.out j) (fun e => by rw [e, HC.out]; omega)), trivial⟩
        case measure => simp [intOf]; omega
      · go_ret
        exact ⟨by rw [HN.out k hlt (by rw [HC.out]; omega)]; rfl, rfl⟩
    · obtain rfl : k = n := by omega
      go_wp2_with fail
      go_ret
      exact ⟨by rw [HA.out hz.out]; rfl, rfl⟩
/-! Where a byte stands. -/
set_option maxHeartbeats 1000000 in
set_option maxRecDepth 100000 in
theorem GsIndexByte_any (s : ByteArray) (c : Int) (w : World) :
    Calls Try.prog 36 #[.string s, .int .u8 c] w fun e w' => e = .returned (.int .i64 (Lib.indexByte s.data.toList c.toNat.toUInt8)) ∧ w = w' := by
  go_enter Try.func36, Try.ntmps36
  go_wp2
  rw [run_callFunc_extern Try.func41 (by kernel_rfl) (by kernel_rfl) (by kernel_rfl) (e := Extern.BytealgIndexByte.indexByte) (by kernel_rfl), Lib.run_indexByteString]
  simp only [Result.andThen]
  rw [Oper.upon_value]
  go_wp2
  go_ret
  exact ⟨rfl, rfl⟩
/-- Where the first stroke stands. -/
def idx47 (l : List UInt8) : Int := Lib.indexByte l 47
set_option maxHeartbeats 1000000 in
set_option maxRecDepth 100000 in
theorem GsIndex_any (l : List UInt8) (w : World) :
    Calls Try.prog 34 #[.string (strB l), .string (strB [47])] w fun e w' => e = .returned (.int .i64 (idx47 l)) ∧ w = w' := by
  have hc := fun w => GsIndexByte_any (strB l) 47 w
  rw [strB_data] at hc
  have hsz : (strB [47]).size = 1 := rfl
  have hix : ∀ w, (Instr.index 9 (.string (strB [47])) (.int .i64 0)).run Try.prog w = .ok (.int .u8 47) w := fun w => index_str (P := Try.prog) w Try.underlying9 [47] 0 (by decide)
  have e1 : ((strB [47]).toList == (strB l).toList) = ([47] == l) := str_eq _ _
  have H0 : Hid (([47] == l) = true → idx47 l = 0) := Lib.hid (fun h => by rw [← eq_of_beq h]; rfl)
  obtain ⟨S, hS⟩ : ∃ S, strB [47] = S := ⟨_, rfl⟩
  obtain ⟨T, hT⟩ : ∃ S, strB l = S := ⟨_, rfl⟩
  rw [hS] at hix hsz e1 ⊢
  rw [hT] at hc e1 ⊢
  have hr : idx47 l = Lib.indexByte l (Int.toNat 47).toUInt8 := rfl
  rw [← hr] at hc
  obtain ⟨r, hr'⟩ : ∃ r, idx47 l = r := ⟨_, rfl⟩
  rw [hr'] at hc H0 ⊢
  obtain ⟨b, hb⟩ : ∃ b, ([47] == l) = b := ⟨_, rfl⟩
  rw [hb] at e1 H0
  clear hr hr' hS hT hb
  cases b
  · go_enter Try.func34, Try.ntmps34
    go_wp2_with (go_at_call 36; refine (hc _).mono ?_; rintro e w' ⟨rfl, rfl⟩)
    go_ret
    exact ⟨rfl, rfl⟩
  · rw [H0.out rfl]
    go_enter Try.func34, Try.ntmps34
    go_wp2
    go_ret
    exact ⟨rfl, rfl⟩
set_option maxHeartbeats 1000000 in
theorem GIndex_any (l : List UInt8) (w : World) :
    Calls Try.prog 29 #[.string (strB l), .string (strB [47])] w fun e w' => e = .returned (.int .i64 (idx47 l)) ∧ w = w' := by
  go_enter Try.func29, Try.ntmps29
  go_wp2_with (go_at_call 34; refine (GsIndex_any _ _).mono ?_; rintro e w' ⟨rfl, rfl⟩)
  go_ret
  exact ⟨rfl, rfl⟩
theorem idx_cases (l : List UInt8) : (idx47 l = -1 ∧ ∀ b ∈ l, b ≠ 47) ∨ ∃ m : Nat, idx47 l = m ∧ m < l.length ∧ l = l.take m ++ 47 :: l.drop (m + 1) ∧ ∀ b ∈ l.take m, b ≠ 47 := by
  have hge := Lib.indexByte_ge l 47
  by_cases h : idx47 l = -1
  · left
    refine ⟨h, fun b hb e => ?_⟩
    obtain ⟨j, hj, rfl⟩ := List.getElem_of_mem hb
    exact Lib.indexByte_none h j (by rw [List.getElem?_eq_getElem hj, e])
  · right
    have hge' : -1 ≤ idx47 l := hge
    obtain ⟨m, hm⟩ : ∃ m : Nat, idx47 l = m := ⟨(idx47 l).toNat, by omega⟩
    obtain ⟨h1, h2⟩ := Lib.indexByte_some (show Lib.indexByte l 47 = (m : Nat) from hm)
    obtain ⟨hml, h3⟩ := List.getElem?_eq_some_iff.1 h1
    refine ⟨m, hm, hml, ?_, fun b hb e => ?_⟩
    · conv => lhs; rw [← List.take_append_drop m l, List.drop_eq_getElem_cons hml, h3]
    · obtain ⟨j, hj, rfl⟩ := List.getElem_of_mem hb
      rw [List.length_take] at hj
      exact h2 j (by omega) (by rw [List.getElem?_eq_getElem (by omega)]; rw [List.getElem_take] at e; rw [e])
set_option maxHeartbeats 1000000 in
theorem GContains_any (l : List UInt8) (w : World) :
    Calls Try.prog 24 #[.string (strB l), .string (strB [47])] w fun e w' => e = .returned (.bool (l.contains 47)) ∧ w = w' := by
  have hc := fun w => GIndex_any l w
  have hr : decide (0 ≤ idx47 l) = l.contains 47 := by
    rw [Bool.eq_iff_iff, decide_eq_true_eq, List.contains_iff_mem]
    rcases idx_cases l with ⟨h1, h2⟩ | ⟨m, h1, h2, h3, _⟩
    · rw [h1]
      exact ⟨fun h => by omega, fun h => absurd rfl (h2 47 h)⟩
    · rw [h1]
      exact ⟨fun _ => by rw [h3]; simp, fun _ => by omega⟩
  rw [← hr]
  obtain ⟨r, hr'⟩ : ∃ r, idx47 l = r := ⟨_, rfl⟩
  rw [hr'] at hc ⊢
  clear hr hr'
  go_enter Try.func24, Try.ntmps24
  go_wp2_with (go_at_call 29; refine (hc _).mono ?_; rintro e w' ⟨rfl, rfl⟩)
  go_ret
  exact ⟨rfl, rfl⟩
end Go.Proofs.Ytinjednmamkjgaa
/- What is proved: names, by the program and by the document. Conditions: the text is not too long for any machine. -/
namespace Go.Proofs.Ytinjednmamkjgaa
open Go.RowKit
set_option linter.unusedVariables false
theorem name_eq (l : List UInt8) (n : Nat) (hn : l.length = n) : nameB l = (decide (1 ≤ n) && decide (n ≤ 32) && visB l && !l.contains 47 && !(l == [46]) && !(l == [46, 46])) := by rw [nameB, hn]
set_option maxHeartbeats 1000000 in
set_option maxRecDepth 100000 in
theorem RtName_any (l : List UInt8) (hl : l.length ≤ 9223372036854775806) (w : World) : Calls Try.prog 15 #[.string (strB l)] w fun e w' => e = .returned (.bool (nameB l)) ∧ w = w' := by
  have c1 := Lib.hid (fun w => Rtvisible_any l hl w)
  have c2 : Hid (∀ w, Calls Try.prog 24 #[.string (strB l), .string (ByteArray.mk #[47])] w fun e w' => e = .returned (.bool (l.contains 47)) ∧ w = w') := Lib.hid (fun w => GContains_any l w)
  have hsz := strB_size l
  have hL := strB_list l
  obtain ⟨S, hS⟩ : ∃ S, strB l = S := ⟨_, rfl⟩
  obtain ⟨n, hn⟩ : ∃ n, l.length = n := ⟨_, rfl⟩
  rw [hS] at hsz hL c1 c2 ⊢
  rw [hn] at hsz hl
  have HE := Lib.hid (name_eq l n hn)
  obtain ⟨r, hr⟩ : ∃ r, nameB l = r := ⟨_, rfl⟩
  rw [hr] at HE ⊢
  obtain ⟨b4, hb4⟩ : ∃ b, visB l = b := ⟨_, rfl⟩
  obtain ⟨b5, hb5⟩ : ∃ b, l.contains 47 = b := ⟨_, rfl⟩
  rw [hb4] at c1 HE
  rw [hb5] at c2 HE
  have h0 : l ≠ [] → 1 ≤ n := fun h => by rw [← hn]; exact List.length_pos_iff.2 h
  have H0 := Lib.hid h0
  have H1 : Hid (l = [] → n = 0) := Lib.hid (fun h => by rw [← hn, h]; rfl)
  clear hb4 hb5 hn hS hr h0
  go_enter Try.func15, Try.ntmps15
  by_cases hlen : n ≤ 32
  · by_cases h1 : l = [46]
    · go_wp2
      go_ret
      exact ⟨by rw [HE.out, h1]; simp, rfl⟩
    · have e1 : (l == [46]) = false := by simpa using h1
      by_cases h2 : l = [46, 46]
      · go_wp2
        go_ret
        exact ⟨by rw [HE.out, h2]; simp, rfl⟩
      · have e2 : (l == [46, 46]) = false := by simpa using h2
        by_cases h3 : l = []
        · have h4 := H1.out h3
          go_wp2
          go_ret
          exact ⟨by rw [HE.out, h4]; rfl, rfl⟩
        · have h4 := H0.out h3
          have e3 : l.isEmpty = false := by simpa using h3
          cases b4
          · go_wp2_with (go_at_call 23; refine (c1.out _).mono ?_; rintro e w' ⟨rfl, rfl⟩)
            go_ret
            exact ⟨by rw [HE.out]; simp, rfl⟩
          · go_wp2_with (first
              | (go_at_call 23; refine (c1.out _).mono ?_; rintro e w' ⟨rfl, rfl⟩)
              | (go_at_call 24; refine (c2.out _).mono ?_; rintro e w' ⟨rfl, rfl⟩))
            go_ret
            refine ⟨?_, rfl⟩
            rw [HE.out]
            rw [e1, e2, decide_eq_true h4, decide_eq_true hlen]
            simp
  · go_wp2
    go_ret
    exact ⟨by rw [HE.out]; simp [hlen]; try rfl, rfl⟩
theorem add_str {P : Program} (a b : List UInt8) (h : a.length + b.length ≤ 9223372036854775807) (w : World) : (Op.stringOp .add (strB a) (strB b)).run P w = .ok (.string (strB (a ++ b))) w := by
  rw [← strB_append]
  exact run_string_add_sum w _ _ (by rw [strB_size, strB_size]; exact h)
theorem join_one {P : Program} (a : List UInt8) (h : a.length + 1 ≤ 9223372036854775807) (w : World) : (Op.stringOp .add (strB a) (ByteArray.mk #[47])).run P w = .ok (.string (strB (a ++ [47]))) w := add_str a [47] h w
theorem info_parts {P : Program} {t : TypeId} {z : Value} {s b : Nat} (h : (P.info? t).map (fun i => (i.zero, i.size, i.bytes)) = some (some z, s, b)) : ∃ i, P.info? t = some i ∧ i.zero = some z ∧ i.size = s ∧ i.bytes = b := by
  cases hq : P.info? t with
  | none => simp [hq] at h
  | some i =>
    simp [hq] at h
    exact ⟨i, rfl, h.1, h.2.1, h.2.2⟩
/-- One cell that the call has just laid, as a source. -/
theorem src_one {tx e' : TypeId} (hk : Try.prog.underlying tx = some (.slice e')) (w : World) (c : Value) (hc : c.oneCell' = true) : Src Try.prog 1 tx (.slice (some ⟨w.heap.size, 0, none⟩) 1 1) 1 [c] (w.alloc (.cells #[c] e')) :=
  Src.ofSlice _ hk ⟨w.heap.size, 0, none⟩ 1 1 [c] rfl (by intro j u hj; match j, hj with | 0, hj => simp at hj; subst hj; simp [Addr.add]) (by intro u hu; simp at hu; subst hu; exact hc)
theorem fr_append {w0 w w' : World} {v : Value} {n : Nat} {xs : List Value} {e : TypeId} {size : Nat} (h : w.ownsRow w0.heap.size e size v n xs) (f : Fr (fun _ => False) w0 w) (hg : w.grownBy w' v.ownBlock) : Fr (fun _ => False) w0 w' :=
  f.grown hg (fun k hk hlt => absurd hlt (by have := (World.ownsRow.lt h k hk).1; omega))
end Go.Proofs.Ytinjednmamkjgaa

/- What is proved: what the walks of this seat need of layers below, merged out of the texts Rta Rtb Rtc Trn (of each just what is needed). Conditions: each theorem names its own. -/
import Derived.WalkKit
import Derived.Test.YtddckehejdpjcabGreatDoorRows
import Derived.Lib.Strings
import Derived.Lib.Walk
import Derived.Lib.IndexLaws
import Derived.Deep.DeepFit
import Derived.WalkSpells
import Derived.WalkLawsBesides
import Derived.Laws.IdiomStrings
import Derived.Laws.DeepStrings4
import Derived.Laws.Concat
import Derived.Laws.OwnMore
import Derived.Test.YtddckehejdpjcabGreatDoorBas
/- What is proved: plain facts on texts in parts, and on patterns that stand for lists. Conditions: none; no program is named. -/
namespace Go.Proofs.YtddckehejdpjcabGreatDoor
set_option linter.unusedVariables false
/-- What stands between strokes. -/
def spl : List UInt8 → List (List UInt8)
  | [] => [[]]
  | b :: r => if b = 47 then [] :: spl r else match spl r with | [] => [[b]] | h :: t => (b :: h) :: t
theorem spl_ne (l : List UInt8) : spl l ≠ [] := by
  cases l with
  | nil => simp [spl]
  | cons b r => simp only [spl]; split; · simp
                · split <;> simp
theorem spl_stroke (a r : List UInt8) : spl (a ++ 47 :: r) = spl a ++ spl r := by
  induction a with
  | nil => simp [spl]
  | cons b a ih =>
    simp only [List.cons_append, spl]
    split
    · rw [ih]; rfl
    · rw [ih]
      cases h : spl a with
      | nil => exact absurd h (spl_ne a)
      | cons x t => simp
theorem spl_snoc (l : List UInt8) (b : UInt8) (hb : b ≠ 47) : ∀ acc now, spl l = acc ++ [now] → spl (l ++ [b]) = acc ++ [now ++ [b]] := by
  induction l with
  | nil =>
    intro acc now h
    simp only [spl] at h
    cases acc with
    | nil => simp at h; subst h; simp [spl, hb]
    | cons x t => simp at h
  | cons c r ih =>
    intro acc now h
    simp only [List.cons_append, spl] at h ⊢
    split at h
    · rename_i hc
      rw [if_pos hc]
      cases acc with
      | nil => simp at h; exact absurd h.2 (spl_ne r)
      | cons x t =>
        simp at h
        rw [ih t now h.2, ← h.1]; rfl
    · rename_i hc
      rw [if_neg hc]
      cases hs : spl r with
      | nil => exact absurd hs (spl_ne r)
      | cons y t =>
        rw [hs] at h
        simp only at h
        cases acc with
        | nil =>
          simp at h
          obtain ⟨h1, h2⟩ := h
          subst h2
          rw [ih [] y (by rw [hs]; rfl)]
          simp [← h1]
        | cons x t' =>
          simp at h
          obtain ⟨h1, h2⟩ := h
          rw [ih (y :: t') now (by rw [hs, h2]; rfl)]
          simp [h1]
theorem spl_snoc47 (l : List UInt8) : spl (l ++ [47]) = spl l ++ [[]] := by rw [spl_stroke]; rfl
theorem spl_count (l : List UInt8) : (spl l).length = l.count 47 + 1 := by
  induction l with
  | nil => rfl
  | cons b r ih =>
    simp only [spl, List.count_cons]
    split
    · rename_i h; subst h; simp [ih]
    · rename_i h
      have : (b == 47) = false := by simpa using h
      rw [this]
      cases hs : spl r with
      | nil => exact absurd hs (spl_ne r)
      | cons x t => rw [hs] at ih; simpa using ih
theorem spl_len_le (l : List UInt8) : ∀ p ∈ spl l, p.length ≤ l.length := by
  induction l with
  | nil => intro p hp; simp [spl] at hp; subst hp; simp
  | cons c r ih =>
    intro p hp
    simp only [spl] at hp
    split at hp
    · rcases List.mem_cons.1 hp with rfl | hp
      · simp
      · have := ih p hp; simp; omega
    · cases hs : spl r with
      | nil => exact absurd hs (spl_ne r)
      | cons x t =>
        rw [hs] at hp ih
        rcases List.mem_cons.1 hp with rfl | hp
        · have := ih x (by simp); simp; omega
        · have := ih p (by simp [hp]); simp; omega
/-- A text's parts. -/
def prt (l : List UInt8) : List (List UInt8) := if l = [] then [] else spl l
theorem prt_of {l : List UInt8} (h : l ≠ []) : prt l = spl l := if_neg h
section
variable {α β : Type} {st : α → Bool} {on : α → β → Bool}
end
end Go.Proofs.YtddckehejdpjcabGreatDoor
/- What is proved: plain facts on names, paths, patterns, and what follows from them. Conditions: none; no program is named. -/
namespace Go.Proofs.YtddckehejdpjcabGreatDoor
set_option linter.unusedVariables false
def visB (l : List UInt8) : Bool := l.all fun b => decide (33 ≤ (b.toNat : Int)) && decide ((b.toNat : Int) ≤ 126)
def nameB (l : List UInt8) : Bool := decide (1 ≤ l.length) && decide (l.length ≤ 32) && visB l && !l.contains 47 && !(l == [46]) && !(l == [46, 46])
end Go.Proofs.YtddckehejdpjcabGreatDoor
/- What is proved: whether a text's bytes can be seen, by the program and by the document; where a byte stands. Conditions: none. -/
namespace Go.Proofs.YtddckehejdpjcabGreatDoor
open Go.RowKit
set_option linter.unusedVariables false
/-- Bytes as a string's bytes. -/
def strB (xs : List UInt8) : ByteArray := ⟨xs.toArray⟩
theorem strB_list (xs : List UInt8) : (strB xs).toList = xs := ByteArray.toList_mk xs
theorem strB_data (xs : List UInt8) : (strB xs).data.toList = xs := by simp [strB]
theorem strB_size (xs : List UInt8) : (strB xs).size = xs.length := by simp [strB, ByteArray.size]
theorem strB_append (xs ys : List UInt8) : strB xs ++ strB ys = strB (xs ++ ys) := by
  apply ByteArray.ext
  simp [strB, ByteArray.data_append]
theorem strB_extract (xs : List UInt8) (a b : Nat) : (strB xs).extract a b = strB ((xs.take b).drop a) := by
  apply ByteArray.ext
  apply Array.toList_inj.1
  simp [strB, ByteArray.data_extract, List.extract, List.drop_take]
theorem str_eq (xs ys : List UInt8) : ((strB xs).toList == (strB ys).toList) = (xs == ys) := by rw [strB_list, strB_list]
section
variable {P : Program} (w : World) {t : TypeId} (h : P.underlying t = some .string) (l : List UInt8)
include h
theorem index_str (k : Nat) (hk : k < l.length) : (Instr.index t (.string (strB l)) (.int .i64 k)).run P w = .ok (.int .u8 ((l.getD k 0).toNat : Nat)) w := by
  rw [run_index_string w t _ .i64 (k : Int) h, dif_pos ⟨by omega, by rw [strB_size]; omega⟩]
  congr 3
  simp only [Int.toNat_natCast]
  rw [List.getD_eq_getElem?_getD, List.getElem?_eq_getElem hk]
  simp [strB]
  rfl
theorem slice_to (k : Nat) (hk : k ≤ l.length) : (Instr.slice t (.string (strB l)) none (some (.int .i64 k)) none).run P w = .ok (.string (strB (l.take k))) w := by
  rw [run_slice_string_to_if w t _ .i64 k h, if_pos ⟨by omega, by rw [strB_size]; omega⟩, strB_extract]
  simp
theorem slice_from (k : Nat) (hk : k ≤ l.length) : (Instr.slice t (.string (strB l)) (some (.int .i64 k)) none none).run P w = .ok (.string (strB (l.drop k))) w := by
  rw [run_slice_string_from_if w t _ .i64 k h, if_pos ⟨by omega, by rw [strB_size]; omega⟩, strB_extract, strB_size]
  simp
theorem slice_one (k : Nat) (hk : k < l.length) : (Instr.slice t (.string (strB l)) (some (.int .i64 k)) (some (.int .i64 (k + 1))) none).run P w = .ok (.string (strB [l.getD k 0])) w := by
  rw [run_slice_string_if w t _ .i64 .i64 k (k + 1) h, if_pos ⟨by omega, by rw [strB_size]; omega⟩, if_pos ⟨by omega, by omega⟩, strB_extract]
  congr 3
  rw [Int.toNat_natCast, show ((k : Int) + 1).toNat = k + 1 by omega, List.drop_take, List.drop_eq_getElem_cons hk, List.getD_eq_getElem?_getD, List.getElem?_eq_getElem hk, show k + 1 - k = 1 by omega]
  rw [List.take_succ_cons, List.take_zero, Option.getD_some]
end
/-- As far as here, all bytes can be seen. -/
theorem vis_all {l : List UInt8} (h : ∀ j, j < l.length → 33 ≤ ((l.getD j 0).toNat : Int) ∧ ((l.getD j 0).toNat : Int) ≤ 126) : visB l = true := by
  simp only [visB, List.all_eq_true, Bool.and_eq_true, decide_eq_true_eq]
  intro b hb
  obtain ⟨j, hj, rfl⟩ := List.getElem_of_mem hb
  have := h j hj
  rwa [List.getD_eq_getElem?_getD, List.getElem?_eq_getElem hj, Option.getD_some] at this
theorem vis_not {l : List UInt8} {j : Nat} (hj : j < l.length) (h : ¬ (33 ≤ ((l.getD j 0).toNat : Int) ∧ ((l.getD j 0).toNat : Int) ≤ 126)) : visB l = false := by
  rw [← Bool.not_eq_true]
  intro hv
  simp only [visB, List.all_eq_true, Bool.and_eq_true, decide_eq_true_eq] at hv
  apply h
  rw [List.getD_eq_getElem?_getD, List.getElem?_eq_getElem hj, Option.getD_some]
  exact hv _ (List.getElem_mem hj)
set_option maxHeartbeats 1000000 in
theorem Rtvisible_any (l : List UInt8) (hl : l.length ≤ 9223372036854775806) (w : World) : Calls Tryz.prog 61 #[.string (strB l)] w fun e w' => e = .returned (.bool (visB l)) ∧ w = w' := by
  have hix := fun k hk w => index_str (P := Tryz.prog) w Tryz.underlying9 l k hk
  have HIX := Lib.hid hix
  have HN := Lib.hid (fun j hj h => vis_not (l := l) (j := j) hj h)
  have HA := Lib.hid (fun h => vis_all (l := l) h)
  have hsz := strB_size l
  obtain ⟨S, hS⟩ : ∃ S, strB l = S := ⟨_, rfl⟩
  obtain ⟨n, hn⟩ : ∃ n, l.length = n := ⟨_, rfl⟩
  rw [hS] at hix hsz ⊢
  rw [hS] at HIX
  rw [hn] at hsz hl HIX HN HA
  clear hix hS
  go_enter Tryz.func61, Tryz.ntmps61
  go_wp2
  go_loopw [6] (fun i wr => ∃ k : Nat, k ≤ n ∧ i = .int .i64 k ∧ Hid (∀ j, j < k → 33 ≤ ((l.getD j 0).toNat : Int) ∧ ((l.getD j 0).toNat : Int) ≤ 126) ∧ wr = w) (fun i _ => n - (intOf i).toNat)
  case atStart => exact ⟨0, by omega, rfl, Lib.hid (fun j hj => by omega), rfl⟩
  case round =>
    obtain ⟨k, hk, rfl, hz, rfl⟩ := hrel
    by_cases hlt : k < n
    · have hixk := fun w => HIX.out k hlt w
      obtain ⟨c, hc⟩ : ∃ c : Int, ((l.getD k 0).toNat : Int) = c := ⟨_, rfl⟩
      rw [hc] at hixk
      have HC := Lib.hid hc
      clear hc
      go_wp2_with fail
      · go_ret
        exact ⟨by rw [HN.out k hlt (by rw [HC.out]; omega)]; rfl, rfl⟩
      · go_roundw
        case rel => exact ⟨k + 1, by omega, by go_num, Lib.hid (fun j hj => (by omega : j < k ∨ j = k).elim (hz.out j) (fun e => by rw [e, HC.out]; omega)), trivial⟩
        case measure => simp [intOf]; omega
      · go_ret
        exact ⟨by rw [HN.out k hlt (by rw [HC.out]; omega)]; rfl, rfl⟩
    · obtain rfl : k = n := by omega
      go_wp2_with fail
      go_ret
      exact ⟨by rw [HA.out hz.out]; rfl, rfl⟩
set_option maxHeartbeats 1000000 in
theorem Qrseen_any (l : List UInt8) (hl : l.length ≤ 9223372036854775806) (w : World) : Calls Tryz.prog 38 #[.string (strB l)] w fun e w' => e = .returned (.bool (visB l)) ∧ w = w' := by
  have HIX := Lib.hid (fun k hk w => index_str (P := Tryz.prog) w Tryz.underlying9 l k hk)
  have HN := Lib.hid (fun j hj h => vis_not (l := l) (j := j) hj h)
  have HA := Lib.hid (fun h => vis_all (l := l) h)
  have hsz := strB_size l
  obtain ⟨S, hS⟩ : ∃ S, strB l = S := ⟨_, rfl⟩
  obtain ⟨n, hn⟩ : ∃ n, l.length = n := ⟨_, rfl⟩
  rw [hS] at hsz ⊢
  rw [hS] at HIX
  rw [hn] at hsz hl HIX HN HA
  clear hS
  go_enter Tryz.func38, Tryz.ntmps38
  go_wp2
  go_loopw [3] (fun i wr => ∃ k : Nat, k ≤ n ∧ i = .int .i64 k ∧ Hid (∀ j, j < k → 33 ≤ ((l.getD j 0).toNat : Int) ∧ ((l.getD j 0).toNat : Int) ≤ 126) ∧ wr = w) (fun i _ => n - (intOf i).toNat)
  case atStart => exact ⟨0, by omega, rfl, Lib.hid (fun j hj => by omega), rfl⟩
  case round =>
    obtain ⟨k, hk, rfl, hz, rfl⟩ := hrel
    by_cases hlt : k < n
    · have hixk := fun w => HIX.out k hlt w
      obtain ⟨c, hc⟩ : ∃ c : Int, ((l.getD k 0).toNat : Int) = c := ⟨_, rfl⟩
      rw [hc] at hixk
      have HC := Lib.hid hc
      clear hc
      go_wp2_with fail
      · go_ret
        exact ⟨by rw [HN.out k hlt (by rw [HC.out]; omega)]; rfl, rfl⟩
      · go_roundw
        case rel => exact ⟨k + 1, by omega, by go_num, Lib.hid (fun j hj => (by omega : j < k ∨ j = k).elim (hz.out j) (fun e => by rw [e, HC.out]; omega)), trivial⟩
        case measure => simp [intOf]; omega
      · go_ret
        exact ⟨by rw [HN.out k hlt (by rw [HC.out]; omega)]; rfl, rfl⟩
    · obtain rfl : k = n := by omega
      go_wp2_with fail
      go_ret
      exact ⟨by rw [HA.out hz.out]; rfl, rfl⟩
/-! Where a byte stands. -/
set_option maxHeartbeats 1000000 in
set_option maxRecDepth 100000 in
theorem GsIndexByte_any (s : ByteArray) (c : Int) (w : World) :
    Calls Tryz.prog 103 #[.string s, .int .u8 c] w fun e w' => e = .returned (.int .i64 (Lib.indexByte s.data.toList c.toNat.toUInt8)) ∧ w = w' := by
  go_enter Tryz.func103, Tryz.ntmps103
  go_wp2
  rw [run_callFunc_extern Tryz.func109 (by kernel_rfl) (by kernel_rfl) (by kernel_rfl) (e := Extern.BytealgIndexByte.indexByte) (by kernel_rfl), Lib.run_indexByteString]
  simp only [Result.andThen]
  rw [Oper.upon_value]
  go_wp2
  go_ret
  exact ⟨rfl, rfl⟩
/-- Where the first stroke stands. -/
def idx47 (l : List UInt8) : Int := Lib.indexByte l 47
set_option maxHeartbeats 1000000 in
set_option maxRecDepth 100000 in
theorem GsIndex_any (l : List UInt8) (w : World) :
    Calls Tryz.prog 94 #[.string (strB l), .string (strB [47])] w fun e w' => e = .returned (.int .i64 (idx47 l)) ∧ w = w' := by
  have hc := fun w => GsIndexByte_any (strB l) 47 w
  rw [strB_data] at hc
  have hsz : (strB [47]).size = 1 := rfl
  have hix : ∀ w, (Instr.index 9 (.string (strB [47])) (.int .i64 0)).run Tryz.prog w = .ok (.int .u8 47) w := fun w => index_str (P := Tryz.prog) w Tryz.underlying9 [47] 0 (by decide)
  have e1 : ((strB [47]).toList == (strB l).toList) = ([47] == l) := str_eq _ _
  have H0 : Hid (([47] == l) = true → idx47 l = 0) := Lib.hid (fun h => by rw [← eq_of_beq h]; rfl)
  obtain ⟨S, hS⟩ : ∃ S, strB [47] = S := ⟨_, rfl⟩
  obtain ⟨T, hT⟩ : ∃ S, strB l = S := ⟨_, rfl⟩
  rw [hS] at hix hsz e1 ⊢
  rw [hT] at hc e1 ⊢
  have hr : idx47 l = Lib.indexByte l (Int.toNat 47).toUInt8 := rfl
  rw [← hr] at hc
  obtain ⟨r, hr'⟩ : ∃ r, idx47 l = r := ⟨_, rfl⟩
  rw [hr'] at hc H0 ⊢
  obtain ⟨b, hb⟩ : ∃ b, ([47] == l) = b := ⟨_, rfl⟩
  rw [hb] at e1 H0
  clear hr hr' hS hT hb
  cases b
  · go_enter Tryz.func94, Tryz.ntmps94
    go_wp2_with (go_at_call 103; refine (hc _).mono ?_; rintro e w' ⟨rfl, rfl⟩)
    go_ret
    exact ⟨rfl, rfl⟩
  · rw [H0.out rfl]
    go_enter Tryz.func94, Tryz.ntmps94
    go_wp2
    go_ret
    exact ⟨rfl, rfl⟩
set_option maxHeartbeats 1000000 in
theorem GIndex_any (l : List UInt8) (w : World) :
    Calls Tryz.prog 79 #[.string (strB l), .string (strB [47])] w fun e w' => e = .returned (.int .i64 (idx47 l)) ∧ w = w' := by
  go_enter Tryz.func79, Tryz.ntmps79
  go_wp2_with (go_at_call 94; refine (GsIndex_any _ _).mono ?_; rintro e w' ⟨rfl, rfl⟩)
  go_ret
  exact ⟨rfl, rfl⟩
theorem idx_cases (l : List UInt8) : (idx47 l = -1 ∧ ∀ b ∈ l, b ≠ 47) ∨ ∃ m : Nat, idx47 l = m ∧ m < l.length ∧ l = l.take m ++ 47 :: l.drop (m + 1) ∧ ∀ b ∈ l.take m, b ≠ 47 := by
  have hge := Lib.indexByte_ge l 47
  by_cases h : idx47 l = -1
  · left
    refine ⟨h, fun b hb e => ?_⟩
    obtain ⟨j, hj, rfl⟩ := List.getElem_of_mem hb
    exact Lib.indexByte_none h j (by rw [List.getElem?_eq_getElem hj, e])
  · right
    have hge' : -1 ≤ idx47 l := hge
    obtain ⟨m, hm⟩ : ∃ m : Nat, idx47 l = m := ⟨(idx47 l).toNat, by omega⟩
    obtain ⟨h1, h2⟩ := Lib.indexByte_some (show Lib.indexByte l 47 = (m : Nat) from hm)
    obtain ⟨hml, h3⟩ := List.getElem?_eq_some_iff.1 h1
    refine ⟨m, hm, hml, ?_, fun b hb e => ?_⟩
    · conv => lhs; rw [← List.take_append_drop m l, List.drop_eq_getElem_cons hml, h3]
    · obtain ⟨j, hj, rfl⟩ := List.getElem_of_mem hb
      rw [List.length_take] at hj
      exact h2 j (by omega) (by rw [List.getElem?_eq_getElem (by omega)]; rw [List.getElem_take] at e; rw [e])
set_option maxHeartbeats 1000000 in
theorem GContains_any (l : List UInt8) (w : World) :
    Calls Tryz.prog 62 #[.string (strB l), .string (strB [47])] w fun e w' => e = .returned (.bool (l.contains 47)) ∧ w = w' := by
  have hc := fun w => GIndex_any l w
  have hr : decide (0 ≤ idx47 l) = l.contains 47 := by
    rw [Bool.eq_iff_iff, decide_eq_true_eq, List.contains_iff_mem]
    rcases idx_cases l with ⟨h1, h2⟩ | ⟨m, h1, h2, h3, _⟩
    · rw [h1]
      exact ⟨fun h => by omega, fun h => absurd rfl (h2 47 h)⟩
    · rw [h1]
      exact ⟨fun _ => by rw [h3]; simp, fun _ => by omega⟩
  rw [← hr]
  obtain ⟨r, hr'⟩ : ∃ r, idx47 l = r := ⟨_, rfl⟩
  rw [hr'] at hc ⊢
  clear hr hr'
  go_enter Tryz.func62, Tryz.ntmps62
  go_wp2_with (go_at_call 79; refine (hc _).mono ?_; rintro e w' ⟨rfl, rfl⟩)
  go_ret
  exact ⟨rfl, rfl⟩
end Go.Proofs.YtddckehejdpjcabGreatDoor
/- What is proved: names, by the program and by the document. Conditions: the text is not too long for any machine. -/
namespace Go.Proofs.YtddckehejdpjcabGreatDoor
open Go.RowKit
set_option linter.unusedVariables false
theorem name_eq (l : List UInt8) (n : Nat) (hn : l.length = n) : nameB l = (decide (1 ≤ n) && decide (n ≤ 32) && visB l && !l.contains 47 && !(l == [46]) && !(l == [46, 46])) := by rw [nameB, hn]
set_option maxHeartbeats 1000000 in
set_option maxRecDepth 100000 in
theorem RtName_any (l : List UInt8) (hl : l.length ≤ 9223372036854775806) (w : World) : Calls Tryz.prog 45 #[.string (strB l)] w fun e w' => e = .returned (.bool (nameB l)) ∧ w = w' := by
  have c1 := Lib.hid (fun w => Rtvisible_any l hl w)
  have c2 : Hid (∀ w, Calls Tryz.prog 62 #[.string (strB l), .string (ByteArray.mk #[47])] w fun e w' => e = .returned (.bool (l.contains 47)) ∧ w = w') := Lib.hid (fun w => GContains_any l w)
  have hsz := strB_size l
  have hL := strB_list l
  obtain ⟨S, hS⟩ : ∃ S, strB l = S := ⟨_, rfl⟩
  obtain ⟨n, hn⟩ : ∃ n, l.length = n := ⟨_, rfl⟩
  rw [hS] at hsz hL c1 c2 ⊢
  rw [hn] at hsz hl
  have HE := Lib.hid (name_eq l n hn)
  obtain ⟨r, hr⟩ : ∃ r, nameB l = r := ⟨_, rfl⟩
  rw [hr] at HE ⊢
  obtain ⟨b4, hb4⟩ : ∃ b, visB l = b := ⟨_, rfl⟩
  obtain ⟨b5, hb5⟩ : ∃ b, l.contains 47 = b := ⟨_, rfl⟩
  rw [hb4] at c1 HE
  rw [hb5] at c2 HE
  have h0 : l ≠ [] → 1 ≤ n := fun h => by rw [← hn]; exact List.length_pos_iff.2 h
  have H0 := Lib.hid h0
  have H1 : Hid (l = [] → n = 0) := Lib.hid (fun h => by rw [← hn, h]; rfl)
  clear hb4 hb5 hn hS hr h0
  go_enter Tryz.func45, Tryz.ntmps45
  by_cases hlen : n ≤ 32
  · by_cases h1 : l = [46]
    · go_wp2
      go_ret
      exact ⟨by rw [HE.out, h1]; simp, rfl⟩
    · have e1 : (l == [46]) = false := by simpa using h1
      by_cases h2 : l = [46, 46]
      · go_wp2
        go_ret
        exact ⟨by rw [HE.out, h2]; simp, rfl⟩
      · have e2 : (l == [46, 46]) = false := by simpa using h2
        by_cases h3 : l = []
        · have h4 := H1.out h3
          go_wp2
          go_ret
          exact ⟨by rw [HE.out, h4]; rfl, rfl⟩
        · have h4 := H0.out h3
          have e3 : l.isEmpty = false := by simpa using h3
          cases b4
          · go_wp2_with (go_at_call 61; refine (c1.out _).mono ?_; rintro e w' ⟨rfl, rfl⟩)
            go_ret
            exact ⟨by rw [HE.out]; simp, rfl⟩
          · go_wp2_with (first
              | (go_at_call 61; refine (c1.out _).mono ?_; rintro e w' ⟨rfl, rfl⟩)
              | (go_at_call 62; refine (c2.out _).mono ?_; rintro e w' ⟨rfl, rfl⟩))
            go_ret
            refine ⟨?_, rfl⟩
            rw [HE.out]
            rw [e1, e2, decide_eq_true h4, decide_eq_true hlen]
            simp
  · go_wp2
    go_ret
    exact ⟨by rw [HE.out]; simp [hlen]; try rfl, rfl⟩
theorem add_str {P : Program} (a b : List UInt8) (h : a.length + b.length ≤ 9223372036854775807) (w : World) : (Op.stringOp .add (strB a) (strB b)).run P w = .ok (.string (strB (a ++ b))) w := by
  rw [← strB_append]
  exact run_string_add_sum w _ _ (by rw [strB_size, strB_size]; exact h)
theorem join_one {P : Program} (a : List UInt8) (h : a.length + 1 ≤ 9223372036854775807) (w : World) : (Op.stringOp .add (strB a) (ByteArray.mk #[47])).run P w = .ok (.string (strB (a ++ [47]))) w := add_str a [47] h w
/-- Texts as cells. -/
def strV (ps : List (List UInt8)) : List Value := ps.map fun p => .string (strB p)
theorem strV_append (a b : List (List UInt8)) : strV (a ++ b) = strV a ++ strV b := by simp [strV]
theorem info_parts {P : Program} {t : TypeId} {z : Value} {s b : Nat} (h : (P.info? t).map (fun i => (i.zero, i.size, i.bytes)) = some (some z, s, b)) : ∃ i, P.info? t = some i ∧ i.zero = some z ∧ i.size = s ∧ i.bytes = b := by
  cases hq : P.info? t with
  | none => simp [hq] at h
  | some i =>
    simp [hq] at h
    exact ⟨i, rfl, h.1, h.2.1, h.2.2⟩
theorem info_str : (Tryz.prog.info? 9).map (fun i => (i.zero, i.size, i.bytes)) = some (some (.string (strB [])), 1, 16) := by kernel_rfl
/-- One cell that the call has just laid, as a source. -/
theorem src_one {tx e' : TypeId} (hk : Tryz.prog.underlying tx = some (.slice e')) (w : World) (c : Value) (hc : c.oneCell' = true) : Src Tryz.prog 1 tx (.slice (some ⟨w.heap.size, 0, none⟩) 1 1) 1 [c] (w.alloc (.cells #[c] e')) :=
  Src.ofSlice _ hk ⟨w.heap.size, 0, none⟩ 1 1 [c] rfl (by intro j u hj; match j, hj with | 0, hj => simp at hj; subst hj; simp [Addr.add]) (by intro u hu; simp at hu; subst hu; exact hc)
theorem fr_append {w0 w w' : World} {v : Value} {n : Nat} {xs : List Value} {e : TypeId} {size : Nat} (h : w.ownsRow w0.heap.size e size v n xs) (f : Fr (fun _ => False) w0 w) (hg : w.grownBy w' v.ownBlock) : Fr (fun _ => False) w0 w' :=
  f.grown hg (fun k hk hlt => absurd hlt (by have := (World.ownsRow.lt h k hk).1; omega))
/-- What stands at the head of a round of the document's Parts. -/
structure QpRel (w : World) (l : List UInt8) (k : Nat) (v : Value) (acc : List (List UInt8)) (now : List UInt8) (wr : World) : Prop where
  own : wr.ownsRow w.heap.size 9 1 v acc.length (strV acc)
  fr : Fr (fun _ => False) w wr
  say : spl (l.take k) = acc ++ [now]
theorem QpRel.small {w : World} {l : List UInt8} {k : Nat} {v : Value} {acc : List (List UInt8)} {now : List UInt8} {wr : World} (h : QpRel w l k v acc now wr) : now.length ≤ l.length ∧ acc.length ≤ l.length := by
  have h1 := spl_len_le (l.take k) now (by rw [h.say]; simp)
  have h2 := spl_count (l.take k)
  rw [h.say, List.length_append, List.length_singleton] at h2
  have h3 := List.count_le_length (a := (47 : UInt8)) (l := l.take k)
  rw [List.length_take] at h1 h3
  omega
theorem take_snoc (l : List UInt8) (k : Nat) (h : k < l.length) : l.take (k + 1) = l.take k ++ [l.getD k 0] := by
  rw [List.take_add_one, List.getElem?_eq_getElem h, List.getD_eq_getElem?_getD, List.getElem?_eq_getElem h]
  rfl
set_option maxHeartbeats 3200000 in
set_option maxRecDepth 100000 in
theorem QrParts_any (l : List UInt8) (hl : l.length ≤ 900000) (w : World) : Calls Tryz.prog 39 #[.string (strB l)] w fun e w' =>
    ∃ A c, e = .returned (.slice A (prt l).length c) ∧ (prt l).length ≤ c ∧ Lies w' A (strV (prt l)) ∧ Below w.heap.size w w' := by
  obtain ⟨i0, hi, hz0, hz1, hz2⟩ := info_parts info_str
  have hL := strB_list l
  have hsz := strB_size l
  have HIX := Lib.hid (fun k hk w => index_str (P := Tryz.prog) w Tryz.underlying9 l k hk)
  have HSL := Lib.hid (fun k hk w => slice_one (P := Tryz.prog) w Tryz.underlying9 l k hk)
  by_cases h : l = []
  · have e1 : prt l = [] := by rw [prt, if_pos h]
    rw [e1]
    obtain ⟨S, hS⟩ : ∃ S, strB l = S := ⟨_, rfl⟩
    rw [hS] at hL ⊢
    clear e1 hS hsz HIX HSL
    go_enter Tryz.func39, Tryz.ntmps39
    go_wp2
    go_ret
    exact ⟨none, 0, rfl, Nat.le_refl _, .inl rfl, (Fr.refl (fun _ => False) w).below (fun _ _ e => e)⟩
  · rw [prt_of h]
    have h' : l.isEmpty = false := by simpa using h
    have HE : Hid (strB [] = ByteArray.mk #[]) := Lib.hid rfl
    obtain ⟨S, hS⟩ : ∃ S, strB l = S := ⟨_, rfl⟩
    rw [hS] at hL hsz HIX HSL ⊢
    obtain ⟨n, hn⟩ : ∃ n, l.length = n := ⟨_, rfl⟩
    have HNn := Lib.hid hn
    rw [hn] at hl hsz HIX HSL
    clear hS hn
    go_enter Tryz.func39, Tryz.ntmps39
    go_wp2
    clear hL h h'
    go_loopw [3, 4, 5] (fun v s i wr => ∃ (k : Nat) (acc : List (List UInt8)) (now : List UInt8), k ≤ n ∧ i = .int .i64 k ∧ s = .string (strB now) ∧ QpRel w l k v acc now wr) (fun _ _ i _ => n - (intOf i).toNat)
    case atStart => exact ⟨0, [], [], by omega, rfl, by rw [HE.out], World.ownsRow_nil w w.heap.size 9 1, Fr.refl _ _, rfl⟩
    case round =>
      obtain ⟨k, acc, now, hk, rfl, rfl, hr⟩ := hrel
      obtain ⟨A, c, hv, hnc, hcm⟩ := own_slice hr.own
      subst hv
      obtain ⟨hnow, hacc⟩ := hr.small
      rw [HNn.out] at hnow hacc
      have HR := Lib.hid hr
      clear hr
      by_cases hlt : k < n
      · have hix := HIX.out k hlt
        have htk := Lib.hid (take_snoc l k (by rw [HNn.out]; exact hlt))
        by_cases hb : l.getD k 0 = 47
        · rw [hb] at hix htk
          have e47 : (((47 : UInt8).toNat : Nat) : Int) = 47 := rfl
          rw [e47] at hix
          obtain ⟨R, hR⟩ : ∃ R, strB now = R := ⟨_, rfl⟩
          have HRn := Lib.hid hR
          rw [hR]
          clear hR hb
          go_wp2_with (at_builtin; refine wpList_append_row _ rfl (.tmp 19) (.tmp 21) 88 88 rfl w.heap.size 9 i0 (.string (strB [])) 1 16 Tryz.underlying88 hi hz0 hz1 hz2 rfl _ acc.length _ rfl ((HR.out.own).alloc _) _ 1 [.string R] rfl (src_one Tryz.underlying88 _ _ rfl) (by unfold maxLen; omega) (by omega) (by have := HR.out.fr.size; simp; omega) ?_
                       intro v1 w2 o1 g1 at1)
          have hn : QpRel w l (k + 1) v1 (acc ++ [now]) [] w2 := ⟨by rw [strV_append, List.length_append, ← HRn.out] at *; exact o1, fr_append (HR.out.own.alloc _) (HR.out.fr.alloc _) g1, by rw [htk.out, spl_snoc47, HR.out.say]⟩
          have HN := Lib.hid hn
          clear hn o1 g1 at1
          go_roundw
          case rel => exact ⟨k + 1, _, _, by omega, by go_num, by rw [HE.out], HN.out⟩
          case measure => simp [intOf]; omega
        · have hsl := HSL.out k hlt
          have hadd := fun w => add_str (P := Tryz.prog) now [l.getD k 0] (by rw [List.length_singleton]; omega) w
          have HN : Hid (QpRel w l (k + 1) (.slice A acc.length c) acc (now ++ [l.getD k 0]) wr) := Lib.hid ⟨HR.out.own, HR.out.fr, by rw [htk.out, spl_snoc _ _ hb _ _ HR.out.say]⟩
          obtain ⟨z, hz⟩ : ∃ z : Int, (((l.getD k 0).toNat : Nat) : Int) = z := ⟨_, rfl⟩
          have hz47 : ¬ z = 47 := fun e => hb (UInt8.toNat_inj.1 (by show (l.getD k 0).toNat = 47; omega))
          rw [hz] at hix
          obtain ⟨R, hR⟩ : ∃ R, strB now = R := ⟨_, rfl⟩
          obtain ⟨U, hU⟩ : ∃ R, strB [l.getD k 0] = R := ⟨_, rfl⟩
          obtain ⟨nx, hnx⟩ : ∃ R, now ++ [l.getD k 0] = R := ⟨_, rfl⟩
          obtain ⟨V, hV⟩ : ∃ R, strB nx = R := ⟨_, rfl⟩
          have HV := Lib.hid hV
          rw [hU] at hsl hadd
          rw [hnx] at hadd HN
          rw [hR, hV] at hadd
          rw [hR]
          clear hR hU hV hnx hb hz htk
          go_wp2_with fail
          go_roundw
          case rel => exact ⟨k + 1, _, nx, by omega, by go_num, by rw [HV.out], HN.out⟩
          case measure => simp [intOf]; omega
      · obtain rfl : k = n := by omega
        obtain ⟨R, hR⟩ : ∃ R, strB now = R := ⟨_, rfl⟩
        have HRn := Lib.hid hR
        rw [hR]
        clear hR
        go_wp2_with (at_builtin; refine wpList_append_row _ rfl (.tmp 30) (.tmp 32) 88 88 rfl w.heap.size 9 i0 (.string (strB [])) 1 16 Tryz.underlying88 hi hz0 hz1 hz2 rfl _ acc.length _ rfl ((HR.out.own).alloc _) _ 1 [.string R] rfl (src_one Tryz.underlying88 _ _ rfl) (by unfold maxLen; omega) (by omega) (by have := HR.out.fr.size; simp; omega) ?_
                     intro v1 w2 o1 g1 at1)
        have hs : spl l = acc ++ [now] := by
          have := HR.out.say
          rwa [← HNn.out, List.take_length] at this
        have hf := fr_append (HR.out.own.alloc (.cells #[.string R] 9)) (HR.out.fr.alloc _) g1
        obtain ⟨A', c', hv, hnc', hcm'⟩ := own_slice o1
        subst hv
        have hli := Lies.of_own o1
        go_ret
        refine ⟨A', c', ?_, ?_, ?_, hf.below (fun _ _ e => e)⟩
        · rw [hs, List.length_append]; rfl
        · rw [hs, List.length_append]; exact hnc'
        · rw [hs, strV_append, ← HRn.out] at *
          exact hli
theorem one_part (l : List UInt8) (h : l ≠ []) : decide ((prt l).length = 1) = !l.contains 47 := by
  rw [prt_of h, spl_count, Bool.eq_iff_iff]
  simp [List.count_eq_zero]
theorem right_name (l : List UInt8) (n : Nat) (hn : l.length = n) : nameB l = (decide (1 ≤ n) && decide (n ≤ 32) && visB l && (decide ((prt l).length = 1) && !(l == [46]) && !(l == [46, 46]))) := by
  by_cases h : l = []
  · subst h; subst hn; rfl
  · rw [one_part l h, name_eq l n hn]
    simp only [Bool.and_assoc]
set_option maxHeartbeats 3200000 in
set_option maxRecDepth 100000 in
theorem QrName_any (l : List UInt8) (hl : l.length ≤ 9223372036854775806) (w : World) : Calls Tryz.prog 22 #[.string (strB l)] w fun e w' => e = .returned (.bool (nameB l)) ∧ Below w.heap.size w w' := by
  have c1 := Lib.hid (fun w => Qrseen_any l (by omega) w)
  have c2 := Lib.hid (fun (hl2 : l.length ≤ 32) w => QrParts_any l (by omega) w)
  have hsz := strB_size l
  have hL := strB_list l
  obtain ⟨S, hS⟩ : ∃ S, strB l = S := ⟨_, rfl⟩
  obtain ⟨n, hn⟩ : ∃ n, l.length = n := ⟨_, rfl⟩
  rw [hS] at hsz hL c1 c2 ⊢
  have HE := Lib.hid (right_name l n hn)
  rw [hn] at hsz hl
  obtain ⟨r, hr⟩ : ∃ r, nameB l = r := ⟨_, rfl⟩
  rw [hr] at HE ⊢
  obtain ⟨b4, hb4⟩ : ∃ b, visB l = b := ⟨_, rfl⟩
  obtain ⟨m, hm⟩ : ∃ b, (prt l).length = b := ⟨_, rfl⟩
  rw [hb4] at c1 HE
  rw [hm, hn] at c2
  rw [hm] at HE
  have HB := Lib.hid ((Fr.refl (fun _ => False) w).below (fun _ _ e => e))
  clear hb4 hm hn hS hr
  go_enter Tryz.func22, Tryz.ntmps22
  by_cases h1 : 1 ≤ n
  · have hd1 : decide (1 ≤ n) = true := decide_eq_true h1
    by_cases h2 : n ≤ 32
    · have hd2 : decide (n ≤ 32) = true := decide_eq_true h2
      cases b4
      · go_wp2_with (go_at_call 38; refine (c1.out _).mono ?_; rintro e w' ⟨rfl, rfl⟩)
        go_ret
        exact ⟨by rw [HE.out]; simp, HB.out⟩
      · by_cases h3 : m = 1
        · have hd3 : decide (m = 1) = true := decide_eq_true h3
          by_cases h4 : l = [46]
          · go_wp2_with (first
              | (go_at_call 38; refine (c1.out _).mono ?_; rintro e w' ⟨rfl, rfl⟩)
              | (go_at_call 39; refine (c2.out h2 _).mono ?_; rintro e w' ⟨A, c, rfl, _, _, b⟩))
            go_ret
            exact ⟨by rw [HE.out, h4]; simp, b⟩
          · have e1 : (l == [46]) = false := by simpa using h4
            by_cases h5 : l = [46, 46]
            · go_wp2_with (first
                | (go_at_call 38; refine (c1.out _).mono ?_; rintro e w' ⟨rfl, rfl⟩)
                | (go_at_call 39; refine (c2.out h2 _).mono ?_; rintro e w' ⟨A, c, rfl, _, _, b⟩))
              go_ret
              exact ⟨by rw [HE.out, h5]; simp, b⟩
            · have e2 : (l == [46, 46]) = false := by simpa using h5
              go_wp2_with (first
                | (go_at_call 38; refine (c1.out _).mono ?_; rintro e w' ⟨rfl, rfl⟩)
                | (go_at_call 39; refine (c2.out h2 _).mono ?_; rintro e w' ⟨A, c, rfl, _, _, b⟩))
              go_ret
              exact ⟨by rw [HE.out, hd1, hd2, hd3, e1, e2]; rfl, b⟩
        · have hd3 : decide (m = 1) = false := decide_eq_false h3
          go_wp2_with (first
            | (go_at_call 38; refine (c1.out _).mono ?_; rintro e w' ⟨rfl, rfl⟩)
            | (go_at_call 39; refine (c2.out h2 _).mono ?_; rintro e w' ⟨A, c, rfl, _, _, b⟩))
          go_ret
          exact ⟨by rw [HE.out, hd3]; simp, b⟩
    · have hd2 : decide (n ≤ 32) = false := decide_eq_false h2
      go_wp2
      go_ret
      exact ⟨by rw [HE.out, hd2]; simp, HB.out⟩
  · have hd1 : decide (1 ≤ n) = false := decide_eq_false h1
    go_wp2
    go_ret
    exact ⟨by rw [HE.out, hd1]; simp, HB.out⟩
end Go.Proofs.YtddckehejdpjcabGreatDoor

/- What is proved: what the walks of this seat need of layers below, merged out of the texts Rta Rtb Rtc Rtd Rte Rtf Rtg Rth Rti Rts (of each just what is needed). Conditions: each theorem names its own. -/
import Derived.WalkKit
import Derived.Test.YtgmohgofcjemkaaDoorRows
import Derived.Lib.Strings
import Derived.Lib.Walk
import Derived.Lib.IndexLaws
import Derived.Deep.DeepFit
import Derived.WalkSpells
import Derived.WalkLawsBesides
import Derived.Laws.IdiomStrings
import Derived.Laws.DeepStrings4
import Derived.Laws.Concat
import Derived.Laws.OwnMore
import Derived.Shelf.Abstract
import Derived.Test.YtgmohgofcjemkaaDoorBas
set_option maxRecDepth 100000
/- What is proved: plain facts on texts in parts, and on patterns that stand for lists. Conditions: none; no program is named. -/
namespace Go.Proofs.YtgmohgofcjemkaaDoor
set_option linter.unusedVariables false
/-- What stands between strokes. -/
def spl : List UInt8 → List (List UInt8)
  | [] => [[]]
  | b :: r => if b = 47 then [] :: spl r else match spl r with | [] => [[b]] | h :: t => (b :: h) :: t
theorem spl_ne (l : List UInt8) : spl l ≠ [] := by
  cases l with
  | nil => simp [spl]
  | cons b r => simp only [spl]; split; · simp
                · split <;> simp
theorem spl_stroke (a r : List UInt8) : spl (a ++ 47 :: r) = spl a ++ spl r := by
  induction a with
  | nil => simp [spl]
  | cons b a ih =>
    simp only [List.cons_append, spl]
    split
    · rw [ih]; rfl
    · rw [ih]
      cases h : spl a with
      | nil => exact absurd h (spl_ne a)
      | cons x t => simp
theorem spl_plain (a : List UInt8) (h : ∀ b ∈ a, b ≠ 47) : spl a = [a] := by
  induction a with
  | nil => rfl
  | cons b a ih =>
    simp only [spl, if_neg (h b (by simp)), ih (fun c hc => h c (by simp [hc]))]
theorem spl_head (a r : List UInt8) (h : ∀ b ∈ a, b ≠ 47) : spl (a ++ 47 :: r) = a :: spl r := by rw [spl_stroke, spl_plain a h]; rfl
theorem spl_snoc (l : List UInt8) (b : UInt8) (hb : b ≠ 47) : ∀ acc now, spl l = acc ++ [now] → spl (l ++ [b]) = acc ++ [now ++ [b]] := by
  induction l with
  | nil =>
    intro acc now h
    simp only [spl] at h
    cases acc with
    | nil => simp at h; subst h; simp [spl, hb]
    | cons x t => simp at h
  | cons c r ih =>
    intro acc now h
    simp only [List.cons_append, spl] at h ⊢
    split at h
    · rename_i hc
      rw [if_pos hc]
      cases acc with
      | nil => simp at h; exact absurd h.2 (spl_ne r)
      | cons x t =>
        simp at h
        rw [ih t now h.2, ← h.1]; rfl
    · rename_i hc
      rw [if_neg hc]
      cases hs : spl r with
      | nil => exact absurd hs (spl_ne r)
      | cons y t =>
        rw [hs] at h
        simp only at h
        cases acc with
        | nil =>
          simp at h
          obtain ⟨h1, h2⟩ := h
          subst h2
          rw [ih [] y (by rw [hs]; rfl)]
          simp [← h1]
        | cons x t' =>
          simp at h
          obtain ⟨h1, h2⟩ := h
          rw [ih (y :: t') now (by rw [hs, h2]; rfl)]
          simp [h1]
theorem spl_snoc47 (l : List UInt8) : spl (l ++ [47]) = spl l ++ [[]] := by rw [spl_stroke]; rfl
theorem spl_count (l : List UInt8) : (spl l).length = l.count 47 + 1 := by
  induction l with
  | nil => rfl
  | cons b r ih =>
    simp only [spl, List.count_cons]
    split
    · rename_i h; subst h; simp [ih]
    · rename_i h
      have : (b == 47) = false := by simpa using h
      rw [this]
      cases hs : spl r with
      | nil => exact absurd hs (spl_ne r)
      | cons x t => rw [hs] at ih; simpa using ih
theorem spl_len_le (l : List UInt8) : ∀ p ∈ spl l, p.length ≤ l.length := by
  induction l with
  | nil => intro p hp; simp [spl] at hp; subst hp; simp
  | cons c r ih =>
    intro p hp
    simp only [spl] at hp
    split at hp
    · rcases List.mem_cons.1 hp with rfl | hp
      · simp
      · have := ih p hp; simp; omega
    · cases hs : spl r with
      | nil => exact absurd hs (spl_ne r)
      | cons x t =>
        rw [hs] at hp ih
        rcases List.mem_cons.1 hp with rfl | hp
        · have := ih x (by simp); simp; omega
        · have := ih p (by simp [hp]); simp; omega
/-- A text's parts. -/
def prt (l : List UInt8) : List (List UInt8) := if l = [] then [] else spl l
theorem prt_of {l : List UInt8} (h : l ≠ []) : prt l = spl l := if_neg h
theorem prt_len (l : List UInt8) : (prt l).length ≤ l.length + 1 := by
  unfold prt
  split
  · simp
  · rw [spl_count]; have := List.count_le_length (a := (47 : UInt8)) (l := l); omega
end Go.Proofs.YtgmohgofcjemkaaDoor
/- What is proved: plain facts on names, paths, patterns, and what follows from them. Conditions: none; no program is named. -/
namespace Go.Proofs.YtgmohgofcjemkaaDoor
set_option linter.unusedVariables false
def visB (l : List UInt8) : Bool := l.all fun b => decide (33 ≤ (b.toNat : Int)) && decide ((b.toNat : Int) ≤ 126)
def nameB (l : List UInt8) : Bool := decide (1 ≤ l.length) && decide (l.length ≤ 32) && visB l && !l.contains 47 && !(l == [46]) && !(l == [46, 46])
def rightB (l : List UInt8) : Bool := !(l == []) && decide (l.length ≤ 120) && (decide ((spl l).length ≤ 6) && (spl l).all nameB)
/-- The place of the last stroke; -1: there is none. -/
def lastI : List UInt8 → Int
  | [] => -1
  | b :: r => if 0 ≤ lastI r then lastI r + 1 else if b = 47 then 0 else -1
structure LastAt (l : List UInt8) (v : Int) : Prop where
  lo : -1 ≤ v
  hi : v < l.length
  none : ∀ j : Nat, v < j → j < l.length → l.getD j 0 ≠ 47
  here : 0 ≤ v → l.getD v.toNat 0 = 47
theorem lastI_at (l : List UInt8) : LastAt l (lastI l) := by
  induction l with
  | nil => exact ⟨by decide, by decide, fun j _ hj => by simp at hj, fun h => by revert h; decide⟩
  | cons b r ih =>
    obtain ⟨h1, h2, h3, h4⟩ := ih
    simp only [lastI]
    split
    · rename_i h
      refine ⟨by omega, by simp; omega, fun j hj hl => ?_, fun _ => ?_⟩
      · cases j with
        | zero => omega
        | succ j => rw [List.getD_cons_succ]; exact h3 j (by omega) (by simpa using hl)
      · rw [show (lastI r + 1).toNat = (lastI r).toNat + 1 by omega, List.getD_cons_succ]; exact h4 h
    · rename_i h
      split
      · rename_i hb
        refine ⟨by omega, by simp only [List.length_cons]; omega, fun j hj hl => ?_, fun _ => by simpa using hb⟩
        cases j with
        | zero => omega
        | succ j => rw [List.getD_cons_succ]; exact h3 j (by omega) (by simpa using hl)
      · rename_i hb
        refine ⟨by omega, by simp only [List.length_cons]; omega, fun j hj hl => ?_, fun h => by omega⟩
        cases j with
        | zero => simpa using hb
        | succ j => rw [List.getD_cons_succ]; exact h3 j (by omega) (by simpa using hl)
theorem lastAt_unique {l : List UInt8} {v u : Int} (h : LastAt l v) (k : LastAt l u) : v = u := by
  have a := h.lo; have b := h.hi; have c := k.lo; have d := k.hi
  rcases Int.lt_trichotomy v u with hlt | he | hlt
  · exfalso
    exact h.none u.toNat (by omega) (by omega) (k.here (by omega))
  · exact he
  · exfalso
    exact k.none v.toNat (by omega) (by omega) (h.here (by omega))
def dirB (l : List UInt8) : List UInt8 := l.take (lastI l).toNat
def baseB (l : List UInt8) : List UInt8 := l.drop (lastI l + 1).toNat
theorem no_last {l : List UInt8} (h : lastI l < 0) : dirB l = [] ∧ baseB l = l := by
  obtain ⟨h1, _, _, _⟩ := lastI_at l
  rw [dirB, baseB, show (lastI l).toNat = 0 by omega, show (lastI l + 1).toNat = 0 by omega]
  simp
/-! What a path's parts are. -/
structure PathP (l : List UInt8) : Prop where
  ne : l ≠ []
  len : l.length ≤ 120
  parts : (spl l).length ≤ 6
  names : ∀ p ∈ spl l, nameB p = true
theorem right_iff (l : List UInt8) : rightB l = true ↔ PathP l := by
  simp only [rightB, Bool.and_eq_true, Bool.not_eq_true', decide_eq_true_eq, List.all_eq_true, beq_eq_false_iff_ne]
  exact ⟨fun ⟨⟨a, b⟩, c, d⟩ => ⟨a, b, c, d⟩, fun ⟨a, b, c, d⟩ => ⟨⟨a, b⟩, c, d⟩⟩
end Go.Proofs.YtgmohgofcjemkaaDoor
/- What is proved: whether a text's bytes can be seen, by the program and by the document; where a byte stands. Conditions: none. -/
namespace Go.Proofs.YtgmohgofcjemkaaDoor
open Go.RowKit
set_option linter.unusedVariables false
/-- Bytes as a string's bytes. -/
def strB (xs : List UInt8) : ByteArray := ⟨xs.toArray⟩
theorem strB_list (xs : List UInt8) : (strB xs).toList = xs := ByteArray.toList_mk xs
theorem strB_data (xs : List UInt8) : (strB xs).data.toList = xs := by simp [strB]
theorem strB_size (xs : List UInt8) : (strB xs).size = xs.length := by simp [strB, ByteArray.size]
theorem strB_of (s : ByteArray) : strB s.data.toList = s := by simp [strB]
theorem strB_append (xs ys : List UInt8) : strB xs ++ strB ys = strB (xs ++ ys) := by
  apply ByteArray.ext
  simp [strB, ByteArray.data_append]
theorem strB_extract (xs : List UInt8) (a b : Nat) : (strB xs).extract a b = strB ((xs.take b).drop a) := by
  apply ByteArray.ext
  apply Array.toList_inj.1
  simp [strB, ByteArray.data_extract, List.extract, List.drop_take]
theorem str_eq (xs ys : List UInt8) : ((strB xs).toList == (strB ys).toList) = (xs == ys) := by rw [strB_list, strB_list]
section
variable {P : Program} (w : World) {t : TypeId} (h : P.underlying t = some .string) (l : List UInt8)
include h
theorem index_str (k : Nat) (hk : k < l.length) : (Instr.index t (.string (strB l)) (.int .i64 k)).run P w = .ok (.int .u8 ((l.getD k 0).toNat : Nat)) w := by
  rw [run_index_string w t _ .i64 (k : Int) h, dif_pos ⟨by omega, by rw [strB_size]; omega⟩]
  congr 3
  simp only [Int.toNat_natCast]
  rw [List.getD_eq_getElem?_getD, List.getElem?_eq_getElem hk]
  simp [strB]
  rfl
theorem slice_to (k : Nat) (hk : k ≤ l.length) : (Instr.slice t (.string (strB l)) none (some (.int .i64 k)) none).run P w = .ok (.string (strB (l.take k))) w := by
  rw [run_slice_string_to_if w t _ .i64 k h, if_pos ⟨by omega, by rw [strB_size]; omega⟩, strB_extract]
  simp
theorem slice_from (k : Nat) (hk : k ≤ l.length) : (Instr.slice t (.string (strB l)) (some (.int .i64 k)) none none).run P w = .ok (.string (strB (l.drop k))) w := by
  rw [run_slice_string_from_if w t _ .i64 k h, if_pos ⟨by omega, by rw [strB_size]; omega⟩, strB_extract, strB_size]
  simp
theorem slice_one (k : Nat) (hk : k < l.length) : (Instr.slice t (.string (strB l)) (some (.int .i64 k)) (some (.int .i64 (k + 1))) none).run P w = .ok (.string (strB [l.getD k 0])) w := by
  rw [run_slice_string_if w t _ .i64 .i64 k (k + 1) h, if_pos ⟨by omega, by rw [strB_size]; omega⟩, if_pos ⟨by omega, by omega⟩, strB_extract]
  congr 3
  rw [Int.toNat_natCast, show ((k : Int) + 1).toNat = k + 1 by omega, List.drop_take, List.drop_eq_getElem_cons hk, List.getD_eq_getElem?_getD, List.getElem?_eq_getElem hk, show k + 1 - k = 1 by omega]
  rw [List.take_succ_cons, List.take_zero, Option.getD_some]
end
/-- As far as here, all bytes can be seen. -/
theorem vis_all {l : List UInt8} (h : ∀ j, j < l.length → 33 ≤ ((l.getD j 0).toNat : Int) ∧ ((l.getD j 0).toNat : Int) ≤ 126) : visB l = true := by
  simp only [visB, List.all_eq_true, Bool.and_eq_true, decide_eq_true_eq]
  intro b hb
  obtain ⟨j, hj, rfl⟩ := List.getElem_of_mem hb
  have := h j hj
  rwa [List.getD_eq_getElem?_getD, List.getElem?_eq_getElem hj, Option.getD_some] at this
theorem vis_not {l : List UInt8} {j : Nat} (hj : j < l.length) (h : ¬ (33 ≤ ((l.getD j 0).toNat : Int) ∧ ((l.getD j 0).toNat : Int) ≤ 126)) : visB l = false := by
  rw [← Bool.not_eq_true]
  intro hv
  simp only [visB, List.all_eq_true, Bool.and_eq_true, decide_eq_true_eq] at hv
  apply h
  rw [List.getD_eq_getElem?_getD, List.getElem?_eq_getElem hj, Option.getD_some]
  exact hv _ (List.getElem_mem hj)
set_option maxHeartbeats 1000000 in
theorem Rtvisible_any (l : List UInt8) (hl : l.length ≤ 9223372036854775806) (w : World) : Calls Tryd.prog 35 #[.string (strB l)] w fun e w' => e = .returned (.bool (visB l)) ∧ w = w' := by
  have hix := fun k hk w => index_str (P := Tryd.prog) w Tryd.underlying9 l k hk
  have HIX := Lib.hid hix
  have HN := Lib.hid (fun j hj h => vis_not (l := l) (j := j) hj h)
  have HA := Lib.hid (fun h => vis_all (l := l) h)
  have hsz := strB_size l
  obtain ⟨S, hS⟩ : ∃ S, strB l = S := ⟨_, rfl⟩
  obtain ⟨n, hn⟩ : ∃ n, l.length = n := ⟨_, rfl⟩
  rw [hS] at hix hsz ⊢
  rw [hS] at HIX
  rw [hn] at hsz hl HIX HN HA
  clear hix hS
  go_enter Tryd.func35, Tryd.ntmps35
  go_wp2
  go_loopw [6] (fun i wr => ∃ k : Nat, k ≤ n ∧ i = .int .i64 k ∧ Hid (∀ j, j < k → 33 ≤ ((l.getD j 0).toNat : Int) ∧ ((l.getD j 0).toNat : Int) ≤ 126) ∧ wr = w) (fun i _ => n - (intOf i).toNat)
  case atStart => exact ⟨0, by omega, rfl, Lib.hid (fun j hj => by omega), rfl⟩
  case round =>
    obtain ⟨k, hk, rfl, hz, rfl⟩ := hrel
    by_cases hlt : k < n
    · have hixk := fun w => HIX.out k hlt w
      obtain ⟨c, hc⟩ : ∃ c : Int, ((l.getD k 0).toNat : Int) = c := ⟨_, rfl⟩
      rw [hc] at hixk
      have HC := Lib.hid hc
      clear hc
      go_wp2_with fail
      · go_ret
        exact ⟨by rw [HN.out k hlt (by rw [HC.out]; omega)]; rfl, rfl⟩
      · go_roundw
        case rel => exact ⟨k + 1, by omega, by go_num, Lib.hid (fun j hj => (by omega : j < k ∨ j = k).elim (hz.out j) (fun e => by rw [e, HC.out]; omega)), trivial⟩
        case measure => simp [intOf]; omega
      · go_ret
        exact ⟨by rw [HN.out k hlt (by rw [HC.out]; omega)]; rfl, rfl⟩
    · obtain rfl : k = n := by omega
      go_wp2_with fail
      go_ret
      exact ⟨by rw [HA.out hz.out]; rfl, rfl⟩
set_option maxHeartbeats 1000000 in
theorem Qrseen_any (l : List UInt8) (hl : l.length ≤ 9223372036854775806) (w : World) : Calls Tryd.prog 33 #[.string (strB l)] w fun e w' => e = .returned (.bool (visB l)) ∧ w = w' := by
  have HIX := Lib.hid (fun k hk w => index_str (P := Tryd.prog) w Tryd.underlying9 l k hk)
  have HN := Lib.hid (fun j hj h => vis_not (l := l) (j := j) hj h)
  have HA := Lib.hid (fun h => vis_all (l := l) h)
  have hsz := strB_size l
  obtain ⟨S, hS⟩ : ∃ S, strB l = S := ⟨_, rfl⟩
  obtain ⟨n, hn⟩ : ∃ n, l.length = n := ⟨_, rfl⟩
  rw [hS] at hsz ⊢
  rw [hS] at HIX
  rw [hn] at hsz hl HIX HN HA
  clear hS
  go_enter Tryd.func33, Tryd.ntmps33
  go_wp2
  go_loopw [3] (fun i wr => ∃ k : Nat, k ≤ n ∧ i = .int .i64 k ∧ Hid (∀ j, j < k → 33 ≤ ((l.getD j 0).toNat : Int) ∧ ((l.getD j 0).toNat : Int) ≤ 126) ∧ wr = w) (fun i _ => n - (intOf i).toNat)
  case atStart => exact ⟨0, by omega, rfl, Lib.hid (fun j hj => by omega), rfl⟩
  case round =>
    obtain ⟨k, hk, rfl, hz, rfl⟩ := hrel
    by_cases hlt : k < n
    · have hixk := fun w => HIX.out k hlt w
      obtain ⟨c, hc⟩ : ∃ c : Int, ((l.getD k 0).toNat : Int) = c := ⟨_, rfl⟩
      rw [hc] at hixk
      have HC := Lib.hid hc
      clear hc
      go_wp2_with fail
      · go_ret
        exact ⟨by rw [HN.out k hlt (by rw [HC.out]; omega)]; rfl, rfl⟩
      · go_roundw
        case rel => exact ⟨k + 1, by omega, by go_num, Lib.hid (fun j hj => (by omega : j < k ∨ j = k).elim (hz.out j) (fun e => by rw [e, HC.out]; omega)), trivial⟩
        case measure => simp [intOf]; omega
      · go_ret
        exact ⟨by rw [HN.out k hlt (by rw [HC.out]; omega)]; rfl, rfl⟩
    · obtain rfl : k = n := by omega
      go_wp2_with fail
      go_ret
      exact ⟨by rw [HA.out hz.out]; rfl, rfl⟩
/-! Where a byte stands. -/
set_option maxHeartbeats 1000000 in
set_option maxRecDepth 100000 in
theorem GsIndexByte_any (s : ByteArray) (c : Int) (w : World) :
    Calls Tryd.prog 68 #[.string s, .int .u8 c] w fun e w' => e = .returned (.int .i64 (Lib.indexByte s.data.toList c.toNat.toUInt8)) ∧ w = w' := by
  go_enter Tryd.func68, Tryd.ntmps68
  go_wp2
  rw [run_callFunc_extern Tryd.func74 (by kernel_rfl) (by kernel_rfl) (by kernel_rfl) (e := Extern.BytealgIndexByte.indexByte) (by kernel_rfl), Lib.run_indexByteString]
  simp only [Result.andThen]
  rw [Oper.upon_value]
  go_wp2
  go_ret
  exact ⟨rfl, rfl⟩
/-- Where the first stroke stands. -/
def idx47 (l : List UInt8) : Int := Lib.indexByte l 47
set_option maxHeartbeats 1000000 in
set_option maxRecDepth 100000 in
theorem GsIndex_any (l : List UInt8) (w : World) :
    Calls Tryd.prog 58 #[.string (strB l), .string (strB [47])] w fun e w' => e = .returned (.int .i64 (idx47 l)) ∧ w = w' := by
  have hc := fun w => GsIndexByte_any (strB l) 47 w
  rw [strB_data] at hc
  have hsz : (strB [47]).size = 1 := rfl
  have hix : ∀ w, (Instr.index 9 (.string (strB [47])) (.int .i64 0)).run Tryd.prog w = .ok (.int .u8 47) w := fun w => index_str (P := Tryd.prog) w Tryd.underlying9 [47] 0 (by decide)
  have e1 : ((strB [47]).toList == (strB l).toList) = ([47] == l) := str_eq _ _
  have H0 : Hid (([47] == l) = true → idx47 l = 0) := Lib.hid (fun h => by rw [← eq_of_beq h]; rfl)
  obtain ⟨S, hS⟩ : ∃ S, strB [47] = S := ⟨_, rfl⟩
  obtain ⟨T, hT⟩ : ∃ S, strB l = S := ⟨_, rfl⟩
  rw [hS] at hix hsz e1 ⊢
  rw [hT] at hc e1 ⊢
  have hr : idx47 l = Lib.indexByte l (Int.toNat 47).toUInt8 := rfl
  rw [← hr] at hc
  obtain ⟨r, hr'⟩ : ∃ r, idx47 l = r := ⟨_, rfl⟩
  rw [hr'] at hc H0 ⊢
  obtain ⟨b, hb⟩ : ∃ b, ([47] == l) = b := ⟨_, rfl⟩
  rw [hb] at e1 H0
  clear hr hr' hS hT hb
  cases b
  · go_enter Tryd.func58, Tryd.ntmps58
    go_wp2_with (go_at_call 68; refine (hc _).mono ?_; rintro e w' ⟨rfl, rfl⟩)
    go_ret
    exact ⟨rfl, rfl⟩
  · rw [H0.out rfl]
    go_enter Tryd.func58, Tryd.ntmps58
    go_wp2
    go_ret
    exact ⟨rfl, rfl⟩
set_option maxHeartbeats 1000000 in
theorem GIndex_any (l : List UInt8) (w : World) :
    Calls Tryd.prog 43 #[.string (strB l), .string (strB [47])] w fun e w' => e = .returned (.int .i64 (idx47 l)) ∧ w = w' := by
  go_enter Tryd.func43, Tryd.ntmps43
  go_wp2_with (go_at_call 58; refine (GsIndex_any _ _).mono ?_; rintro e w' ⟨rfl, rfl⟩)
  go_ret
  exact ⟨rfl, rfl⟩
theorem idx_cases (l : List UInt8) : (idx47 l = -1 ∧ ∀ b ∈ l, b ≠ 47) ∨ ∃ m : Nat, idx47 l = m ∧ m < l.length ∧ l = l.take m ++ 47 :: l.drop (m + 1) ∧ ∀ b ∈ l.take m, b ≠ 47 := by
  have hge := Lib.indexByte_ge l 47
  by_cases h : idx47 l = -1
  · left
    refine ⟨h, fun b hb e => ?_⟩
    obtain ⟨j, hj, rfl⟩ := List.getElem_of_mem hb
    exact Lib.indexByte_none h j (by rw [List.getElem?_eq_getElem hj, e])
  · right
    have hge' : -1 ≤ idx47 l := hge
    obtain ⟨m, hm⟩ : ∃ m : Nat, idx47 l = m := ⟨(idx47 l).toNat, by omega⟩
    obtain ⟨h1, h2⟩ := Lib.indexByte_some (show Lib.indexByte l 47 = (m : Nat) from hm)
    obtain ⟨hml, h3⟩ := List.getElem?_eq_some_iff.1 h1
    refine ⟨m, hm, hml, ?_, fun b hb e => ?_⟩
    · conv => lhs; rw [← List.take_append_drop m l, List.drop_eq_getElem_cons hml, h3]
    · obtain ⟨j, hj, rfl⟩ := List.getElem_of_mem hb
      rw [List.length_take] at hj
      exact h2 j (by omega) (by rw [List.getElem?_eq_getElem (by omega)]; rw [List.getElem_take] at e; rw [e])
set_option maxHeartbeats 1000000 in
theorem GContains_any (l : List UInt8) (w : World) :
    Calls Tryd.prog 36 #[.string (strB l), .string (strB [47])] w fun e w' => e = .returned (.bool (l.contains 47)) ∧ w = w' := by
  have hc := fun w => GIndex_any l w
  have hr : decide (0 ≤ idx47 l) = l.contains 47 := by
    rw [Bool.eq_iff_iff, decide_eq_true_eq, List.contains_iff_mem]
    rcases idx_cases l with ⟨h1, h2⟩ | ⟨m, h1, h2, h3, _⟩
    · rw [h1]
      exact ⟨fun h => by omega, fun h => absurd rfl (h2 47 h)⟩
    · rw [h1]
      exact ⟨fun _ => by rw [h3]; simp, fun _ => by omega⟩
  rw [← hr]
  obtain ⟨r, hr'⟩ : ∃ r, idx47 l = r := ⟨_, rfl⟩
  rw [hr'] at hc ⊢
  clear hr hr'
  go_enter Tryd.func36, Tryd.ntmps36
  go_wp2_with (go_at_call 43; refine (hc _).mono ?_; rintro e w' ⟨rfl, rfl⟩)
  go_ret
  exact ⟨rfl, rfl⟩
end Go.Proofs.YtgmohgofcjemkaaDoor
/- What is proved: names, joined texts, the last stroke, what stands ahead of it and behind, what lies under what; by the program and by the document. Conditions: none. -/
namespace Go.Proofs.YtgmohgofcjemkaaDoor
open Go.RowKit
set_option linter.unusedVariables false
theorem name_eq (l : List UInt8) (n : Nat) (hn : l.length = n) : nameB l = (decide (1 ≤ n) && decide (n ≤ 32) && visB l && !l.contains 47 && !(l == [46]) && !(l == [46, 46])) := by rw [nameB, hn]
set_option maxHeartbeats 1000000 in
theorem RtName_any (l : List UInt8) (hl : l.length ≤ 9223372036854775806) (w : World) : Calls Tryd.prog 28 #[.string (strB l)] w fun e w' => e = .returned (.bool (nameB l)) ∧ w = w' := by
  have c1 := Lib.hid (fun w => Rtvisible_any l hl w)
  have c2 : Hid (∀ w, Calls Tryd.prog 36 #[.string (strB l), .string (ByteArray.mk #[47])] w fun e w' => e = .returned (.bool (l.contains 47)) ∧ w = w') := Lib.hid (fun w => GContains_any l w)
  have hsz := strB_size l
  have hL := strB_list l
  obtain ⟨S, hS⟩ : ∃ S, strB l = S := ⟨_, rfl⟩
  obtain ⟨n, hn⟩ : ∃ n, l.length = n := ⟨_, rfl⟩
  rw [hS] at hsz hL c1 c2 ⊢
  rw [hn] at hsz hl
  have HE := Lib.hid (name_eq l n hn)
  obtain ⟨r, hr⟩ : ∃ r, nameB l = r := ⟨_, rfl⟩
  rw [hr] at HE ⊢
  obtain ⟨b4, hb4⟩ : ∃ b, visB l = b := ⟨_, rfl⟩
  obtain ⟨b5, hb5⟩ : ∃ b, l.contains 47 = b := ⟨_, rfl⟩
  rw [hb4] at c1 HE
  rw [hb5] at c2 HE
  have h0 : l ≠ [] → 1 ≤ n := fun h => by rw [← hn]; exact List.length_pos_iff.2 h
  have H0 := Lib.hid h0
  have H1 : Hid (l = [] → n = 0) := Lib.hid (fun h => by rw [← hn, h]; rfl)
  clear hb4 hb5 hn hS hr h0
  go_enter Tryd.func28, Tryd.ntmps28
  by_cases hlen : n ≤ 32
  · by_cases h1 : l = [46]
    · go_wp2
      go_ret
      exact ⟨by rw [HE.out, h1]; simp, rfl⟩
    · have e1 : (l == [46]) = false := by simpa using h1
      by_cases h2 : l = [46, 46]
      · go_wp2
        go_ret
        exact ⟨by rw [HE.out, h2]; simp, rfl⟩
      · have e2 : (l == [46, 46]) = false := by simpa using h2
        by_cases h3 : l = []
        · have h4 := H1.out h3
          go_wp2
          go_ret
          exact ⟨by rw [HE.out, h4]; rfl, rfl⟩
        · have h4 := H0.out h3
          have e3 : l.isEmpty = false := by simpa using h3
          cases b4
          · go_wp2_with (go_at_call 35; refine (c1.out _).mono ?_; rintro e w' ⟨rfl, rfl⟩)
            go_ret
            exact ⟨by rw [HE.out]; simp, rfl⟩
          · go_wp2_with (first
              | (go_at_call 35; refine (c1.out _).mono ?_; rintro e w' ⟨rfl, rfl⟩)
              | (go_at_call 36; refine (c2.out _).mono ?_; rintro e w' ⟨rfl, rfl⟩))
            go_ret
            refine ⟨?_, rfl⟩
            rw [HE.out]
            rw [e1, e2, decide_eq_true h4, decide_eq_true hlen]
            simp
  · go_wp2
    go_ret
    exact ⟨by rw [HE.out]; simp [hlen]; try rfl, rfl⟩
theorem add_str {P : Program} (a b : List UInt8) (h : a.length + b.length ≤ 9223372036854775807) (w : World) : (Op.stringOp .add (strB a) (strB b)).run P w = .ok (.string (strB (a ++ b))) w := by
  rw [← strB_append]
  exact run_string_add_sum w _ _ (by rw [strB_size, strB_size]; exact h)
set_option maxHeartbeats 1000000 in
theorem GbLast_any (l : List UInt8) (hl : l.length ≤ 9223372036854775806) (w : World) : Calls Tryd.prog 38 #[.string (strB l), .int .u8 47] w fun e w' => e = .returned (.int .i64 (lastI l)) ∧ w = w' := by
  have HIX := Lib.hid (fun k hk w => index_str (P := Tryd.prog) w Tryd.underlying9 l k hk)
  have HU := Lib.hid (fun v (h : LastAt l v) => lastAt_unique h (lastI_at l))
  have hsz := strB_size l
  obtain ⟨S, hS⟩ : ∃ S, strB l = S := ⟨_, rfl⟩
  obtain ⟨n, hn⟩ : ∃ n, l.length = n := ⟨_, rfl⟩
  rw [hS] at hsz ⊢
  rw [hS] at HIX
  have HNn := Lib.hid hn
  rw [hn] at hsz hl HIX
  clear hS hn
  go_enter Tryd.func38, Tryd.ntmps38
  go_wp2
  go_loopw [5] (fun i wr => ∃ k : Nat, k ≤ n ∧ i = .int .i64 (k - 1) ∧ Hid (∀ j, k ≤ j → j < n → l.getD j 0 ≠ 47) ∧ wr = w) (fun i _ => (intOf i + 1).toNat)
  case atStart => exact ⟨n, by omega, rfl, Lib.hid (fun j h1 h2 => by omega), rfl⟩
  case round =>
    obtain ⟨k, hk, rfl, hz, rfl⟩ := hrel
    by_cases hlt : 0 < k
    · obtain ⟨m, rfl⟩ : ∃ m, k = m + 1 := ⟨k - 1, by omega⟩
      have hixk := fun w => HIX.out m (by omega) w
      obtain ⟨c, hc⟩ : ∃ c : Int, ((l.getD m 0).toNat : Int) = c := ⟨_, rfl⟩
      rw [hc] at hixk
      have HC := Lib.hid hc
      clear hc
      rw [show (((m + 1 : Nat) : Int) - 1) = (m : Int) by omega]
      by_cases hc : c = 47
      · go_wp2_with fail
        go_ret
        refine ⟨?_, rfl⟩
        rw [← HU.out (m : Int) ⟨by omega, by rw [HNn.out]; omega, fun j h1 h2 => hz.out j (by omega) (by rw [← HNn.out]; exact h2), fun _ => ?_⟩]
        · rfl
        · rw [Int.toNat_natCast]
          apply UInt8.toNat_inj.1
          have := HC.out
          show (l.getD m 0).toNat = 47
          omega
      · go_wp2_with fail
        go_roundw
        case rel =>
          refine ⟨m, by omega, rfl, Lib.hid (fun j h1 h2 => ?_), trivial⟩
          rcases (by omega : m + 1 ≤ j ∨ j = m) with h | rfl
          · exact hz.out j h h2
          · intro e
            apply hc
            rw [← HC.out, e]
            rfl
        case measure => simp [intOf]
    · obtain rfl : k = 0 := by omega
      go_wp2_with fail
      go_ret
      exact ⟨by rw [← HU.out (-1) ⟨by omega, by omega, fun j h1 h2 => hz.out j (by omega) (by rw [← HNn.out]; exact h2), fun h => by omega⟩]; rfl, rfl⟩
set_option maxHeartbeats 1000000 in
theorem GLastIndex_any (l : List UInt8) (hl : l.length ≤ 9223372036854775806) (w : World) : Calls Tryd.prog 30 #[.string (strB l), .string (strB [47])] w fun e w' => e = .returned (.int .i64 (lastI l)) ∧ w = w' := by
  have hc := fun w => GbLast_any l hl w
  have hsz : (strB [47]).size = 1 := rfl
  have hix : ∀ w, (Instr.index 9 (.string (strB [47])) (.int .i64 0)).run Tryd.prog w = .ok (.int .u8 47) w := fun w => index_str (P := Tryd.prog) w Tryd.underlying9 [47] 0 (by decide)
  obtain ⟨S, hS⟩ : ∃ S, strB [47] = S := ⟨_, rfl⟩
  obtain ⟨T, hT⟩ : ∃ S, strB l = S := ⟨_, rfl⟩
  rw [hS] at hix hsz ⊢
  rw [hT] at hc ⊢
  clear hS hT
  go_enter Tryd.func30, Tryd.ntmps30
  go_wp2_with (go_at_call 38; refine (hc _).mono ?_; rintro e w' ⟨rfl, rfl⟩)
  go_ret
  exact ⟨rfl, rfl⟩
set_option maxHeartbeats 1000000 in
theorem QrLast_any (l : List UInt8) (hl : l.length ≤ 9223372036854775806) (w : World) : Calls Tryd.prog 22 #[.string (strB l)] w fun e w' => e = .returned (.int .i64 (lastI l)) ∧ w = w' := by
  have HIX := Lib.hid (fun k hk w => index_str (P := Tryd.prog) w Tryd.underlying9 l k hk)
  have HU := Lib.hid (fun v (h : LastAt l v) => lastAt_unique h (lastI_at l))
  have hsz := strB_size l
  obtain ⟨S, hS⟩ : ∃ S, strB l = S := ⟨_, rfl⟩
  obtain ⟨n, hn⟩ : ∃ n, l.length = n := ⟨_, rfl⟩
  rw [hS] at hsz ⊢
  rw [hS] at HIX
  have HNn := Lib.hid hn
  rw [hn] at hsz hl HIX
  clear hS hn
  go_enter Tryd.func22, Tryd.ntmps22
  go_wp2
  go_loopw [3, 4] (fun v i wr => ∃ (k : Nat) (z : Int), k ≤ n ∧ i = .int .i64 k ∧ v = .int .i64 z ∧ -1 ≤ z ∧ z < k ∧ Hid ((∀ j : Nat, z < j → j < k → l.getD j 0 ≠ 47) ∧ (0 ≤ z → l.getD z.toNat 0 = 47)) ∧ wr = w) (fun _ i _ => n - (intOf i).toNat)
  case atStart => exact ⟨0, -1, by omega, rfl, rfl, by omega, by omega, Lib.hid ⟨fun j h1 h2 => by omega, fun h => by omega⟩, rfl⟩
  case round =>
    obtain ⟨k, z, hk, rfl, rfl, hz1, hz2, hz, rfl⟩ := hrel
    by_cases hlt : k < n
    · have hixk := fun w => HIX.out k (by omega) w
      obtain ⟨c, hc⟩ : ∃ c : Int, ((l.getD k 0).toNat : Int) = c := ⟨_, rfl⟩
      rw [hc] at hixk
      have HC := Lib.hid hc
      clear hc
      by_cases hc : c = 47
      · go_wp2_with fail
        go_roundw
        case rel =>
          refine ⟨k + 1, k, by omega, by go_num, rfl, by omega, by omega, Lib.hid ⟨fun j h1 h2 => by omega, fun _ => ?_⟩, trivial⟩
          rw [Int.toNat_natCast]
          apply UInt8.toNat_inj.1
          have := HC.out
          show (l.getD k 0).toNat = 47
          omega
        case measure => simp [intOf]; omega
      · go_wp2_with fail
        go_roundw
        case rel =>
          refine ⟨k + 1, z, by omega, by go_num, rfl, by omega, by omega, Lib.hid ⟨fun j h1 h2 => ?_, hz.out.2⟩, trivial⟩
          rcases (by omega : j < k ∨ j = k) with h | rfl
          · exact hz.out.1 j h1 h
          · intro e
            apply hc
            rw [← HC.out, e]
            rfl
        case measure => simp [intOf]; omega
    · obtain rfl : k = n := by omega
      go_wp2_with fail
      go_ret
      exact ⟨by rw [← HU.out z ⟨hz1, by rw [HNn.out]; exact hz2, fun j h1 h2 => hz.out.1 j h1 (by rw [← HNn.out]; exact h2), hz.out.2⟩]; rfl, rfl⟩
/-! What stands ahead of it, and behind. -/
theorem last_nat (l : List UInt8) : ∃ k : Nat, k ≤ l.length ∧ ((k : Int) = lastI l + 1) ∧ baseB l = l.drop k ∧ dirB l = l.take (k - 1) := by
  have h := lastI_at l
  have h1 := h.lo
  have h2 := h.hi
  refine ⟨(lastI l + 1).toNat, by omega, by omega, rfl, ?_⟩
  rw [dirB]
  congr 1
  omega
set_option maxHeartbeats 1000000 in
theorem RtDir_any (l : List UInt8) (hl : l.length ≤ 9223372036854775806) (w : World) : Calls Tryd.prog 15 #[.string (strB l)] w fun e w' => e = .returned (.string (strB (dirB l))) ∧ w = w' := by
  have hc : ∀ w, Calls Tryd.prog 30 #[.string (strB l), .string (ByteArray.mk #[47])] w fun e w' => e = .returned (.int .i64 (lastI l)) ∧ w = w' := fun w => GLastIndex_any l hl w
  have hx : (strB l).extract 0 (max 0 (lastI l)).toNat = strB (dirB l) := by
    rw [strB_extract, dirB, List.drop_zero]
    congr 2
    omega
  have hsz := strB_size l
  have hb := lastI_at l
  have hb1 := hb.lo
  have hb2 := hb.hi
  rw [← hsz] at hb2
  obtain ⟨r, hr⟩ : ∃ r, lastI l = r := ⟨_, rfl⟩
  rw [hr] at hc hx hb1 hb2
  obtain ⟨S, hS⟩ : ∃ S, strB l = S := ⟨_, rfl⟩
  obtain ⟨T, hT⟩ : ∃ S, strB (dirB l) = S := ⟨_, rfl⟩
  rw [hS] at hc hx hb2 hsz ⊢
  rw [hT] at hx ⊢
  have HC := Lib.hid hc
  have HX := Lib.hid hx
  have hm1 : 0 ≤ max 0 r := by omega
  have hm2 : max 0 r ≤ (S.size : Int) := by omega
  clear hr hS hT hc hb hx hsz
  go_enter Tryd.func15, Tryd.ntmps15
  go_wp2_with (go_at_call 30; refine (HC.out _).mono ?_; rintro e w' ⟨rfl, rfl⟩)
  go_ret
  exact ⟨by rw [← HX.out]; rfl, rfl⟩
set_option maxHeartbeats 1000000 in
theorem QrDir_any (l : List UInt8) (hl : l.length ≤ 9223372036854775806) (w : World) : Calls Tryd.prog 11 #[.string (strB l)] w fun e w' => e = .returned (.string (strB (dirB l))) ∧ w = w' := by
  have hc := fun w => QrLast_any l hl w
  obtain ⟨k, hk, hk1, _, hd⟩ := last_nat l
  have hs := fun w => slice_to (P := Tryd.prog) w Tryd.underlying9 l (k - 1) (by omega)
  rw [← hd] at hs
  have H0 : Hid (lastI l < 0 → strB (dirB l) = ByteArray.mk #[]) := Lib.hid (fun h => by rw [(no_last h).1]; rfl)
  obtain ⟨r, hr⟩ : ∃ r, lastI l = r := ⟨_, rfl⟩
  rw [hr] at hc hk1 H0
  obtain ⟨S, hS⟩ : ∃ S, strB l = S := ⟨_, rfl⟩
  obtain ⟨T, hT⟩ : ∃ S, strB (dirB l) = S := ⟨_, rfl⟩
  rw [hS] at hc hs ⊢
  rw [hT] at hs H0 ⊢
  have HC := Lib.hid hc
  clear hr hS hT hd hc
  go_enter Tryd.func11, Tryd.ntmps11
  by_cases h0 : 0 ≤ r
  · rw [show ((k - 1 : Nat) : Int) = r by omega] at hs
    clear hk1 hk
    go_wp2_with (go_at_call 22; refine (HC.out _).mono ?_; rintro e w' ⟨rfl, rfl⟩)
    go_ret
    exact ⟨rfl, rfl⟩
  · have h1 : r < 0 := by omega
    clear hk1 hk hs
    go_wp2_with (go_at_call 22; refine (HC.out _).mono ?_; rintro e w' ⟨rfl, rfl⟩)
    go_ret
    exact ⟨by rw [H0.out h1]; rfl, rfl⟩
end Go.Proofs.YtgmohgofcjemkaaDoor
/- What is proved: a text's parts, by the program. Conditions: the text is not too long for any machine. -/
namespace Go.Proofs.YtgmohgofcjemkaaDoor
open Go.RowKit
set_option linter.unusedVariables false
/-- Texts as cells. -/
def strV (ps : List (List UInt8)) : List Value := ps.map fun p => .string (strB p)
theorem strV_len (ps : List (List UInt8)) : (strV ps).length = ps.length := by simp [strV]
theorem strV_append (a b : List (List UInt8)) : strV (a ++ b) = strV a ++ strV b := by simp [strV]
theorem strV_get (ps : List (List UInt8)) (k : Nat) (h : k < ps.length) : (strV ps)[k]? = some (.string (strB (ps.getD k []))) := by
  rw [strV, List.getElem?_map, List.getElem?_eq_getElem h, List.getD_eq_getElem?_getD, List.getElem?_eq_getElem h]
  rfl
theorem info_parts {P : Program} {t : TypeId} {z : Value} {s b : Nat} (h : (P.info? t).map (fun i => (i.zero, i.size, i.bytes)) = some (some z, s, b)) : ∃ i, P.info? t = some i ∧ i.zero = some z ∧ i.size = s ∧ i.bytes = b := by
  cases hq : P.info? t with
  | none => simp [hq] at h
  | some i =>
    simp [hq] at h
    exact ⟨i, rfl, h.1, h.2.1, h.2.2⟩
theorem info_str : (Tryd.prog.info? 9).map (fun i => (i.zero, i.size, i.bytes)) = some (some (.string (strB [])), 1, 16) := by kernel_rfl
theorem make_strs (n : Nat) (hn : n ≤ 1000000) (w : World) : (Instr.makeSlice 22 (.int .i64 n) (.int .i64 n)).run Tryd.prog w =
    .ok (.slice (some ⟨w.heap.size, 0, none⟩) n n) (w.alloc (.cells (strV (List.replicate n [])).toArray 9)) := by
  obtain ⟨i0, hi, hz0, hz1, hz2⟩ := info_parts info_str
  have h := run_make (P := Tryd.prog) w 22 9 i0 (.string (strB [])) Tryd.underlying22 hi hz0 .i64 .i64 n n (by omega) (by omega) (by rw [hz2]; omega) (by omega)
  rw [Int.toNat_natCast, hz1, Nat.mul_one] at h
  have e2 : madeCells (Value.string (strB [])).cells n = (strV (List.replicate n [])).toArray := by
    apply Array.toList_inj.1
    show (madeCells #[Value.string (strB [])] n).toList = _
    rw [toList_madeCells_one]
    simp [strV]
  rw [e2] at h
  exact h
set_option maxHeartbeats 1000000 in
set_option maxRecDepth 100000 in
theorem GCount_any (l : List UInt8) (w : World) : Calls Tryd.prog 57 #[.string (strB l), .string (strB [47])] w fun e w' => e = .returned (.int .i64 (l.count 47 : Nat)) ∧ w = w' := by
  have hr := fun w => Lib.run_countString (P := Tryd.prog) (strB l) 47 w
  rw [strB_data] at hr
  have he : Lib.countByte l (Int.toNat 47).toUInt8 = l.count 47 := rfl
  rw [he] at hr
  have hsz : (strB [47]).size = 1 := rfl
  have hix : ∀ w, (Instr.index 9 (.string (strB [47])) (.int .i64 0)).run Tryd.prog w = .ok (.int .u8 47) w := fun w => index_str (P := Tryd.prog) w Tryd.underlying9 [47] 0 (by decide)
  obtain ⟨S, hS⟩ : ∃ S, strB [47] = S := ⟨_, rfl⟩
  obtain ⟨T, hT⟩ : ∃ S, strB l = S := ⟨_, rfl⟩
  obtain ⟨c, hc⟩ : ∃ c : Int, ((l.count 47 : Nat) : Int) = c := ⟨_, rfl⟩
  rw [hS] at hix hsz ⊢
  rw [hT, hc] at hr
  rw [hT, hc]
  have HR := Lib.hid hr
  clear hS hT hr he hc
  go_enter Tryd.func57, Tryd.ntmps57
  go_wp2
  rw [run_callFunc_extern Tryd.func67 (by kernel_rfl) (by kernel_rfl) (by kernel_rfl) (e := Extern.BytealgCount.count) (by kernel_rfl), HR.out]
  simp only [Result.andThen]
  rw [Oper.upon_value]
  go_wp2
  go_ret
  exact ⟨rfl, rfl⟩
/-- What stands at the head of a round of the split: some parts, and the text behind them. -/
structure SpRel (w : World) (l : List UInt8) (i : Nat) (rest : List UInt8) (wr : World) : Prop where
  row : ∃ done, done.length = i ∧ spl l = done ++ spl rest ∧ Whole wr w.heap.size 9 (strV (done ++ List.replicate ((spl l).length - i) [])).toArray
  fr : Fr (fun _ => False) w wr
  sub : rest.length ≤ l.length
theorem SpRel.len {w : World} {l : List UInt8} {i : Nat} {rest : List UInt8} {wr : World} (h : SpRel w l i rest wr) : (spl l).length = i + (spl rest).length := by
  obtain ⟨done, h1, h2, _⟩ := h.row
  rw [h2, List.length_append, h1]
theorem SpRel.pos {w : World} {l : List UInt8} {i : Nat} {rest : List UInt8} {wr : World} (h : SpRel w l i rest wr) : i < (spl l).length := by
  have := h.len
  have := List.length_pos_iff.2 (spl_ne rest)
  omega
theorem SpRel.cell {w : World} {l : List UInt8} {i : Nat} {rest : List UInt8} {wr : World} (h : SpRel w l i rest wr) : ∃ u, wr.cell? ⟨w.heap.size, i, none⟩ = some u := by
  have hp := h.pos
  obtain ⟨done, h1, h2, h3⟩ := h.row
  rw [h3.cell, List.getElem?_toArray]
  exact ⟨_, strV_get _ _ (by rw [List.length_append, List.length_replicate]; omega)⟩
theorem SpRel.frozen {w : World} {l : List UInt8} {i : Nat} {rest : List UInt8} {wr : World} (h : SpRel w l i rest wr) : wr.frozen? ⟨w.heap.size, i, none⟩ = false := by
  obtain ⟨done, h1, h2, h3⟩ := h.row
  exact h3.frozen i
theorem set_str (done : List (List UInt8)) (n : Nat) (p : List UInt8) (hn : 0 < n) : (strV (done ++ List.replicate n [])).toArray.setIfInBounds done.length (.string (strB p)) = (strV (done ++ [p] ++ List.replicate (n - 1) [])).toArray := by
  obtain ⟨m, rfl⟩ : ∃ m, n = m + 1 := ⟨n - 1, by omega⟩
  apply Array.toList_inj.1
  simp only [Array.toList_setIfInBounds]
  rw [List.replicate_succ, strV_append, List.set_append_right _ _ (by rw [strV_len]; exact Nat.le_refl _), strV_len, Nat.sub_self]
  simp [strV]
theorem SpRel.put {w : World} {l : List UInt8} {i : Nat} {rest : List UInt8} {wr : World} (h : SpRel w l i rest wr) (m : Nat) (he : rest = rest.take m ++ 47 :: rest.drop (m + 1)) (hm : ∀ b ∈ rest.take m, b ≠ 47) :
    SpRel w l (i + 1) (rest.drop (m + 1)) (wr.setCell ⟨w.heap.size, i, none⟩ (.string (strB (rest.take m)))) := by
  have hp := h.pos
  obtain ⟨done, h1, h2, h3⟩ := h.row
  refine ⟨⟨done ++ [rest.take m], by simp [h1], ?_, ?_⟩, h.fr.setCell (fun e => absurd e (Nat.lt_irrefl _)) _, by have := h.sub; rw [List.length_drop]; omega⟩
  · rw [h2]
    conv => lhs; rw [he, spl_head _ _ hm]
    simp
  · have := h3.set i (.string (strB (rest.take m)))
    rw [← h1, set_str done _ _ (by omega), h1] at this
    rwa [show (spl l).length - i - 1 = (spl l).length - (i + 1) by omega] at this
theorem SpRel.last {w : World} {l : List UInt8} {i : Nat} {rest : List UInt8} {wr : World} (h : SpRel w l i rest wr) (hi : i + 1 = (spl l).length) :
    Whole (wr.setCell ⟨w.heap.size, i, none⟩ (.string (strB rest))) w.heap.size 9 (strV (spl l)).toArray ∧ Below w.heap.size w (wr.setCell ⟨w.heap.size, i, none⟩ (.string (strB rest))) := by
  have hlen := h.len
  obtain ⟨done, h1, h2, h3⟩ := h.row
  refine ⟨?_, (h.fr.setCell (p := ⟨w.heap.size, i, none⟩) (fun e => absurd e (Nat.lt_irrefl _)) _).below (fun _ _ e => e)⟩
  have h4 : ∀ b ∈ rest, b ≠ 47 := fun b hb e => by
    have hc := spl_count rest
    have : 0 < rest.count 47 := List.count_pos_iff.2 (e ▸ hb)
    omega
  have := h3.set i (.string (strB rest))
  rw [← h1, set_str done _ _ (by omega), h1, show (spl l).length - i - 1 = 0 by omega, List.replicate_zero, List.append_nil] at this
  rwa [← spl_plain rest h4, ← h2] at this
set_option maxHeartbeats 1600000 in
theorem GgenSplit_any (l : List UInt8) (hl : l.length ≤ 900000) (w : World) : Calls Tryd.prog 42 #[.string (strB l), .string (strB [47]), .int .i64 0, .int .i64 (-1)] w fun e w' =>
    e = .returned (.slice (some ⟨w.heap.size, 0, none⟩) (spl l).length (spl l).length) ∧ Whole w' w.heap.size 9 (strV (spl l)).toArray ∧ Below w.heap.size w w' := by
  have hcnt := fun w => GCount_any l w
  have hsc := spl_count l
  have hcl := List.count_le_length (a := (47 : UInt8)) (l := l)
  have hmk := fun w => make_strs (spl l).length (by omega) w
  have hidx := Lib.hid (fun r w => GIndex_any r w)
  have hcs := Lib.hid idx_cases
  have HT := Lib.hid (fun r m h w => slice_to (P := Tryd.prog) w Tryd.underlying9 r m h)
  have HF := Lib.hid (fun r m h w => slice_from (P := Tryd.prog) w Tryd.underlying9 r m h)
  have hR : SpRel w l 0 l (w.alloc (.cells (strV (List.replicate (spl l).length [])).toArray 9)) :=
    ⟨⟨[], rfl, rfl, by rw [List.nil_append]; exact Whole.new w 9 _⟩, (Fr.refl _ w).alloc _, Nat.le_refl _⟩
  have hsz := strB_size l
  have hss : (strB [47]).size = 1 := rfl
  have hne : (strB [47]).toList = [47] := strB_list _
  obtain ⟨n, hn⟩ : ∃ n, (spl l).length = n := ⟨_, rfl⟩
  have HNn := Lib.hid hn
  obtain ⟨K, hK⟩ : ∃ n, l.length = n := ⟨_, rfl⟩
  have HKn := Lib.hid hK
  rw [hn] at hmk hR hsc ⊢
  obtain ⟨Z, hZ⟩ : ∃ Z, (strV (List.replicate n [])).toArray = Z := ⟨_, rfl⟩
  rw [hZ] at hmk hR
  obtain ⟨c, hc⟩ : ∃ c, l.count 47 = c := ⟨_, rfl⟩
  rw [hc] at hcnt hsc hcl
  obtain ⟨S, hS⟩ : ∃ S, strB [47] = S := ⟨_, rfl⟩
  rw [hS] at hidx hcnt hss hne ⊢
  obtain ⟨T, hT⟩ : ∃ S, strB l = S := ⟨_, rfl⟩
  rw [hT] at hcnt hsz ⊢
  rw [hK] at hsz hcl hl
  subst hsc
  have HR := Lib.hid hR
  have HM := Lib.hid hmk
  have HC := Lib.hid hcnt
  have HS := Lib.hid hT
  clear hn hZ hc hS hT hK hR hmk hcnt
  have hmk := fun w => HM.out w
  rw [Int.natCast_add, Int.natCast_one] at hmk
  have hmin : min ((c : Int) + 1) ((K : Int) + 1) = (c : Int) + 1 := by omega
  go_enter Tryd.func42, Tryd.ntmps42
  go_wp2_with (go_at_call 57; refine (HC.out _).mono ?_; rintro e w' ⟨rfl, rfl⟩)
  clear hmk hmin
  go_loopw [0, 10] (fun s i wr => ∃ (k : Nat) (rest : List UInt8), k ≤ c ∧ s = .string (strB rest) ∧ i = .int .i64 k ∧ SpRel w l k rest wr) (fun _ i _ => c - (intOf i).toNat)
  case atStart => exact ⟨0, l, by omega, by rw [HS.out], rfl, HR.out⟩
  case round =>
    obtain ⟨k, rest, hk, rfl, rfl, hr⟩ := hrel
    obtain ⟨u, c1⟩ := hr.cell
    have f1 := hr.frozen
    have hlen := hr.len
    rw [HNn.out, spl_count] at hlen
    have HRR := Lib.hid hr
    clear hr
    by_cases hlt : k < c
    · rcases hcs.out rest with ⟨_, h2⟩ | ⟨m, h1, h2, h3, h4⟩
      · exfalso
        have : 0 < rest.count 47 := by omega
        exact h2 47 (List.count_pos_iff.1 this) rfl
      · have hid := hidx.out rest
        rw [h1] at hid
        have ht := HT.out rest m (by omega)
        have hf := HF.out rest (m + 1) (by omega)
        rw [Int.natCast_add, Int.natCast_one] at hf
        have HNX := Lib.hid (HRR.out.put m h3 h4)
        obtain ⟨A, hA⟩ : ∃ A, strB (rest.take m) = A := ⟨_, rfl⟩
        obtain ⟨B, hB⟩ : ∃ B, rest.drop (m + 1) = B := ⟨_, rfl⟩
        obtain ⟨R, hR⟩ : ∃ A, strB rest = A := ⟨_, rfl⟩
        obtain ⟨D, hD⟩ : ∃ A, strB B = A := ⟨_, rfl⟩
        have HD := Lib.hid hD
        rw [hA] at ht HNX
        rw [hB] at hf HNX
        rw [hD] at hf
        rw [hR] at hid ht hf ⊢
        have hsub := HRR.out.sub
        rw [HKn.out] at hsub
        obtain ⟨z, hz⟩ : ∃ z : Int, ((m : Nat) : Int) = z := ⟨_, rfl⟩
        have z0 : 0 ≤ z := by omega
        have z1 : z ≤ 900000 := by omega
        rw [hz] at hid ht hf
        have HI := Lib.hid hid
        clear hA hB hR hD h1 h2 h3 h4 hid hlen hsub hz
        go_wp2_with (go_at_call 43; refine (HI.out _).mono ?_; rintro e w' ⟨rfl, rfl⟩)
        go_roundw
        case rel => exact ⟨k + 1, B, by omega, by rw [HD.out], by go_num, HNX.out⟩
        case measure => simp [intOf]; omega
    · obtain rfl : k = c := by omega
      have HL := Lib.hid (HRR.out.last (by rw [HNn.out]))
      obtain ⟨R, hR⟩ : ∃ A, strB rest = A := ⟨_, rfl⟩
      rw [hR] at HL ⊢
      clear hR hlen
      go_wp2_with fail
      go_ret
      exact ⟨rfl, HL.out⟩
end Go.Proofs.YtgmohgofcjemkaaDoor
/- What is proved: a text's parts, by the program and by the document. Conditions: the text is not too long for any machine. -/
namespace Go.Proofs.YtgmohgofcjemkaaDoor
open Go.RowKit
set_option linter.unusedVariables false
theorem Lies.of_whole {w : World} {g : Nat} {t : TypeId} {xs : List Value} (h : Whole w g t xs.toArray) : Lies w (some ⟨g, 0, none⟩) xs :=
  .inr ⟨g, 0, rfl, fun j u hu => by rw [Nat.zero_add, h.cell, List.getElem?_toArray]; exact hu⟩
set_option maxHeartbeats 1000000 in
theorem GSplit_any (l : List UInt8) (hl : l.length ≤ 900000) (w : World) : Calls Tryd.prog 34 #[.string (strB l), .string (strB [47])] w fun e w' =>
    e = .returned (.slice (some ⟨w.heap.size, 0, none⟩) (spl l).length (spl l).length) ∧ Lies w' (some ⟨w.heap.size, 0, none⟩) (strV (spl l)) ∧ Below w.heap.size w w' := by
  have hc := Lib.hid (fun w => GgenSplit_any l hl w)
  go_enter Tryd.func34, Tryd.ntmps34
  go_wp2_with (go_at_call 42; refine (hc.out _).mono ?_; rintro e w' ⟨rfl, hW, hB⟩)
  go_ret
  exact ⟨rfl, Lies.of_whole hW, hB⟩
set_option maxHeartbeats 1000000 in
theorem RtParts_any (l : List UInt8) (hl : l.length ≤ 900000) (w : World) : Calls Tryd.prog 26 #[.string (strB l)] w fun e w' =>
    ∃ A c, e = .returned (.slice A (prt l).length c) ∧ (prt l).length ≤ c ∧ Lies w' A (strV (prt l)) ∧ Below w.heap.size w w' := by
  have hc : Hid (∀ w, Calls Tryd.prog 34 #[.string (strB l), .string (ByteArray.mk #[47])] w fun e w' =>
    e = .returned (.slice (some ⟨w.heap.size, 0, none⟩) (spl l).length (spl l).length) ∧ Lies w' (some ⟨w.heap.size, 0, none⟩) (strV (spl l)) ∧ Below w.heap.size w w') := Lib.hid (fun w => GSplit_any l hl w)
  have hL := strB_list l
  by_cases h : l = []
  · have e1 : prt l = [] := by rw [prt, if_pos h]
    rw [e1]
    obtain ⟨S, hS⟩ : ∃ S, strB l = S := ⟨_, rfl⟩
    rw [hS] at hL ⊢
    clear hc e1 hS
    go_enter Tryd.func26, Tryd.ntmps26
    go_wp2
    go_ret
    exact ⟨none, 0, rfl, Nat.le_refl _, .inl rfl, (Fr.refl (fun _ => False) w).below (fun _ _ e => e)⟩
  · rw [prt_of h]
    have h' : l.isEmpty = false := by simpa using h
    obtain ⟨S, hS⟩ : ∃ S, strB l = S := ⟨_, rfl⟩
    rw [hS] at hL hc ⊢
    obtain ⟨P, hP⟩ : ∃ P, spl l = P := ⟨_, rfl⟩
    rw [hP] at hc ⊢
    clear hS hP
    go_enter Tryd.func26, Tryd.ntmps26
    go_wp2_with (go_at_call 34; refine (hc.out _).mono ?_; rintro e w' ⟨rfl, hW, hB⟩)
    go_ret
    exact ⟨_, _, rfl, Nat.le_refl _, hW, hB⟩
/-- One cell that the call has just laid, as a source. -/
theorem src_one {tx e' : TypeId} (hk : Tryd.prog.underlying tx = some (.slice e')) (w : World) (c : Value) (hc : c.oneCell' = true) : Src Tryd.prog 1 tx (.slice (some ⟨w.heap.size, 0, none⟩) 1 1) 1 [c] (w.alloc (.cells #[c] e')) :=
  Src.ofSlice _ hk ⟨w.heap.size, 0, none⟩ 1 1 [c] rfl (by intro j u hj; match j, hj with | 0, hj => simp at hj; subst hj; simp [Addr.add]) (by intro u hu; simp at hu; subst hu; exact hc)
theorem fr_append {w0 w w' : World} {v : Value} {n : Nat} {xs : List Value} {e : TypeId} {size : Nat} (h : w.ownsRow w0.heap.size e size v n xs) (f : Fr (fun _ => False) w0 w) (hg : w.grownBy w' v.ownBlock) : Fr (fun _ => False) w0 w' :=
  f.grown hg (fun k hk hlt => absurd hlt (by have := (World.ownsRow.lt h k hk).1; omega))
/-- What stands at the head of a round of the document's Parts. -/
structure QpRel (w : World) (l : List UInt8) (k : Nat) (v : Value) (acc : List (List UInt8)) (now : List UInt8) (wr : World) : Prop where
  own : wr.ownsRow w.heap.size 9 1 v acc.length (strV acc)
  fr : Fr (fun _ => False) w wr
  say : spl (l.take k) = acc ++ [now]
theorem QpRel.small {w : World} {l : List UInt8} {k : Nat} {v : Value} {acc : List (List UInt8)} {now : List UInt8} {wr : World} (h : QpRel w l k v acc now wr) : now.length ≤ l.length ∧ acc.length ≤ l.length := by
  have h1 := spl_len_le (l.take k) now (by rw [h.say]; simp)
  have h2 := spl_count (l.take k)
  rw [h.say, List.length_append, List.length_singleton] at h2
  have h3 := List.count_le_length (a := (47 : UInt8)) (l := l.take k)
  rw [List.length_take] at h1 h3
  omega
theorem take_snoc (l : List UInt8) (k : Nat) (h : k < l.length) : l.take (k + 1) = l.take k ++ [l.getD k 0] := by
  rw [List.take_add_one, List.getElem?_eq_getElem h, List.getD_eq_getElem?_getD, List.getElem?_eq_getElem h]
  rfl
set_option maxHeartbeats 3200000 in
theorem QrParts_any (l : List UInt8) (hl : l.length ≤ 900000) (w : World) : Calls Tryd.prog 20 #[.string (strB l)] w fun e w' =>
    ∃ A c, e = .returned (.slice A (prt l).length c) ∧ (prt l).length ≤ c ∧ Lies w' A (strV (prt l)) ∧ Below w.heap.size w w' := by
  obtain ⟨i0, hi, hz0, hz1, hz2⟩ := info_parts info_str
  have hL := strB_list l
  have hsz := strB_size l
  have HIX := Lib.hid (fun k hk w => index_str (P := Tryd.prog) w Tryd.underlying9 l k hk)
  have HSL := Lib.hid (fun k hk w => slice_one (P := Tryd.prog) w Tryd.underlying9 l k hk)
  by_cases h : l = []
  · have e1 : prt l = [] := by rw [prt, if_pos h]
    rw [e1]
    obtain ⟨S, hS⟩ : ∃ S, strB l = S := ⟨_, rfl⟩
    rw [hS] at hL ⊢
    clear e1 hS hsz HIX HSL
    go_enter Tryd.func20, Tryd.ntmps20
    go_wp2
    go_ret
    exact ⟨none, 0, rfl, Nat.le_refl _, .inl rfl, (Fr.refl (fun _ => False) w).below (fun _ _ e => e)⟩
  · rw [prt_of h]
    have h' : l.isEmpty = false := by simpa using h
    have HE : Hid (strB [] = ByteArray.mk #[]) := Lib.hid rfl
    obtain ⟨S, hS⟩ : ∃ S, strB l = S := ⟨_, rfl⟩
    rw [hS] at hL hsz HIX HSL ⊢
    obtain ⟨n, hn⟩ : ∃ n, l.length = n := ⟨_, rfl⟩
    have HNn := Lib.hid hn
    rw [hn] at hl hsz HIX HSL
    clear hS hn
    go_enter Tryd.func20, Tryd.ntmps20
    go_wp2
    clear hL h h'
    go_loopw [3, 4, 5] (fun v s i wr => ∃ (k : Nat) (acc : List (List UInt8)) (now : List UInt8), k ≤ n ∧ i = .int .i64 k ∧ s = .string (strB now) ∧ QpRel w l k v acc now wr) (fun _ _ i _ => n - (intOf i).toNat)
    case atStart => exact ⟨0, [], [], by omega, rfl, by rw [HE.out], World.ownsRow_nil w w.heap.size 9 1, Fr.refl _ _, rfl⟩
    case round =>
      obtain ⟨k, acc, now, hk, rfl, rfl, hr⟩ := hrel
      obtain ⟨A, c, hv, hnc, hcm⟩ := own_slice hr.own
      subst hv
      obtain ⟨hnow, hacc⟩ := hr.small
      rw [HNn.out] at hnow hacc
      have HR := Lib.hid hr
      clear hr
      by_cases hlt : k < n
      · have hix := HIX.out k hlt
        have htk := Lib.hid (take_snoc l k (by rw [HNn.out]; exact hlt))
        by_cases hb : l.getD k 0 = 47
        · rw [hb] at hix htk
          have e47 : (((47 : UInt8).toNat : Nat) : Int) = 47 := rfl
          rw [e47] at hix
          obtain ⟨R, hR⟩ : ∃ R, strB now = R := ⟨_, rfl⟩
          have HRn := Lib.hid hR
          rw [hR]
          clear hR hb
          go_wp2_with (at_builtin; refine wpList_append_row _ rfl (.tmp 19) (.tmp 21) 22 22 rfl w.heap.size 9 i0 (.string (strB [])) 1 16 Tryd.underlying22 hi hz0 hz1 hz2 rfl _ acc.length _ rfl ((HR.out.own).alloc _) _ 1 [.string R] rfl (src_one Tryd.underlying22 _ _ rfl) (by unfold maxLen; omega) (by omega) (by have := HR.out.fr.size; simp; omega) ?_
                       intro v1 w2 o1 g1 at1)
          have hn : QpRel w l (k + 1) v1 (acc ++ [now]) [] w2 := ⟨by rw [strV_append, List.length_append, ← HRn.out] at *; exact o1, fr_append (HR.out.own.alloc _) (HR.out.fr.alloc _) g1, by rw [htk.out, spl_snoc47, HR.out.say]⟩
          have HN := Lib.hid hn
          clear hn o1 g1 at1
          go_roundw
          case rel => exact ⟨k + 1, _, _, by omega, by go_num, by rw [HE.out], HN.out⟩
          case measure => simp [intOf]; omega
        · have hsl := HSL.out k hlt
          have hadd := fun w => add_str (P := Tryd.prog) now [l.getD k 0] (by rw [List.length_singleton]; omega) w
          have HN : Hid (QpRel w l (k + 1) (.slice A acc.length c) acc (now ++ [l.getD k 0]) wr) := Lib.hid ⟨HR.out.own, HR.out.fr, by rw [htk.out, spl_snoc _ _ hb _ _ HR.out.say]⟩
          obtain ⟨z, hz⟩ : ∃ z : Int, (((l.getD k 0).toNat : Nat) : Int) = z := ⟨_, rfl⟩
          have hz47 : ¬ z = 47 := fun e => hb (UInt8.toNat_inj.1 (by show (l.getD k 0).toNat = 47; omega))
          rw [hz] at hix
          obtain ⟨R, hR⟩ : ∃ R, strB now = R := ⟨_, rfl⟩
          obtain ⟨U, hU⟩ : ∃ R, strB [l.getD k 0] = R := ⟨_, rfl⟩
          obtain ⟨nx, hnx⟩ : ∃ R, now ++ [l.getD k 0] = R := ⟨_, rfl⟩
          obtain ⟨V, hV⟩ : ∃ R, strB nx = R := ⟨_, rfl⟩
          have HV := Lib.hid hV
          rw [hU] at hsl hadd
          rw [hnx] at hadd HN
          rw [hR, hV] at hadd
          rw [hR]
          clear hR hU hV hnx hb hz htk
          go_wp2_with fail
          go_roundw
          case rel => exact ⟨k + 1, _, nx, by omega, by go_num, by rw [HV.out], HN.out⟩
          case measure => simp [intOf]; omega
      · obtain rfl : k = n := by omega
        obtain ⟨R, hR⟩ : ∃ R, strB now = R := ⟨_, rfl⟩
        have HRn := Lib.hid hR
        rw [hR]
        clear hR
        go_wp2_with (at_builtin; refine wpList_append_row _ rfl (.tmp 30) (.tmp 32) 22 22 rfl w.heap.size 9 i0 (.string (strB [])) 1 16 Tryd.underlying22 hi hz0 hz1 hz2 rfl _ acc.length _ rfl ((HR.out.own).alloc _) _ 1 [.string R] rfl (src_one Tryd.underlying22 _ _ rfl) (by unfold maxLen; omega) (by omega) (by have := HR.out.fr.size; simp; omega) ?_
                     intro v1 w2 o1 g1 at1)
        have hs : spl l = acc ++ [now] := by
          have := HR.out.say
          rwa [← HNn.out, List.take_length] at this
        have hf := fr_append (HR.out.own.alloc (.cells #[.string R] 9)) (HR.out.fr.alloc _) g1
        obtain ⟨A', c', hv, hnc', hcm'⟩ := own_slice o1
        subst hv
        have hli := Lies.of_own o1
        go_ret
        refine ⟨A', c', ?_, ?_, ?_, hf.below (fun _ _ e => e)⟩
        · rw [hs, List.length_append]; rfl
        · rw [hs, List.length_append]; exact hnc'
        · rw [hs, strV_append, ← HRn.out] at *
          exact hli
end Go.Proofs.YtgmohgofcjemkaaDoor
/- What is proved: what the library finds in lists of texts, and of truths. Conditions: the list's cells are there. -/
namespace Go.Proofs.YtgmohgofcjemkaaDoor
open Go.RowKit
set_option linter.unusedVariables false
theorem lies_str {w w' : World} {A : Option Addr} {ps : List (List UInt8)} (h : Lies w A (strV ps)) (f : Fr (fun _ => False) w w') : ∀ k, k < ps.length → ∃ b o, A = some ⟨b, o, none⟩ ∧ w'.cell? ⟨b, o + k, none⟩ = some (.string (strB (ps.getD k []))) := by
  intro k hk
  rcases h with h | ⟨b, o, rfl, hc⟩
  · have := congrArg List.length h
    rw [strV_len, List.length_nil] at this
    omega
  · exact ⟨b, o, rfl, f.cell (hc k _ (strV_get ps k hk)) (fun e => e)⟩
/-- The place of the first one that is asked for; -1: there is none. -/
structure FirstAt (n : Nat) (p : Nat → Bool) (r : Int) : Prop where
  cases : (r = -1 ∧ ∀ j, j < n → p j = false) ∨ ∃ k : Nat, r = k ∧ k < n ∧ p k = true
theorem FirstAt.any {α : Type} {ps : List α} {d : α} {p : α → Bool} {r : Int} (h : FirstAt ps.length (fun j => p (ps.getD j d)) r) : decide (0 ≤ r) = ps.any p := by
  rw [Bool.eq_iff_iff, decide_eq_true_eq, List.any_eq_true]
  rcases h.cases with ⟨rfl, h1⟩ | ⟨k, rfl, hk, h1⟩
  · refine ⟨fun h => by omega, ?_⟩
    rintro ⟨x, hx, hp⟩
    obtain ⟨j, hj, rfl⟩ := List.getElem_of_mem hx
    have := h1 j hj
    simp only [List.getD_eq_getElem?_getD, List.getElem?_eq_getElem hj, Option.getD_some] at this
    rw [hp] at this
    cases this
  · refine ⟨fun _ => ⟨ps[k], List.getElem_mem hk, ?_⟩, fun _ => by omega⟩
    simpa only [List.getD_eq_getElem?_getD, List.getElem?_eq_getElem hk, Option.getD_some] using h1
set_option maxHeartbeats 3200000 in
theorem GIdxFuncS_any (g : Nat) (cb : Array Value) (A : Option Addr) (c : Nat) (ps : List (List UInt8)) (p : List UInt8 → Bool) (w : World) (eg : ∀ args w, (callFunc g args).run Tryd.prog w = .ok (.enter g args) w) (hn : ps.length ≤ 1000000)
    (hf : ∀ (q : Later w) (i : Nat), i < ps.length → Calls Tryd.prog g (#[.string (strB (ps.getD i []))] ++ cb) q.w' fun e w' => e = .returned (.bool (p (ps.getD i []))) ∧ Below q.w'.heap.size q.w' w')
    (h : Lies w A (strV ps)) :
    Calls Tryd.prog 37 #[.slice A ps.length c, .func (.func g) #[] cb] w fun e w' => ∃ r, e = .returned (.int .i64 r) ∧ FirstAt ps.length (fun j => p (ps.getD j [])) r ∧ Below w.heap.size w w' := by
  have HF := Lib.hid hf
  have HL := Lib.hid (fun w' (f : Fr (fun _ => False) w w') => lies_str h f)
  obtain ⟨n, hn'⟩ : ∃ n, ps.length = n := ⟨_, rfl⟩
  rw [hn'] at hn HF HL ⊢
  clear hf h hn'
  go_enter Tryd.func37, Tryd.ntmps37
  go_wp2
  go_loopw [8] (fun i wr => ∃ k : Nat, k ≤ n ∧ i = .int .i64 k ∧ Fr (fun _ => False) w wr ∧ Hid (∀ j, j < k → p (ps.getD j []) = false)) (fun i _ => n - (intOf i).toNat)
  case atStart => exact ⟨0, by omega, rfl, Fr.refl _ _, Lib.hid (fun j hj => by omega)⟩
  case round =>
    obtain ⟨k, hk, rfl, hfr, hI⟩ := hrel
    have HFr := Lib.hid hfr
    by_cases hlt : k < n
    · obtain ⟨b, o, rfl, hc⟩ := HL.out wr hfr k hlt
      have hcall := HF.out ⟨wr, hfr⟩ k hlt
      simp only at hcall
      obtain ⟨x, hx⟩ : ∃ x, ps.getD k [] = x := ⟨_, rfl⟩
      have HX := Lib.hid hx
      rw [hx] at hc hcall
      obtain ⟨S, hS⟩ : ∃ S, strB x = S := ⟨_, rfl⟩
      rw [hS] at hc hcall
      obtain ⟨b0, hb0⟩ : ∃ b, p x = b := ⟨_, rfl⟩
      rw [hb0] at hcall
      have HB := Lib.hid hb0
      have HC := Lib.hid hcall
      clear hx hS hb0 hfr hcall
      cases b0
      · go_wp2_with (go_at_fn g; refine HC.out.mono ?_; rintro e w3 ⟨rfl, b3⟩)
        have HF3 := Lib.hid (HFr.out.then_below b3)
        go_roundw
        case rel => exact ⟨k + 1, by omega, by go_num, HF3.out, Lib.hid (fun j hj => (by omega : j < k ∨ j = k).elim (hI.out j) (fun e => by rw [e, HX.out, HB.out]))⟩
        case measure => simp [intOf]; omega
      · go_wp2_with (go_at_fn g; refine HC.out.mono ?_; rintro e w3 ⟨rfl, b3⟩)
        go_ret
        exact ⟨k, rfl, ⟨.inr ⟨k, rfl, hlt, by rw [HX.out, HB.out]⟩⟩, (HFr.out.then_below b3).below (fun _ _ e => e)⟩
    · obtain rfl : k = n := by omega
      clear hfr
      go_wp2_with fail
      go_ret
      exact ⟨-1, rfl, ⟨.inl ⟨rfl, hI.out⟩⟩, HFr.out.below (fun _ _ e => e)⟩
set_option maxHeartbeats 1600000 in
theorem GContFuncS_any (g : Nat) (cb : Array Value) (A : Option Addr) (c : Nat) (ps : List (List UInt8)) (p : List UInt8 → Bool) (w : World) (eg : ∀ args w, (callFunc g args).run Tryd.prog w = .ok (.enter g args) w) (hn : ps.length ≤ 1000000)
    (hf : ∀ (q : Later w) (i : Nat), i < ps.length → Calls Tryd.prog g (#[.string (strB (ps.getD i []))] ++ cb) q.w' fun e w' => e = .returned (.bool (p (ps.getD i []))) ∧ Below q.w'.heap.size q.w' w')
    (h : Lies w A (strV ps)) :
    Calls Tryd.prog 29 #[.slice A ps.length c, .func (.func g) #[] cb] w fun e w' => e = .returned (.bool (ps.any p)) ∧ Below w.heap.size w w' := by
  have HC := Lib.hid (GIdxFuncS_any g cb A c ps p w eg hn hf h)
  clear hf h eg
  go_enter Tryd.func29, Tryd.ntmps29
  go_wp2_with (go_at_call 37; refine HC.out.mono ?_; rintro e w' ⟨r, rfl, hr, b⟩)
  have HR := Lib.hid hr.any
  clear hr
  go_ret
  exact ⟨by rw [← HR.out]; rfl, b⟩
end Go.Proofs.YtgmohgofcjemkaaDoor
/- What is proved: names by the document; paths and patterns, by the program and by the document. Conditions: the text is not too long for any machine. -/
namespace Go.Proofs.YtgmohgofcjemkaaDoor
open Go.RowKit
set_option linter.unusedVariables false
theorem one_part (l : List UInt8) (h : l ≠ []) : decide ((prt l).length = 1) = !l.contains 47 := by
  rw [prt_of h, spl_count, Bool.eq_iff_iff]
  simp [List.count_eq_zero]
theorem right_name (l : List UInt8) (n : Nat) (hn : l.length = n) : nameB l = (decide (1 ≤ n) && decide (n ≤ 32) && visB l && (decide ((prt l).length = 1) && !(l == [46]) && !(l == [46, 46]))) := by
  by_cases h : l = []
  · subst h; subst hn; rfl
  · rw [one_part l h, name_eq l n hn]
    simp only [Bool.and_assoc]
set_option maxHeartbeats 3200000 in
theorem QrName_any (l : List UInt8) (hl : l.length ≤ 900000) (w : World) : Calls Tryd.prog 21 #[.string (strB l)] w fun e w' => e = .returned (.bool (nameB l)) ∧ Below w.heap.size w w' := by
  have c1 := Lib.hid (fun w => Qrseen_any l (by omega) w)
  have c2 := Lib.hid (fun w => QrParts_any l hl w)
  have hsz := strB_size l
  have hL := strB_list l
  obtain ⟨S, hS⟩ : ∃ S, strB l = S := ⟨_, rfl⟩
  obtain ⟨n, hn⟩ : ∃ n, l.length = n := ⟨_, rfl⟩
  rw [hS] at hsz hL c1 c2 ⊢
  have HE := Lib.hid (right_name l n hn)
  rw [hn] at hsz hl
  obtain ⟨r, hr⟩ : ∃ r, nameB l = r := ⟨_, rfl⟩
  rw [hr] at HE ⊢
  obtain ⟨b4, hb4⟩ : ∃ b, visB l = b := ⟨_, rfl⟩
  obtain ⟨m, hm⟩ : ∃ b, (prt l).length = b := ⟨_, rfl⟩
  rw [hb4] at c1 HE
  rw [hm] at c2 HE
  have HB := Lib.hid ((Fr.refl (fun _ => False) w).below (fun _ _ e => e))
  clear hb4 hm hn hS hr
  go_enter Tryd.func21, Tryd.ntmps21
  by_cases h1 : 1 ≤ n
  · have hd1 : decide (1 ≤ n) = true := decide_eq_true h1
    by_cases h2 : n ≤ 32
    · have hd2 : decide (n ≤ 32) = true := decide_eq_true h2
      cases b4
      · go_wp2_with (go_at_call 33; refine (c1.out _).mono ?_; rintro e w' ⟨rfl, rfl⟩)
        go_ret
        exact ⟨by rw [HE.out]; simp, HB.out⟩
      · by_cases h3 : m = 1
        · have hd3 : decide (m = 1) = true := decide_eq_true h3
          by_cases h4 : l = [46]
          · go_wp2_with (first
              | (go_at_call 33; refine (c1.out _).mono ?_; rintro e w' ⟨rfl, rfl⟩)
              | (go_at_call 20; refine (c2.out _).mono ?_; rintro e w' ⟨A, c, rfl, _, _, b⟩))
            go_ret
            exact ⟨by rw [HE.out, h4]; simp, b⟩
          · have e1 : (l == [46]) = false := by simpa using h4
            by_cases h5 : l = [46, 46]
            · go_wp2_with (first
                | (go_at_call 33; refine (c1.out _).mono ?_; rintro e w' ⟨rfl, rfl⟩)
                | (go_at_call 20; refine (c2.out _).mono ?_; rintro e w' ⟨A, c, rfl, _, _, b⟩))
              go_ret
              exact ⟨by rw [HE.out, h5]; simp, b⟩
            · have e2 : (l == [46, 46]) = false := by simpa using h5
              go_wp2_with (first
                | (go_at_call 33; refine (c1.out _).mono ?_; rintro e w' ⟨rfl, rfl⟩)
                | (go_at_call 20; refine (c2.out _).mono ?_; rintro e w' ⟨A, c, rfl, _, _, b⟩))
              go_ret
              exact ⟨by rw [HE.out, hd1, hd2, hd3, e1, e2]; rfl, b⟩
        · have hd3 : decide (m = 1) = false := decide_eq_false h3
          go_wp2_with (first
            | (go_at_call 33; refine (c1.out _).mono ?_; rintro e w' ⟨rfl, rfl⟩)
            | (go_at_call 20; refine (c2.out _).mono ?_; rintro e w' ⟨A, c, rfl, _, _, b⟩))
          go_ret
          exact ⟨by rw [HE.out, hd3]; simp, b⟩
    · have hd2 : decide (n ≤ 32) = false := decide_eq_false h2
      go_wp2
      go_ret
      exact ⟨by rw [HE.out, hd2]; simp, HB.out⟩
  · have hd1 : decide (1 ≤ n) = false := decide_eq_false h1
    go_wp2
    go_ret
    exact ⟨by rw [HE.out, hd1]; simp, HB.out⟩
set_option maxHeartbeats 1600000 in
theorem RtRight1_any (l : List UInt8) (hl : l.length ≤ 9223372036854775806) (w : World) : Calls Tryd.prog 27 #[.string (strB l)] w fun e w' => e = .returned (.bool (!nameB l)) ∧ Below w.heap.size w w' := by
  have c1 := Lib.hid (fun w => RtName_any l hl w)
  obtain ⟨r, hr⟩ : ∃ r, nameB l = r := ⟨_, rfl⟩
  rw [hr] at c1 ⊢
  clear hr
  go_enter Tryd.func27, Tryd.ntmps27
  go_wp2_with (go_at_call 28; refine (c1.out _).mono ?_; rintro e w' ⟨rfl, rfl⟩)
  go_ret
  exact ⟨rfl, (Fr.refl (fun _ => False) w).below (fun _ _ e => e)⟩
theorem enter_right1 : ∀ args w, (callFunc 27 args).run Tryd.prog w = .ok (.enter 27 args) w := enters_of Tryd.func27 (by kernel_rfl) rfl
theorem right_eq (l : List UInt8) (n : Nat) (hn : l.length = n) (h : l ≠ []) : rightB l = (decide (n ≤ 120) && (decide ((prt l).length ≤ 6) && !(prt l).any fun p => !nameB p)) := by
  rw [rightB, hn, prt_of h, show (l == []) = false by simpa using h]
  congr 3
  rw [Bool.eq_iff_iff]
  simp
set_option maxHeartbeats 3200000 in
theorem RtRight_any (l : List UInt8) (hl : l.length ≤ 900000) (w : World) : Calls Tryd.prog 14 #[.string (strB l)] w fun e w' => e = .returned (.bool (rightB l)) ∧ Below w.heap.size w w' := by
  have c1 := Lib.hid (fun w => RtParts_any l hl w)
  have c2 := Lib.hid (fun A c w' (h : Lies w' A (strV (prt l))) => GContFuncS_any 27 #[] A c (prt l) (fun p => !nameB p) w' enter_right1 (by have := prt_len l; omega)
    (fun q i hi => RtRight1_any _ (by
      have hne : l ≠ [] := fun e => by rw [e] at hi; simp [prt] at hi
      rw [prt_of hne] at hi ⊢
      have := spl_len_le l ((spl l).getD i []) (by rw [List.getD_eq_getElem?_getD, List.getElem?_eq_getElem hi]; exact List.getElem_mem hi)
      omega) _) h)
  have hsz := strB_size l
  have hL := strB_list l
  have HN : Hid (rightB [] = false) := Lib.hid rfl
  obtain ⟨S, hS⟩ : ∃ S, strB l = S := ⟨_, rfl⟩
  obtain ⟨n, hn⟩ : ∃ n, l.length = n := ⟨_, rfl⟩
  rw [hS] at hsz hL c1 ⊢
  have HE := Lib.hid (right_eq l n hn)
  have HL0 : Hid (l = [] → n = 0) := Lib.hid (fun e => by rw [← hn, e]; rfl)
  rw [hn] at hsz hl
  obtain ⟨b, hb⟩ : ∃ b, ((prt l).any fun p => !nameB p) = b := ⟨_, rfl⟩
  rw [hb] at c2 HE
  obtain ⟨m, hm⟩ : ∃ b, (prt l).length = b := ⟨_, rfl⟩
  rw [hm] at c1 c2 HE
  have HB := Lib.hid ((Fr.refl (fun _ => False) w).below (fun _ _ e => e))
  clear hb hm hn hS
  go_enter Tryd.func14, Tryd.ntmps14
  by_cases h0 : l = []
  · go_wp2
    go_ret
    exact ⟨by rw [h0, HN.out]; rfl, HB.out⟩
  · have h0' : l.isEmpty = false := by simpa using h0
    have HE' := Lib.hid (HE.out h0)
    obtain ⟨r, hr⟩ : ∃ r, rightB l = r := ⟨_, rfl⟩
    rw [hr] at HE' ⊢
    clear hr
    by_cases h1 : n ≤ 120
    · have hd1 : decide (n ≤ 120) = true := decide_eq_true h1
      by_cases h2 : m ≤ 6
      · have hd2 : decide (m ≤ 6) = true := decide_eq_true h2
        go_wp2_with (first
          | (go_at_call 26; refine (c1.out _).mono ?_; rintro e w1 ⟨A, c, rfl, hc, hli, b1⟩)
          | (go_at_call 29; refine (c2.out _ _ _ hli).mono ?_; rintro e w2 ⟨rfl, b2⟩))
        go_ret
        exact ⟨by rw [HE'.out, hd1, hd2]; rfl, ((Fr.of_below (S := fun _ => False) b1).then_below b2).below (fun _ _ e => e)⟩
      · have hd2 : decide (m ≤ 6) = false := decide_eq_false h2
        go_wp2_with (go_at_call 26; refine (c1.out _).mono ?_; rintro e w1 ⟨A, c, rfl, hc, hli, b1⟩)
        go_ret
        exact ⟨by rw [HE'.out, hd2]; simp, b1⟩
    · have hd1 : decide (n ≤ 120) = false := decide_eq_false h1
      go_wp2
      go_ret
      exact ⟨by rw [HE'.out, hd1]; simp, HB.out⟩
/-- As far as here, all are right. -/
theorem all_of {ps : List (List UInt8)} {p : List UInt8 → Bool} (h : ∀ j, j < ps.length → p (ps.getD j []) = true) : ps.all p = true := by
  rw [List.all_eq_true]
  intro x hx
  obtain ⟨j, hj, rfl⟩ := List.getElem_of_mem hx
  have := h j hj
  rwa [List.getD_eq_getElem?_getD, List.getElem?_eq_getElem hj, Option.getD_some] at this
theorem not_all {ps : List (List UInt8)} {p : List UInt8 → Bool} {j : Nat} (hj : j < ps.length) (h : p (ps.getD j []) = false) : ps.all p = false := by
  rw [← Bool.not_eq_true, List.all_eq_true]
  intro ha
  rw [List.getD_eq_getElem?_getD, List.getElem?_eq_getElem hj, Option.getD_some] at h
  rw [ha _ (List.getElem_mem hj)] at h
  cases h
theorem right_doc (l : List UInt8) (n : Nat) (hn : l.length = n) : rightB l = (decide (n ≤ 120) && ((prt l).all nameB && (decide (1 ≤ (prt l).length) && decide ((prt l).length ≤ 6)))) := by
  by_cases h : l = []
  · subst h; subst hn; rfl
  · rw [rightB, hn, prt_of h, show (l == []) = false by simpa using h, decide_eq_true (show 1 ≤ (spl l).length from List.length_pos_iff.2 (spl_ne l))]
    simp only [Bool.not_false, Bool.true_and]
    rw [Bool.and_comm (decide _) ((spl l).all nameB)]
theorem part_small (l : List UInt8) (i : Nat) (hi : i < (prt l).length) : ((prt l).getD i []).length ≤ l.length := by
  have hne : l ≠ [] := fun e => by rw [e] at hi; simp [prt] at hi
  rw [prt_of hne] at hi ⊢
  exact spl_len_le l ((spl l).getD i []) (by rw [List.getD_eq_getElem?_getD, List.getElem?_eq_getElem hi]; exact List.getElem_mem hi)
set_option maxHeartbeats 3200000 in
theorem QrRight_any (l : List UInt8) (hl : l.length ≤ 900000) (w : World) : Calls Tryd.prog 10 #[.string (strB l)] w fun e w' => e = .returned (.bool (rightB l)) ∧ Below w.heap.size w w' := by
  have c1 := Lib.hid (fun w => QrParts_any l hl w)
  have c2 := Lib.hid (fun i (hi : i < (prt l).length) w => QrName_any ((prt l).getD i []) (by have := part_small l i hi; omega) w)
  have HLs := Lib.hid (fun (w w' : World) (A : Option Addr) (h : Lies w A (strV (prt l))) (f : Fr (fun _ => False) w w') => lies_str h f)
  have hA := Lib.hid (all_of (ps := prt l) (p := nameB))
  have hNA := Lib.hid (fun j => not_all (ps := prt l) (p := nameB) (j := j))
  have hmb := prt_len l
  have hsz := strB_size l
  obtain ⟨S, hS⟩ : ∃ S, strB l = S := ⟨_, rfl⟩
  obtain ⟨n, hn⟩ : ∃ n, l.length = n := ⟨_, rfl⟩
  rw [hS] at hsz c1 ⊢
  have HE := Lib.hid (right_doc l n hn)
  rw [hn] at hsz hl hmb
  obtain ⟨b, hb⟩ : ∃ b, (prt l).all nameB = b := ⟨_, rfl⟩
  rw [hb] at HE hA hNA
  obtain ⟨r, hr⟩ : ∃ b, rightB l = b := ⟨_, rfl⟩
  rw [hr] at HE ⊢
  obtain ⟨m, hm⟩ : ∃ b, (prt l).length = b := ⟨_, rfl⟩
  rw [hm] at c1 c2 HE HLs hA hNA hmb
  obtain ⟨PP, hPP⟩ : ∃ P, prt l = P := ⟨_, rfl⟩
  rw [hPP] at c1 c2 HLs hA hNA
  clear hb hr hm hn hS hPP
  go_enter Tryd.func10, Tryd.ntmps10
  by_cases h1 : n ≤ 120
  · have hd1 : decide (n ≤ 120) = true := decide_eq_true h1
    go_wp2_with (go_at_call 20; refine (c1.out _).mono ?_; rintro e w1 ⟨A, c, rfl, hc, hli, b1⟩)
    have HL := Lib.hid hli
    have HB1 := Lib.hid b1
    clear hli b1
    go_loopw [4] (fun i wr => ∃ k : Nat, k ≤ m ∧ i = .int .i64 k ∧ Hid (∀ j, j < k → nameB (PP.getD j []) = true) ∧ Fr (fun _ => False) w1 wr) (fun i _ => m - (intOf i).toNat)
    case atStart => exact ⟨0, by omega, rfl, Lib.hid (fun j hj => by omega), Fr.refl _ _⟩
    case round =>
      obtain ⟨k, hk, rfl, hI, hfr⟩ := hrel
      have HFr := Lib.hid hfr
      by_cases hlt : k < m
      · obtain ⟨bb, o, rfl, hcell⟩ := HLs.out _ _ _ HL.out hfr k hlt
        have hcall := c2.out k hlt
        obtain ⟨x, hx⟩ : ∃ x, PP.getD k [] = x := ⟨_, rfl⟩
        have HX := Lib.hid hx
        rw [hx] at hcell hcall
        obtain ⟨X, hX⟩ : ∃ S, strB x = S := ⟨_, rfl⟩
        rw [hX] at hcell hcall
        obtain ⟨b0, hb0⟩ : ∃ b, nameB x = b := ⟨_, rfl⟩
        rw [hb0] at hcall
        have HB0 := Lib.hid hb0
        have HC := Lib.hid hcall
        clear hx hX hb0 hcall hfr
        cases b0
        · go_wp2_with (go_at_call 21; refine (HC.out _).mono ?_; rintro e w3 ⟨rfl, b3⟩)
          go_ret
          exact ⟨by rw [HE.out, hNA.out k hlt (by rw [HX.out, HB0.out])]; simp, ((Fr.of_below (S := fun _ => False) HB1.out).trans (HFr.out.then_below b3) (fun _ _ e => e)).below (fun _ _ e => e)⟩
        · go_wp2_with (go_at_call 21; refine (HC.out _).mono ?_; rintro e w3 ⟨rfl, b3⟩)
          have HF3 := Lib.hid (HFr.out.then_below b3)
          go_roundw
          case rel => exact ⟨k + 1, by omega, by go_num, Lib.hid (fun j hj => (by omega : j < k ∨ j = k).elim (hI.out j) (fun e => by rw [e, HX.out, HB0.out])), HF3.out⟩
          case measure => simp [intOf]; omega
      · obtain rfl : k = m := by omega
        have HBl := Lib.hid (((Fr.of_below (S := fun _ => False) HB1.out).trans hfr (fun _ _ e => e)).below (fun _ _ e => e))
        have HAll := Lib.hid (hA.out hI.out)
        clear hfr
        by_cases h2 : 1 ≤ k
        · have hd2 : decide (1 ≤ k) = true := decide_eq_true h2
          by_cases h3 : k ≤ 6
          · have hd3 : decide (k ≤ 6) = true := decide_eq_true h3
            go_wp2_with fail
            go_ret
            exact ⟨by rw [HE.out, hd1, hd2, hd3, HAll.out]; simp; omega, HBl.out⟩
          · have hd3 : decide (k ≤ 6) = false := decide_eq_false h3
            go_wp2_with fail
            go_ret
            exact ⟨by rw [HE.out, hd3]; simp; omega, HBl.out⟩
        · have hd2 : decide (1 ≤ k) = false := decide_eq_false h2
          go_wp2_with fail
          go_ret
          exact ⟨by rw [HE.out, hd2]; simp, HBl.out⟩
  · have hd1 : decide (n ≤ 120) = false := decide_eq_false h1
    go_wp2
    go_ret
    exact ⟨by rw [HE.out, hd1]; simp, (Fr.refl (fun _ => False) _).below (fun _ _ e => e)⟩
end Go.Proofs.YtgmohgofcjemkaaDoor
/- What is proved: that the program works at the examples; how long a text is; one list is itself. Conditions: none beyond each lemma's own premises. -/
namespace Go.Proofs.YtgmohgofcjemkaaDoor
open Go.RowKit
set_option linter.unusedVariables false
set_option maxHeartbeats 3200000 in
theorem QrSame_any (ps : List (List UInt8)) (hps : ps.length ≤ 1000000) (A B : Option Addr) (c d : Nat) (w : World) (ha : Lies w A (strV ps)) (hb : Lies w B (strV ps)) :
    Calls Tryd.prog 7 #[.slice A ps.length c, .slice B ps.length d] w fun e w' => e = .returned (.bool true) ∧ Below w.heap.size w w' := by
  have HA := Lib.hid (fun w' (f : Fr (fun _ => False) w w') => lies_str ha f)
  have HB := Lib.hid (fun w' (f : Fr (fun _ => False) w w') => lies_str hb f)
  obtain ⟨n, hn⟩ : ∃ n, ps.length = n := ⟨_, rfl⟩
  rw [hn] at HA HB hps ⊢
  clear ha hb hn
  go_enter Tryd.func7, Tryd.ntmps7
  go_wp2
  go_loopw [5] (fun i wr => ∃ k : Nat, k ≤ n ∧ i = .int .i64 k ∧ Fr (fun _ => False) w wr) (fun i _ => n - (intOf i).toNat)
  case atStart => exact ⟨0, by omega, rfl, Fr.refl _ _⟩
  case round =>
    obtain ⟨k, hk, rfl, hfr⟩ := hrel
    have HFr := Lib.hid hfr
    by_cases hlt : k < n
    · obtain ⟨b1, o1, rfl, hc1⟩ := HA.out wr hfr k hlt
      obtain ⟨b2, o2, rfl, hc2⟩ := HB.out wr hfr k hlt
      have hki : (k : Int) < n := by omega
      obtain ⟨S, hS⟩ : ∃ S, strB (ps.getD k []) = S := ⟨_, rfl⟩
      rw [hS] at hc1 hc2
      clear hS hfr
      go_wp2_with fail
      go_quiet (fail)
      go_wp2
      go_roundw
      case rel => exact ⟨k + 1, by omega, by go_num, HFr.out.drewN nq⟩
      case measure => simp [intOf]; omega
    · obtain rfl : k = n := by omega
      clear hfr
      go_wp2_with fail
      go_ret
      exact ⟨rfl, HFr.out.below (fun _ _ e => e)⟩
/-! A text that is too long for a path. -/
theorem right_long {l : List UInt8} (h : 120 < l.length) : rightB l = false := by
  rw [← Bool.not_eq_true, right_iff]
  intro hp
  have := hp.len
  omega
set_option maxHeartbeats 1600000 in
theorem QrRight_long (l : List UInt8) (h : 120 < l.length) (w : World) : Calls Tryd.prog 10 #[.string (strB l)] w fun e w' => e = .returned (.bool false) ∧ w = w' := by
  have hsz := strB_size l
  obtain ⟨S, hS⟩ : ∃ S, strB l = S := ⟨_, rfl⟩
  obtain ⟨n, hn⟩ : ∃ n, l.length = n := ⟨_, rfl⟩
  rw [hS, hn] at hsz
  rw [hn] at h
  rw [hS]
  have hi : (120 : Int) < n := by omega
  clear hS hn
  go_enter Tryd.func10, Tryd.ntmps10
  go_wp2
  go_ret
  exact ⟨rfl, rfl⟩
set_option maxHeartbeats 1600000 in
theorem RtRight_long (l : List UInt8) (h : 120 < l.length) (w : World) : Calls Tryd.prog 14 #[.string (strB l)] w fun e w' => e = .returned (.bool false) ∧ w = w' := by
  have hsz := strB_size l
  have hL := strB_list l
  have hne : l.isEmpty = false := by cases l with
    | nil => simp at h
    | cons x l => rfl
  have hne' : ¬ l = [] := by intro e; rw [e] at h; simp at h
  obtain ⟨S, hS⟩ : ∃ S, strB l = S := ⟨_, rfl⟩
  obtain ⟨n, hn⟩ : ∃ n, l.length = n := ⟨_, rfl⟩
  rw [hS, hn] at hsz
  rw [hS] at hL
  rw [hn] at h
  rw [hS]
  have hi : (120 : Int) < n := by omega
  clear hS hn
  go_enter Tryd.func14, Tryd.ntmps14
  go_wp2
  go_ret
  exact ⟨rfl, rfl⟩
end Go.Proofs.YtgmohgofcjemkaaDoor

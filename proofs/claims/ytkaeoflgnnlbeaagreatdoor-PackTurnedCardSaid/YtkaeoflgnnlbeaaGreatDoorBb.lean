/- What is proved: what the walks of this seat need of layers below, merged out of the texts Rta Rtb Rtc Trn (of each just what is needed). Conditions: each theorem names its own. -/
import Derived.WalkKit
import Derived.Test.YtkaeoflgnnlbeaaGreatDoorRows
import Derived.Lib.Strings
import Derived.Lib.Walk
import Derived.Lib.IndexLaws
import Derived.Deep.DeepFit
import Derived.WalkSpells
import Derived.WalkLawsBesides
import Derived.Laws.IdiomStrings
import Derived.Laws.DeepStrings4
import Derived.Laws.Concat
import Derived.Laws.OwnMore
import Derived.Test.YtkaeoflgnnlbeaaGreatDoorDas
import Derived.Test.YtkaeoflgnnlbeaaGreatDoorDb
import Derived.Test.YtkaeoflgnnlbeaaGreatDoorDba
import Derived.Test.YtkaeoflgnnlbeaaGreatDoorDej
/- What is proved: plain facts on texts in parts, and on patterns that stand for lists. Conditions: none; no program is named. -/
namespace Go.Proofs.YtkaeoflgnnlbeaaGreatDoor
set_option linter.unusedVariables false
/-- What stands between strokes. -/
def spl : List UInt8 → List (List UInt8)
  | [] => [[]]
  | b :: r => if b = 47 then [] :: spl r else match spl r with | [] => [[b]] | h :: t => (b :: h) :: t
theorem spl_ne (l : List UInt8) : spl l ≠ [] := by
  cases l with
  | nil => simp [spl]
  | cons b r => simp only [spl]; split; · simp
                · split <;> simp
theorem spl_count (l : List UInt8) : (spl l).length = l.count 47 + 1 := by
  induction l with
  | nil => rfl
  | cons b r ih =>
    simp only [spl, List.count_cons]
    split
    · rename_i h; subst h; simp [ih]
    · rename_i h
      have : (b == 47) = false := by simpa using h
      rw [this]
      cases hs : spl r with
      | nil => exact absurd hs (spl_ne r)
      | cons x t => rw [hs] at ih; simpa using ih
theorem spl_len_le (l : List UInt8) : ∀ p ∈ spl l, p.length ≤ l.length := by
  induction l with
  | nil => intro p hp; simp [spl] at hp; subst hp; simp
  | cons c r ih =>
    intro p hp
    simp only [spl] at hp
    split at hp
    · rcases List.mem_cons.1 hp with rfl | hp
      · simp
      · have := ih p hp; simp; omega
    · cases hs : spl r with
      | nil => exact absurd hs (spl_ne r)
      | cons x t =>
        rw [hs] at hp ih
        rcases List.mem_cons.1 hp with rfl | hp
        · have := ih x (by simp); simp; omega
        · have := ih p (by simp [hp]); simp; omega
section
variable {α β : Type} {st : α → Bool} {on : α → β → Bool}
end
end Go.Proofs.YtkaeoflgnnlbeaaGreatDoor
/- What is proved: plain facts on names, paths, patterns, and what follows from them. Conditions: none; no program is named. -/
namespace Go.Proofs.YtkaeoflgnnlbeaaGreatDoor
set_option linter.unusedVariables false
def visB (l : List UInt8) : Bool := l.all fun b => decide (33 ≤ (b.toNat : Int)) && decide ((b.toNat : Int) ≤ 126)
def nameB (l : List UInt8) : Bool := decide (1 ≤ l.length) && decide (l.length ≤ 32) && visB l && !l.contains 47 && !(l == [46]) && !(l == [46, 46])
end Go.Proofs.YtkaeoflgnnlbeaaGreatDoor
/- What is proved: whether a text's bytes can be seen, by the program and by the document; where a byte stands. Conditions: none. -/
namespace Go.Proofs.YtkaeoflgnnlbeaaGreatDoor
open Go.RowKit
set_option linter.unusedVariables false
theorem strB_data (xs : List UInt8) : (strB xs).data.toList = xs := by simp [strB]
theorem strB_size (xs : List UInt8) : (strB xs).size = xs.length := by simp [strB, ByteArray.size]
theorem strB_append (xs ys : List UInt8) : strB xs ++ strB ys = strB (xs ++ ys) := by
  apply ByteArray.ext
  simp [strB, ByteArray.data_append]
theorem strB_extract (xs : List UInt8) (a b : Nat) : (strB xs).extract a b = strB ((xs.take b).drop a) := by
  apply ByteArray.ext
  apply Array.toList_inj.1
  simp [strB, ByteArray.data_extract, List.extract, List.drop_take]
theorem str_eq (xs ys : List UInt8) : ((strB xs).toList == (strB ys).toList) = (xs == ys) := by rw [strB_list, strB_list]
section
variable {P : Program} (w : World) {t : TypeId} (h : P.underlying t = some .string) (l : List UInt8)
include h
theorem index_str (k : Nat) (hk : k < l.length) : (Instr.index t (.string (strB l)) (.int .i64 k)).run P w = .ok (.int .u8 ((l.getD k 0).toNat : Nat)) w := by
  rw [run_index_string w t _ .i64 (k : Int) h, dif_pos ⟨by omega, by rw [strB_size]; omega⟩]
  congr 3
  simp only [Int.toNat_natCast]
  rw [List.getD_eq_getElem?_getD, List.getElem?_eq_getElem hk]
  simp [strB]
  rfl
theorem slice_to (k : Nat) (hk : k ≤ l.length) : (Instr.slice t (.string (strB l)) none (some (.int .i64 k)) none).run P w = .ok (.string (strB (l.take k))) w := by
  rw [run_slice_string_to_if w t _ .i64 k h, if_pos ⟨by omega, by rw [strB_size]; omega⟩, strB_extract]
  simp
theorem slice_from (k : Nat) (hk : k ≤ l.length) : (Instr.slice t (.string (strB l)) (some (.int .i64 k)) none none).run P w = .ok (.string (strB (l.drop k))) w := by
  rw [run_slice_string_from_if w t _ .i64 k h, if_pos ⟨by omega, by rw [strB_size]; omega⟩, strB_extract, strB_size]
  simp
end
/-- As far as here, all bytes can be seen. -/
theorem vis_all {l : List UInt8} (h : ∀ j, j < l.length → 33 ≤ ((l.getD j 0).toNat : Int) ∧ ((l.getD j 0).toNat : Int) ≤ 126) : visB l = true := by
  simp only [visB, List.all_eq_true, Bool.and_eq_true, decide_eq_true_eq]
  intro b hb
  obtain ⟨j, hj, rfl⟩ := List.getElem_of_mem hb
  have := h j hj
  rwa [List.getD_eq_getElem?_getD, List.getElem?_eq_getElem hj, Option.getD_some] at this
theorem vis_not {l : List UInt8} {j : Nat} (hj : j < l.length) (h : ¬ (33 ≤ ((l.getD j 0).toNat : Int) ∧ ((l.getD j 0).toNat : Int) ≤ 126)) : visB l = false := by
  rw [← Bool.not_eq_true]
  intro hv
  simp only [visB, List.all_eq_true, Bool.and_eq_true, decide_eq_true_eq] at hv
  apply h
  rw [List.getD_eq_getElem?_getD, List.getElem?_eq_getElem hj, Option.getD_some]
  exact hv _ (List.getElem_mem hj)
set_option maxHeartbeats 1000000 in
theorem Rtvisible_any (l : List UInt8) (hl : l.length ≤ 9223372036854775806) (w : World) : Calls Tryz.prog 178 #[.string (strB l)] w fun e w' => e = .returned (.bool (visB l)) ∧ w = w' := by
  have hix := fun k hk w => index_str (P := Tryz.prog) w Tryz.underlying9 l k hk
  have HIX := Lib.hid hix
  have HN := Lib.hid (fun j hj h => vis_not (l := l) (j := j) hj h)
  have HA := Lib.hid (fun h => vis_all (l := l) h)
  have hsz := strB_size l
  obtain ⟨S, hS⟩ : ∃ S, strB l = S := ⟨_, rfl⟩
  obtain ⟨n, hn⟩ : ∃ n, l.length = n := ⟨_, rfl⟩
  rw [hS] at hix hsz ⊢
  rw [hS] at HIX
  rw [hn] at hsz hl HIX HN HA
  clear hix hS
  go_enter Tryz.func178, Tryz.ntmps178
  go_wp2
  go_loopw [6] (fun i wr => ∃ k : Nat, k ≤ n ∧ i = .int .i64 k ∧ Hid (∀ j, j < k → 33 ≤ ((l.getD j 0).toNat : Int) ∧ ((l.getD j 0).toNat : Int) ≤ 126) ∧ wr = w) (fun i _ => n - (intOf i).toNat)
  case atStart => exact ⟨0, by omega, rfl, Lib.hid (fun j hj => by omega), rfl⟩
  case round =>
    obtain ⟨k, hk, rfl, hz, rfl⟩ := hrel
    by_cases hlt : k < n
    · have hixk := fun w => HIX.out k hlt w
      obtain ⟨c, hc⟩ : ∃ c : Int, ((l.getD k 0).toNat : Int) = c := ⟨_, rfl⟩
      rw [hc] at hixk
      have HC := Lib.hid hc
      clear hc
      go_wp2_with fail
      · go_ret
        exact ⟨by rw [HN.out k hlt (by rw [HC.out]; omega)]; rfl, rfl⟩
      · go_roundw
        case rel => exact ⟨k + 1, by omega, by go_num, Lib.hid (fun j hj => (by omega : j < k ∨ j = k).elim (hz.out j) (fun e => by rw [e, HC.out]; omega)), trivial⟩
        case measure => simp [intOf]; omega
      · go_ret
        exact ⟨by rw [HN.out k hlt (by rw [HC.out]; omega)]; rfl, rfl⟩
    · obtain rfl : k = n := by omega
      go_wp2_with fail
      go_ret
      exact ⟨by rw [HA.out hz.out]; rfl, rfl⟩
/-! Where a byte stands. -/
set_option maxHeartbeats 1000000 in
set_option maxRecDepth 100000 in
theorem GsIndexByte_any (s : ByteArray) (c : Int) (w : World) :
    Calls Tryz.prog 221 #[.string s, .int .u8 c] w fun e w' => e = .returned (.int .i64 (Lib.indexByte s.data.toList c.toNat.toUInt8)) ∧ w = w' := by
  go_enter Tryz.func221, Tryz.ntmps221
  go_wp2
  rw [run_callFunc_extern Tryz.func225 (by kernel_rfl) (by kernel_rfl) (by kernel_rfl) (e := Extern.BytealgIndexByte.indexByte) (by kernel_rfl), Lib.run_indexByteString]
  simp only [Result.andThen]
  rw [Oper.upon_value]
  go_wp2
  go_ret
  exact ⟨rfl, rfl⟩
/-- Where the first stroke stands. -/
def idx47 (l : List UInt8) : Int := Lib.indexByte l 47
set_option maxHeartbeats 1000000 in
set_option maxRecDepth 100000 in
theorem GsIndex_any (l : List UInt8) (w : World) :
    Calls Tryz.prog 215 #[.string (strB l), .string (strB [47])] w fun e w' => e = .returned (.int .i64 (idx47 l)) ∧ w = w' := by
  have hc := fun w => GsIndexByte_any (strB l) 47 w
  rw [strB_data] at hc
  have hsz : (strB [47]).size = 1 := rfl
  have hix : ∀ w, (Instr.index 9 (.string (strB [47])) (.int .i64 0)).run Tryz.prog w = .ok (.int .u8 47) w := fun w => index_str (P := Tryz.prog) w Tryz.underlying9 [47] 0 (by decide)
  have e1 : ((strB [47]).toList == (strB l).toList) = ([47] == l) := str_eq _ _
  have H0 : Hid (([47] == l) = true → idx47 l = 0) := Lib.hid (fun h => by rw [← eq_of_beq h]; rfl)
  obtain ⟨S, hS⟩ : ∃ S, strB [47] = S := ⟨_, rfl⟩
  obtain ⟨T, hT⟩ : ∃ S, strB l = S := ⟨_, rfl⟩
  rw [hS] at hix hsz e1 ⊢
  rw [hT] at hc e1 ⊢
  have hr : idx47 l = Lib.indexByte l (Int.toNat 47).toUInt8 := rfl
  rw [← hr] at hc
  obtain ⟨r, hr'⟩ : ∃ r, idx47 l = r := ⟨_, rfl⟩
  rw [hr'] at hc H0 ⊢
  obtain ⟨b, hb⟩ : ∃ b, ([47] == l) = b := ⟨_, rfl⟩
  rw [hb] at e1 H0
  clear hr hr' hS hT hb
  cases b
  · go_enter Tryz.func215, Tryz.ntmps215
    go_wp2_with (go_at_call 221; refine (hc _).mono ?_; rintro e w' ⟨rfl, rfl⟩)
    go_ret
    exact ⟨rfl, rfl⟩
  · rw [H0.out rfl]
    go_enter Tryz.func215, Tryz.ntmps215
    go_wp2
    go_ret
    exact ⟨rfl, rfl⟩
set_option maxHeartbeats 1000000 in
theorem GIndex_any (l : List UInt8) (w : World) :
    Calls Tryz.prog 199 #[.string (strB l), .string (strB [47])] w fun e w' => e = .returned (.int .i64 (idx47 l)) ∧ w = w' := by
  go_enter Tryz.func199, Tryz.ntmps199
  go_wp2_with (go_at_call 215; refine (GsIndex_any _ _).mono ?_; rintro e w' ⟨rfl, rfl⟩)
  go_ret
  exact ⟨rfl, rfl⟩
theorem idx_cases (l : List UInt8) : (idx47 l = -1 ∧ ∀ b ∈ l, b ≠ 47) ∨ ∃ m : Nat, idx47 l = m ∧ m < l.length ∧ l = l.take m ++ 47 :: l.drop (m + 1) ∧ ∀ b ∈ l.take m, b ≠ 47 := by
  have hge := Lib.indexByte_ge l 47
  by_cases h : idx47 l = -1
  · left
    refine ⟨h, fun b hb e => ?_⟩
    obtain ⟨j, hj, rfl⟩ := List.getElem_of_mem hb
    exact Lib.indexByte_none h j (by rw [List.getElem?_eq_getElem hj, e])
  · right
    have hge' : -1 ≤ idx47 l := hge
    obtain ⟨m, hm⟩ : ∃ m : Nat, idx47 l = m := ⟨(idx47 l).toNat, by omega⟩
    obtain ⟨h1, h2⟩ := Lib.indexByte_some (show Lib.indexByte l 47 = (m : Nat) from hm)
    obtain ⟨hml, h3⟩ := List.getElem?_eq_some_iff.1 h1
    refine ⟨m, hm, hml, ?_, fun b hb e => ?_⟩
    · conv => lhs; rw [← List.take_append_drop m l, List.drop_eq_getElem_cons hml, h3]
    · obtain ⟨j, hj, rfl⟩ := List.getElem_of_mem hb
      rw [List.length_take] at hj
      exact h2 j (by omega) (by rw [List.getElem?_eq_getElem (by omega)]; rw [List.getElem_take] at e; rw [e])
set_option maxHeartbeats 1000000 in
theorem GContains_any (l : List UInt8) (w : World) :
    Calls Tryz.prog 179 #[.string (strB l), .string (strB [47])] w fun e w' => e = .returned (.bool (l.contains 47)) ∧ w = w' := by
  have hc := fun w => GIndex_any l w
  have hr : decide (0 ≤ idx47 l) = l.contains 47 := by
    rw [Bool.eq_iff_iff, decide_eq_true_eq, List.contains_iff_mem]
    rcases idx_cases l with ⟨h1, h2⟩ | ⟨m, h1, h2, h3, _⟩
    · rw [h1]
      exact ⟨fun h => by omega, fun h => absurd rfl (h2 47 h)⟩
    · rw [h1]
      exact ⟨fun _ => by rw [h3]; simp, fun _ => by omega⟩
  rw [← hr]
  obtain ⟨r, hr'⟩ : ∃ r, idx47 l = r := ⟨_, rfl⟩
  rw [hr'] at hc ⊢
  clear hr hr'
  go_enter Tryz.func179, Tryz.ntmps179
  go_wp2_with (go_at_call 199; refine (hc _).mono ?_; rintro e w' ⟨rfl, rfl⟩)
  go_ret
  exact ⟨rfl, rfl⟩
end Go.Proofs.YtkaeoflgnnlbeaaGreatDoor
/- What is proved: names, by the program and by the document. Conditions: the text is not too long for any machine. -/
namespace Go.Proofs.YtkaeoflgnnlbeaaGreatDoor
open Go.RowKit
set_option linter.unusedVariables false
theorem name_eq (l : List UInt8) (n : Nat) (hn : l.length = n) : nameB l = (decide (1 ≤ n) && decide (n ≤ 32) && visB l && !l.contains 47 && !(l == [46]) && !(l == [46, 46])) := by rw [nameB, hn]
set_option maxHeartbeats 1000000 in
set_option maxRecDepth 100000 in
theorem RtName_any (l : List UInt8) (hl : l.length ≤ 9223372036854775806) (w : World) : Calls Tryz.prog 162 #[.string (strB l)] w fun e w' => e = .returned (.bool (nameB l)) ∧ w = w' := by
  have c1 := Lib.hid (fun w => Rtvisible_any l hl w)
  have c2 : Hid (∀ w, Calls Tryz.prog 179 #[.string (strB l), .string (ByteArray.mk #[47])] w fun e w' => e = .returned (.bool (l.contains 47)) ∧ w = w') := Lib.hid (fun w => GContains_any l w)
  have hsz := strB_size l
  have hL := strB_list l
  obtain ⟨S, hS⟩ : ∃ S, strB l = S := ⟨_, rfl⟩
  obtain ⟨n, hn⟩ : ∃ n, l.length = n := ⟨_, rfl⟩
  rw [hS] at hsz hL c1 c2 ⊢
  rw [hn] at hsz hl
  have HE := Lib.hid (name_eq l n hn)
  obtain ⟨r, hr⟩ : ∃ r, nameB l = r := ⟨_, rfl⟩
  rw [hr] at HE ⊢
  obtain ⟨b4, hb4⟩ : ∃ b, visB l = b := ⟨_, rfl⟩
  obtain ⟨b5, hb5⟩ : ∃ b, l.contains 47 = b := ⟨_, rfl⟩
  rw [hb4] at c1 HE
  rw [hb5] at c2 HE
  have h0 : l ≠ [] → 1 ≤ n := fun h => by rw [← hn]; exact List.length_pos_iff.2 h
  have H0 := Lib.hid h0
  have H1 : Hid (l = [] → n = 0) := Lib.hid (fun h => by rw [← hn, h]; rfl)
  clear hb4 hb5 hn hS hr h0
  go_enter Tryz.func162, Tryz.ntmps162
  by_cases hlen : n ≤ 32
  · by_cases h1 : l = [46]
    · go_wp2
      go_ret
      exact ⟨by rw [HE.out, h1]; simp, rfl⟩
    · have e1 : (l == [46]) = false := by simpa using h1
      by_cases h2 : l = [46, 46]
      · go_wp2
        go_ret
        exact ⟨by rw [HE.out, h2]; simp, rfl⟩
      · have e2 : (l == [46, 46]) = false := by simpa using h2
        by_cases h3 : l = []
        · have h4 := H1.out h3
          go_wp2
          go_ret
          exact ⟨by rw [HE.out, h4]; rfl, rfl⟩
        · have h4 := H0.out h3
          have e3 : l.isEmpty = false := by simpa using h3
          cases b4
          · go_wp2_with (go_at_call 178; refine (c1.out _).mono ?_; rintro e w' ⟨rfl, rfl⟩)
            go_ret
            exact ⟨by rw [HE.out]; simp, rfl⟩
          · go_wp2_with (first
              | (go_at_call 178; refine (c1.out _).mono ?_; rintro e w' ⟨rfl, rfl⟩)
              | (go_at_call 179; refine (c2.out _).mono ?_; rintro e w' ⟨rfl, rfl⟩))
            go_ret
            refine ⟨?_, rfl⟩
            rw [HE.out]
            rw [e1, e2, decide_eq_true h4, decide_eq_true hlen]
            simp
  · go_wp2
    go_ret
    exact ⟨by rw [HE.out]; simp [hlen]; try rfl, rfl⟩
theorem add_str {P : Program} (a b : List UInt8) (h : a.length + b.length ≤ 9223372036854775807) (w : World) : (Op.stringOp .add (strB a) (strB b)).run P w = .ok (.string (strB (a ++ b))) w := by
  rw [← strB_append]
  exact run_string_add_sum w _ _ (by rw [strB_size, strB_size]; exact h)
theorem join_one {P : Program} (a : List UInt8) (h : a.length + 1 ≤ 9223372036854775807) (w : World) : (Op.stringOp .add (strB a) (ByteArray.mk #[47])).run P w = .ok (.string (strB (a ++ [47]))) w := add_str a [47] h w
/-- Texts as cells. -/
def strV (ps : List (List UInt8)) : List Value := ps.map fun p => .string (strB p)
/-- One cell that the call has just laid, as a source. -/
theorem src_oneT {tx e' : TypeId} (hk : Tryz.prog.underlying tx = some (.slice e')) (w : World) (c : Value) (hc : c.oneCell' = true) : Src Tryz.prog 1 tx (.slice (some ⟨w.heap.size, 0, none⟩) 1 1) 1 [c] (w.alloc (.cells #[c] e')) :=
  Src.ofSlice _ hk ⟨w.heap.size, 0, none⟩ 1 1 [c] rfl (by intro j u hj; match j, hj with | 0, hj => simp at hj; subst hj; simp [Addr.add]) (by intro u hu; simp at hu; subst hu; exact hc)
/-- What stands at the head of a round of the document's Parts. -/
structure QpRel (w : World) (l : List UInt8) (k : Nat) (v : Value) (acc : List (List UInt8)) (now : List UInt8) (wr : World) : Prop where
  own : wr.ownsRow w.heap.size 9 1 v acc.length (strV acc)
  fr : Fr (fun _ => False) w wr
  say : spl (l.take k) = acc ++ [now]
theorem QpRel.small {w : World} {l : List UInt8} {k : Nat} {v : Value} {acc : List (List UInt8)} {now : List UInt8} {wr : World} (h : QpRel w l k v acc now wr) : now.length ≤ l.length ∧ acc.length ≤ l.length := by
  have h1 := spl_len_le (l.take k) now (by rw [h.say]; simp)
  have h2 := spl_count (l.take k)
  rw [h.say, List.length_append, List.length_singleton] at h2
  have h3 := List.count_le_length (a := (47 : UInt8)) (l := l.take k)
  rw [List.length_take] at h1 h3
  omega
theorem take_snoc (l : List UInt8) (k : Nat) (h : k < l.length) : l.take (k + 1) = l.take k ++ [l.getD k 0] := by
  rw [List.take_add_one, List.getElem?_eq_getElem h, List.getD_eq_getElem?_getD, List.getElem?_eq_getElem h]
  rfl
end Go.Proofs.YtkaeoflgnnlbeaaGreatDoor

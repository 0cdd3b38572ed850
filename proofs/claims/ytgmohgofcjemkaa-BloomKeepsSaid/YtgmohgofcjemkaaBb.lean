/- What is proved: what the walks of this seat need of layers below, merged out of the texts Rta Rtb Rtc Rtd Rte Rtf Rtg Rth Rti Rts (of each just what is needed). Conditions: each theorem names its own. -/
import Derived.WalkKit
import Derived.Test.YtgmohgofcjemkaaRows
import Derived.Lib.Strings
import Derived.Lib.Walk
import Derived.Lib.IndexLaws
import Derived.Deep.DeepFit
import Derived.WalkSpells
import Derived.WalkLawsBesides
import Derived.Laws.IdiomStrings
import Derived.Laws.DeepStrings4
import Derived.Laws.Concat
import Derived.Laws.OwnMore
import Derived.Shelf.Abstract
import Derived.Test.YtgmohgofcjemkaaBas
set_option maxRecDepth 100000
/- What is proved: plain facts on texts in parts, and on patterns that stand for lists. Conditions: none; no program is named. -/
namespace Go.Proofs.Ytgmohgofcjemkaa
set_option linter.unusedVariables false
/-- What stands between strokes. -/
def spl : List UInt8 → List (List UInt8)
  | [] => [[]]
  | b :: r => if b = 47 then [] :: spl r else match spl r with | [] => [[b]] | h :: t => (b :: h) :: t
theorem spl_ne (l : List UInt8) : spl l ≠ [] := by
  cases l with
  | nil => simp [spl]
  | cons b r => simp only [spl]; split; · simp
                · split <;> simp
theorem spl_stroke (a r : List UInt8) : spl (a ++ 47 :: r) = spl a ++ spl r := by
  induction a with
  | nil => simp [spl]
  | cons b a ih =>
    simp only [List.cons_append, spl]
    split
    · rw [ih]; rfl
    · rw [ih]
      cases h : spl a with
      | nil => exact absurd h (spl_ne a)
      | cons x t => simp
theorem spl_plain (a : List UInt8) (h : ∀ b ∈ a, b ≠ 47) : spl a = [a] := by
  induction a with
  | nil => rfl
  | cons b a ih =>
    simp only [spl, if_neg (h b (by simp)), ih (fun c hc => h c (by simp [hc]))]
theorem spl_head (a r : List UInt8) (h : ∀ b ∈ a, b ≠ 47) : spl (a ++ 47 :: r) = a :: spl r := by rw [spl_stroke, spl_plain a h]; rfl
end Go.Proofs.Ytgmohgofcjemkaa
/- What is proved: plain facts on names, paths, patterns, and what follows from them. Conditions: none; no program is named. -/
namespace Go.Proofs.Ytgmohgofcjemkaa
set_option linter.unusedVariables false
def visB (l : List UInt8) : Bool := l.all fun b => decide (33 ≤ (b.toNat : Int)) && decide ((b.toNat : Int) ≤ 126)
def nameB (l : List UInt8) : Bool := decide (1 ≤ l.length) && decide (l.length ≤ 32) && visB l && !l.contains 47 && !(l == [46]) && !(l == [46, 46])
def rightB (l : List UInt8) : Bool := !(l == []) && decide (l.length ≤ 120) && (decide ((spl l).length ≤ 6) && (spl l).all nameB)
/-- The place of the last stroke; -1: there is none. -/
def lastI : List UInt8 → Int
  | [] => -1
  | b :: r => if 0 ≤ lastI r then lastI r + 1 else if b = 47 then 0 else -1
def dirB (l : List UInt8) : List UInt8 := l.take (lastI l).toNat
/-! What a path's parts are. -/
structure PathP (l : List UInt8) : Prop where
  ne : l ≠ []
  len : l.length ≤ 120
  parts : (spl l).length ≤ 6
  names : ∀ p ∈ spl l, nameB p = true
theorem right_iff (l : List UInt8) : rightB l = true ↔ PathP l := by
  simp only [rightB, Bool.and_eq_true, Bool.not_eq_true', decide_eq_true_eq, List.all_eq_true, beq_eq_false_iff_ne]
  exact ⟨fun ⟨⟨a, b⟩, c, d⟩ => ⟨a, b, c, d⟩, fun ⟨a, b, c, d⟩ => ⟨⟨a, b⟩, c, d⟩⟩
end Go.Proofs.Ytgmohgofcjemkaa
/- What is proved: whether a text's bytes can be seen, by the program and by the document; where a byte stands. Conditions: none. -/
namespace Go.Proofs.Ytgmohgofcjemkaa
open Go.RowKit
set_option linter.unusedVariables false
/-- Bytes as a string's bytes. -/
def strB (xs : List UInt8) : ByteArray := ⟨xs.toArray⟩
theorem strB_list (xs : List UInt8) : (strB xs).toList = xs := ByteArray.toList_mk xs
theorem strB_data (xs : List UInt8) : (strB xs).data.toList = xs := by simp [strB]
theorem strB_size (xs : List UInt8) : (strB xs).size = xs.length := by simp [strB, ByteArray.size]
theorem strB_of (s : ByteArray) : strB s.data.toList = s := by simp [strB]
theorem strB_append (xs ys : List UInt8) : strB xs ++ strB ys = strB (xs ++ ys) := by
  apply ByteArray.ext
  simp [strB, ByteArray.data_append]
theorem strB_extract (xs : List UInt8) (a b : Nat) : (strB xs).extract a b = strB ((xs.take b).drop a) := by
  apply ByteArray.ext
  apply Array.toList_inj.1
  simp [strB, ByteArray.data_extract, List.extract, List.drop_take]
theorem str_eq (xs ys : List UInt8) : ((strB xs).toList == (strB ys).toList) = (xs == ys) := by rw [strB_list, strB_list]
section
variable {P : Program} (w : World) {t : TypeId} (h : P.underlying t = some .string) (l : List UInt8)
include h
theorem index_str (k : Nat) (hk : k < l.length) : (Instr.index t (.string (strB l)) (.int .i64 k)).run P w = .ok (.int .u8 ((l.getD k 0).toNat : Nat)) w := by
  rw [run_index_string w t _ .i64 (k : Int) h, dif_pos ⟨by omega, by rw [strB_size]; omega⟩]
  congr 3
  simp only [Int.toNat_natCast]
  rw [List.getD_eq_getElem?_getD, List.getElem?_eq_getElem hk]
  simp [strB]
  rfl
theorem slice_to (k : Nat) (hk : k ≤ l.length) : (Instr.slice t (.string (strB l)) none (some (.int .i64 k)) none).run P w = .ok (.string (strB (l.take k))) w := by
  rw [run_slice_string_to_if w t _ .i64 k h, if_pos ⟨by omega, by rw [strB_size]; omega⟩, strB_extract]
  simp
theorem slice_from (k : Nat) (hk : k ≤ l.length) : (Instr.slice t (.string (strB l)) (some (.int .i64 k)) none none).run P w = .ok (.string (strB (l.drop k))) w := by
  rw [run_slice_string_from_if w t _ .i64 k h, if_pos ⟨by omega, by rw [strB_size]; omega⟩, strB_extract, strB_size]
  simp
end
end Go.Proofs.Ytgmohgofcjemkaa
/- What is proved: a text's parts, by the program. Conditions: the text is not too long for any machine. -/
namespace Go.Proofs.Ytgmohgofcjemkaa
open Go.RowKit
set_option linter.unusedVariables false
/-- Texts as cells. -/
def strV (ps : List (List UInt8)) : List Value := ps.map fun p => .string (strB p)
theorem strV_len (ps : List (List UInt8)) : (strV ps).length = ps.length := by simp [strV]
theorem strV_append (a b : List (List UInt8)) : strV (a ++ b) = strV a ++ strV b := by simp [strV]
theorem strV_get (ps : List (List UInt8)) (k : Nat) (h : k < ps.length) : (strV ps)[k]? = some (.string (strB (ps.getD k []))) := by
  rw [strV, List.getElem?_map, List.getElem?_eq_getElem h, List.getD_eq_getElem?_getD, List.getElem?_eq_getElem h]
  rfl
theorem info_parts {P : Program} {t : TypeId} {z : Value} {s b : Nat} (h : (P.info? t).map (fun i => (i.zero, i.size, i.bytes)) = some (some z, s, b)) : ∃ i, P.info? t = some i ∧ i.zero = some z ∧ i.size = s ∧ i.bytes = b := by
  cases hq : P.info? t with
  | none => simp [hq] at h
  | some i =>
    simp [hq] at h
    exact ⟨i, rfl, h.1, h.2.1, h.2.2⟩
theorem info_str : (Try.prog.info? 9).map (fun i => (i.zero, i.size, i.bytes)) = some (some (.string (strB [])), 1, 16) := by kernel_rfl
/-- What stands at the head of a round of the split: some parts, and the text behind them. -/
structure SpRel (w : World) (l : List UInt8) (i : Nat) (rest : List UInt8) (wr : World) : Prop where
  row : ∃ done, done.length = i ∧ spl l = done ++ spl rest ∧ Whole wr w.heap.size 9 (strV (done ++ List.replicate ((spl l).length - i) [])).toArray
  fr : Fr (fun _ => False) w wr
  sub : rest.length ≤ l.length
theorem SpRel.len {w : World} {l : List UInt8} {i : Nat} {rest : List UInt8} {wr : World} (h : SpRel w l i rest wr) : (spl l).length = i + (spl rest).length := by
  obtain ⟨done, h1, h2, _⟩ := h.row
  rw [h2, List.length_append, h1]
theorem SpRel.pos {w : World} {l : List UInt8} {i : Nat} {rest : List UInt8} {wr : World} (h : SpRel w l i rest wr) : i < (spl l).length := by
  have := h.len
  have := List.length_pos_iff.2 (spl_ne rest)
  omega
theorem SpRel.cell {w : World} {l : List UInt8} {i : Nat} {rest : List UInt8} {wr : World} (h : SpRel w l i rest wr) : ∃ u, wr.cell? ⟨w.heap.size, i, none⟩ = some u := by
  have hp := h.pos
  obtain ⟨done, h1, h2, h3⟩ := h.row
  rw [h3.cell, List.getElem?_toArray]
  exact ⟨_, strV_get _ _ (by rw [List.length_append, List.length_replicate]; omega)⟩
theorem set_str (done : List (List UInt8)) (n : Nat) (p : List UInt8) (hn : 0 < n) : (strV (done ++ List.replicate n [])).toArray.setIfInBounds done.length (.string (strB p)) = (strV (done ++ [p] ++ List.replicate (n - 1) [])).toArray := by
  obtain ⟨m, rfl⟩ : ∃ m, n = m + 1 := ⟨n - 1, by omega⟩
  apply Array.toList_inj.1
  simp only [Array.toList_setIfInBounds]
  rw [List.replicate_succ, strV_append, List.set_append_right _ _ (by rw [strV_len]; exact Nat.le_refl _), strV_len, Nat.sub_self]
  simp [strV]
theorem SpRel.put {w : World} {l : List UInt8} {i : Nat} {rest : List UInt8} {wr : World} (h : SpRel w l i rest wr) (m : Nat) (he : rest = rest.take m ++ 47 :: rest.drop (m + 1)) (hm : ∀ b ∈ rest.take m, b ≠ 47) :
    SpRel w l (i + 1) (rest.drop (m + 1)) (wr.setCell ⟨w.heap.size, i, none⟩ (.string (strB (rest.take m)))) := by
  have hp := h.pos
  obtain ⟨done, h1, h2, h3⟩ := h.row
  refine ⟨⟨done ++ [rest.take m], by simp [h1], ?_, ?_⟩, h.fr.setCell (fun e => absurd e (Nat.lt_irrefl _)) _, by have := h.sub; rw [List.length_drop]; omega⟩
  · rw [h2]
    conv => lhs; rw [he, spl_head _ _ hm]
    simp
  · have := h3.set i (.string (strB (rest.take m)))
    rw [← h1, set_str done _ _ (by omega), h1] at this
    rwa [show (spl l).length - i - 1 = (spl l).length - (i + 1) by omega] at this
end Go.Proofs.Ytgmohgofcjemkaa
/- What is proved: a text's parts, by the program and by the document. Conditions: the text is not too long for any machine. -/
namespace Go.Proofs.Ytgmohgofcjemkaa
open Go.RowKit
set_option linter.unusedVariables false
theorem Lies.of_whole {w : World} {g : Nat} {t : TypeId} {xs : List Value} (h : Whole w g t xs.toArray) : Lies w (some ⟨g, 0, none⟩) xs :=
  .inr ⟨g, 0, rfl, fun j u hu => by rw [Nat.zero_add, h.cell, List.getElem?_toArray]; exact hu⟩
/-- One cell that the call has just laid, as a source. -/
theorem src_one {tx e' : TypeId} (hk : Try.prog.underlying tx = some (.slice e')) (w : World) (c : Value) (hc : c.oneCell' = true) : Src Try.prog 1 tx (.slice (some ⟨w.heap.size, 0, none⟩) 1 1) 1 [c] (w.alloc (.cells #[c] e')) :=
  Src.ofSlice _ hk ⟨w.heap.size, 0, none⟩ 1 1 [c] rfl (by intro j u hj; match j, hj with | 0, hj => simp at hj; subst hj; simp [Addr.add]) (by intro u hu; simp at hu; subst hu; exact hc)
theorem fr_append {w0 w w' : World} {v : Value} {n : Nat} {xs : List Value} {e : TypeId} {size : Nat} (h : w.ownsRow w0.heap.size e size v n xs) (f : Fr (fun _ => False) w0 w) (hg : w.grownBy w' v.ownBlock) : Fr (fun _ => False) w0 w' :=
  f.grown hg (fun k hk hlt => absurd hlt (by have := (World.ownsRow.lt h k hk).1; omega))
end Go.Proofs.Ytgmohgofcjemkaa
/- What is proved: what the library finds in lists of texts, and of truths. Conditions: the list's cells are there. -/
namespace Go.Proofs.Ytgmohgofcjemkaa
open Go.RowKit
set_option linter.unusedVariables false
theorem lies_str {w w' : World} {A : Option Addr} {ps : List (List UInt8)} (h : Lies w A (strV ps)) (f : Fr (fun _ => False) w w') : ∀ k, k < ps.length → ∃ b o, A = some ⟨b, o, none⟩ ∧ w'.cell? ⟨b, o + k, none⟩ = some (.string (strB (ps.getD k []))) := by
  intro k hk
  rcases h with h | ⟨b, o, rfl, hc⟩
  · have := congrArg List.length h
    rw [strV_len, List.length_nil] at this
    omega
  · exact ⟨b, o, rfl, f.cell (hc k _ (strV_get ps k hk)) (fun e => e)⟩
/-- The place of the first one that is asked for; -1: there is none. -/
structure FirstAt (n : Nat) (p : Nat → Bool) (r : Int) : Prop where
  cases : (r = -1 ∧ ∀ j, j < n → p j = false) ∨ ∃ k : Nat, r = k ∧ k < n ∧ p k = true
theorem FirstAt.any {α : Type} {ps : List α} {d : α} {p : α → Bool} {r : Int} (h : FirstAt ps.length (fun j => p (ps.getD j d)) r) : decide (0 ≤ r) = ps.any p := by
  rw [Bool.eq_iff_iff, decide_eq_true_eq, List.any_eq_true]
  rcases h.cases with ⟨rfl, h1⟩ | ⟨k, rfl, hk, h1⟩
  · refine ⟨fun h => by omega, ?_⟩
    rintro ⟨x, hx, hp⟩
    obtain ⟨j, hj, rfl⟩ := List.getElem_of_mem hx
    have := h1 j hj
    simp only [List.getD_eq_getElem?_getD, List.getElem?_eq_getElem hj, Option.getD_some] at this
    rw [hp] at this
    cases this
  · refine ⟨fun _ => ⟨ps[k], List.getElem_mem hk, ?_⟩, fun _ => by omega⟩
    simpa only [List.getD_eq_getElem?_getD, List.getElem?_eq_getElem hk, Option.getD_some] using h1
end Go.Proofs.Ytgmohgofcjemkaa
/- What is proved: that the program works at the examples; how long a text is; one list is itself. Conditions: none beyond each lemma's own premises. -/
namespace Go.Proofs.Ytgmohgofcjemkaa
open Go.RowKit
set_option linter.unusedVariables false
/-! A text that is too long for a path. -/
theorem right_long {l : List UInt8} (h : 120 < l.length) : rightB l = false := by
  rw [← Bool.not_eq_true, right_iff]
  intro hp
  have := hp.len
  omega
end Go.Proofs.Ytgmohgofcjemkaa

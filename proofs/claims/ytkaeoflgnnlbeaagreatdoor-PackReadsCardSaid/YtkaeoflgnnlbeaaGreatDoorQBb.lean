/- What is proved: texts that stand one behind the other: Bb. Conditions: each theorem names its own. -/
import Derived.WalkKit
import Derived.Test.YtkaeoflgnnlbeaaGreatDoorRows
import Derived.Lib.Strings
import Derived.Lib.Walk
import Derived.Lib.IndexLaws
import Derived.Deep.DeepFit
import Derived.WalkSpells
import Derived.WalkLawsBesides
import Derived.Laws.IdiomStrings
import Derived.Laws.DeepStrings4
import Derived.Laws.Concat
import Derived.Laws.OwnMore
import Derived.Test.YtkaeoflgnnlbeaaGreatDoorQDa
import Derived.Test.YtkaeoflgnnlbeaaGreatDoorQDb
import Derived.Test.YtkaeoflgnnlbeaaGreatDoorQDba
/- What is proved: what the walks of this seat need of layers below, merged out of the texts Rta Rtb Rtc Trn (of each just what is needed). Conditions: each theorem names its own. -/
/- What is proved: plain facts on texts in parts, and on patterns that stand for lists. Conditions: none; no program is named. -/
namespace Go.Proofs.YtkaeoflgnnlbeaaGreatDoor
set_option linter.unusedVariables false
/-- What stands between strokes. -/
def spl : List UInt8 → List (List UInt8)
  | [] => [[]]
  | b :: r => if b = 47 then [] :: spl r else match spl r with | [] => [[b]] | h :: t => (b :: h) :: t
theorem spl_ne (l : List UInt8) : spl l ≠ [] := by
  cases l with
  | nil => simp [spl]
  | cons b r => simp only [spl]; split; · simp
                · split <;> simp
theorem spl_count (l : List UInt8) : (spl l).length = l.count 47 + 1 := by
  induction l with
  | nil => rfl
  | cons b r ih =>
    simp only [spl, List.count_cons]
    split
    · rename_i h; subst h; simp [ih]
    · rename_i h
      have : (b == 47) = false := by simpa using h
      rw [this]
      cases hs : spl r with
      | nil => exact absurd hs (spl_ne r)
      | cons x t => rw [hs] at ih; simpa using ih
theorem spl_len_le (l : List UInt8) : ∀ p ∈ spl l, p.length ≤ l.length := by
  induction l with
  | nil => intro p hp; simp [spl] at hp; subst hp; simp
  | cons c r ih =>
    intro p hp
    simp only [spl] at hp
    split at hp
    · rcases List.mem_cons.1 hp with rfl | hp
      · simp
      · have := ih p hp; simp; omega
    · cases hs : spl r with
      | nil => exact absurd hs (spl_ne r)
      | cons x t =>
        rw [hs] at hp ih
        rcases List.mem_cons.1 hp with rfl | hp
        · have := ih x (by simp); simp; omega
        · have := ih p (by simp [hp]); simp; omega
section
variable {α β : Type} {st : α → Bool} {on : α → β → Bool}
end
end Go.Proofs.YtkaeoflgnnlbeaaGreatDoor
/- What is proved: whether a text's bytes can be seen, by the program and by the document; where a byte stands. Conditions: none. -/
namespace Go.Proofs.YtkaeoflgnnlbeaaGreatDoor
open Go.RowKit
set_option linter.unusedVariables false
theorem strB_size (xs : List UInt8) : (strB xs).size = xs.length := by simp [strB, ByteArray.size]
theorem strB_append (xs ys : List UInt8) : strB xs ++ strB ys = strB (xs ++ ys) := by
  apply ByteArray.ext
  simp [strB, ByteArray.data_append]
section
variable {P : Program} (w : World) {t : TypeId} (h : P.underlying t = some .string) (l : List UInt8)
include h
end
end Go.Proofs.YtkaeoflgnnlbeaaGreatDoor
/- What is proved: names, by the program and by the document. Conditions: the text is not too long for any machine. -/
namespace Go.Proofs.YtkaeoflgnnlbeaaGreatDoor
open Go.RowKit
set_option linter.unusedVariables false
theorem add_str {P : Program} (a b : List UInt8) (h : a.length + b.length ≤ 9223372036854775807) (w : World) : (Op.stringOp .add (strB a) (strB b)).run P w = .ok (.string (strB (a ++ b))) w := by
  rw [← strB_append]
  exact run_string_add_sum w _ _ (by rw [strB_size, strB_size]; exact h)
/-- Texts as cells. -/
def strV (ps : List (List UInt8)) : List Value := ps.map fun p => .string (strB p)
/-- One cell that the call has just laid, as a source. -/
theorem src_oneT {tx e' : TypeId} (hk : Tryz.prog.underlying tx = some (.slice e')) (w : World) (c : Value) (hc : c.oneCell' = true) : Src Tryz.prog 1 tx (.slice (some ⟨w.heap.size, 0, none⟩) 1 1) 1 [c] (w.alloc (.cells #[c] e')) :=
  Src.ofSlice _ hk ⟨w.heap.size, 0, none⟩ 1 1 [c] rfl (by intro j u hj; match j, hj with | 0, hj => simp at hj; subst hj; simp [Addr.add]) (by intro u hu; simp at hu; subst hu; exact hc)
/-- What stands at the head of a round of the document's Parts. -/
structure QpRel (w : World) (l : List UInt8) (k : Nat) (v : Value) (acc : List (List UInt8)) (now : List UInt8) (wr : World) : Prop where
  own : wr.ownsRow w.heap.size 9 1 v acc.length (strV acc)
  fr : Fr (fun _ => False) w wr
  say : spl (l.take k) = acc ++ [now]
theorem QpRel.small {w : World} {l : List UInt8} {k : Nat} {v : Value} {acc : List (List UInt8)} {now : List UInt8} {wr : World} (h : QpRel w l k v acc now wr) : now.length ≤ l.length ∧ acc.length ≤ l.length := by
  have h1 := spl_len_le (l.take k) now (by rw [h.say]; simp)
  have h2 := spl_count (l.take k)
  rw [h.say, List.length_append, List.length_singleton] at h2
  have h3 := List.count_le_length (a := (47 : UInt8)) (l := l.take k)
  rw [List.length_take] at h1 h3
  omega
end Go.Proofs.YtkaeoflgnnlbeaaGreatDoor

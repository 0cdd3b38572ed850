/- What is proved: what the walks of this seat need of layers below, merged out of the texts Dej (of each just what is needed). Conditions: each theorem names its own. -/
import Derived.Deep.QuietTactic
import Derived.BigQuiet
import Derived.Test.YtgbhdjncccmabaaGreatDoorDb
import Derived.Test.YtgbhdjncccmabaaGreatDoorDba
/- What is proved: parts of rows of bytes: where they lie. Conditions: none but each lemma's own. -/
namespace Go.Proofs.YtgbhdjncccmabaaGreatDoor
open Go.RowKit
set_option linter.unusedVariables false
/-- Where the rest of some bytes lies. -/
def tlB (A : Option Addr) (c m : Nat) : Option Addr := if c = m then A else A.map (·.add m)
theorem Lies.tlB {w : World} {A : Option Addr} {l : List UInt8} (h : Lies w A (bytesV l)) (c m : Nat) (hc : l.length ≤ c) : Lies w (tlB A c m) (bytesV (l.drop m)) := by
  unfold Proofs.YtgbhdjncccmabaaGreatDoor.tlB
  split
  · rename_i e
    have hd : l.drop m = [] := List.drop_of_length_le (by omega)
    rw [hd]
    exact .inl rfl
  · rcases h with h | ⟨b, o, rfl, hcl⟩
    · have : l = [] := by simpa [bytesV] using h
      subst this
      exact .inl (by simp [bytesV])
    · refine .inr ⟨b, o + m, by simp [add_off], fun j u hu => ?_⟩
      rw [bytesV, List.map_drop, ← bytesV, List.getElem?_drop] at hu
      rw [Nat.add_assoc]
      exact hcl _ _ hu
theorem Lies.takeB {w : World} {A : Option Addr} {l : List UInt8} (h : Lies w A (bytesV l)) (m : Nat) : Lies w A (bytesV (l.take m)) := by
  rcases h with h | ⟨b, o, rfl, hcl⟩
  · have : l = [] := by simpa [bytesV] using h
    subst this
    exact .inl (by simp [bytesV])
  · refine .inr ⟨b, o, rfl, fun j u hu => hcl j u ?_⟩
    rw [bytesV, List.map_take, List.getElem?_take] at hu
    split at hu
    · exact hu
    · cases hu
theorem Lies.someB {w : World} {A : Option Addr} {l : List UInt8} (h : Lies w A (bytesV l)) (hn : 0 < l.length) : ∃ b o, A = some ⟨b, o, none⟩ := by
  rcases h with h | ⟨b, o, rfl, _⟩
  · have : l = [] := by simpa [bytesV] using h
    rw [this] at hn
    simp at hn
  · exact ⟨b, o, rfl⟩
theorem elem1 (w : World) : (sizeOf (Tryz.prog.elem 28)).run Tryz.prog w = .ok 1 w := by kernel_rfl
theorem underB : Tryz.prog.underlying 28 = some (.slice (Tryz.prog.elem 28)) := by kernel_rfl
theorem slice_tlB (A : Option Addr) (n c m : Nat) (h : m ≤ n) (w : World) : (Instr.slice 28 (.slice A n c) (some (.int .i64 m)) none none).run Tryz.prog w = .ok (.slice (tlB A c m) (n - m) (c - m)) w := by
  have e := run_slice_l (P := Tryz.prog) w 28 A n c underB .i64 (m : Int) (by omega) (by omega)
  rw [e, elem1]
  simp [sliced, tlB]
theorem slice_lhB (A : Option Addr) (n c lo hi : Nat) (h1 : lo ≤ hi) (h2 : hi ≤ c) (w : World) : (Instr.slice 28 (.slice A n c) (some (.int .i64 lo)) (some (.int .i64 hi)) none).run Tryz.prog w = .ok (.slice (tlB A c lo) (hi - lo) (c - lo)) w := by
  have e := run_slice_lh (P := Tryz.prog) w 28 A n c underB .i64 .i64 (lo : Int) (hi : Int) (by omega) (by omega) (by omega)
  rw [e, elem1]
  simp [sliced, tlB]
/-- Bytes from one place on up to another one. -/
theorem Lies.cutB {w : World} {A : Option Addr} {l : List UInt8} (h : Lies w A (bytesV l)) (c lo n : Nat) (hc : l.length ≤ c) : Lies w (Proofs.YtgbhdjncccmabaaGreatDoor.tlB A c lo) (bytesV ((l.drop lo).take n)) := (h.tlB c lo hc).takeB n
end Go.Proofs.YtgbhdjncccmabaaGreatDoor

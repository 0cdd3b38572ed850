/- What is proved: what the walks of this seat need of layers below, merged out of the texts Trv Trw Trx (of each just what is needed). Conditions: each theorem names its own. -/
import Derived.Test.YtgmohgofcjemkaaDoorBat
import Derived.Test.YtgmohgofcjemkaaDoorBd
set_option maxRecDepth 100000
/- What is proved: entries as bytes, by the program. Conditions: the list's cells are there. -/
namespace Go.Proofs.YtgmohgofcjemkaaDoor
open Go.RowKit Go.Sort Go.Shelf
set_option linter.unusedVariables false
/-! Bytes of the call's own. -/
theorem info_u8 : (Tryd.prog.info? 5).map (fun i => (i.zero, i.size, i.bytes)) = some (some (.int .u8 0), 1, 1) := by kernel_rfl
theorem Lies.srcB {w : World} {A : Option Addr} {l : List UInt8} {n : Nat} (h : Lies w A (bytesV l)) (hn : l.length = n) (c : Nat) : Src Tryd.prog 1 27 (.slice A n c) n (bytesV l) w := by
  have := Lies.src (P := Tryd.prog) (tx := 27) (e' := 5) h Tryd.underlying27 (bytesV_one _) c
  rwa [bytesV_length, hn] at this
def OwnB (w0 w : World) (v : Value) (l : List UInt8) : Prop := w.ownsRow w0.heap.size 5 1 v l.length (bytesV l) ∧ Fr (fun _ => False) w0 w
theorem OwnB.nil {w0 w : World} (f : Fr (fun _ => False) w0 w) : OwnB w0 w (.slice none 0 0) [] := ⟨World.ownsRow_nil w w0.heap.size 5 1, f⟩
theorem OwnB.fr {w0 w w' : World} {v : Value} {l : List UInt8} (h : OwnB w0 w v l) (f : Fr (fun _ => False) w w') : OwnB w0 w' v l := ⟨own_fr h.1 f (fun _ _ e => e), h.2.trans f (fun _ _ e => e)⟩
theorem OwnB.slice {w0 w : World} {v : Value} {l : List UInt8} (h : OwnB w0 w v l) : ∃ A c, v = .slice A l.length c ∧ l.length ≤ c ∧ Lies w A (bytesV l) := by
  obtain ⟨A, c, hv, hc, _⟩ := own_slice h.1
  subst hv
  exact ⟨A, c, rfl, hc, Lies.of_own h.1⟩
theorem OwnB.grow {w0 w w' : World} {v v' : Value} {l m : List UInt8} (h : OwnB w0 w v l) {n k : Nat} (hn : n = l.length) (hk : k = m.length) (o : w'.ownsRow w0.heap.size 5 1 v' (n + k) (bytesV l ++ bytesV m)) (g : w.grownBy w' v.ownBlock) : OwnB w0 w' v' (l ++ m) := by
  refine ⟨?_, fr_append h.1 h.2 g⟩
  rw [List.length_append, bytesV_append, ← hn, ← hk]
  exact o
/-- Bytes just laid, as a source. -/
theorem src_lit (w : World) (cs : Array Value) (l : List UInt8) (h : cs.toList = bytesV l) (n : Nat) (hn : l.length = n) : Src Tryd.prog 1 27 (.slice (some ⟨w.heap.size, 0, none⟩) n n) n (bytesV l) (w.alloc (.cells cs 5)) :=
  Lies.srcB (.inr ⟨w.heap.size, 0, rfl, fun j u hu => by rw [Nat.zero_add, (Whole.new w 5 cs).cell, ← Array.getElem?_toList, h]; exact hu⟩) hn n
end Go.Proofs.YtgmohgofcjemkaaDoor

/- What is proved: what the walks of this seat need of layers below, merged out of the texts Owb (of each just what is needed). Conditions: each theorem names its own. -/
import Derived.Test.YtgbhdjncccmabaaGreatDoorRows
import Derived.Test.YtgbhdjncccmabaaGreatDoorDa
import Derived.Test.YtgbhdjncccmabaaGreatDoorDb
/- What is proved: a row of bytes that is the call's own, and what an append onto it leaves. Conditions: none. -/
namespace Go.Proofs.YtgbhdjncccmabaaGreatDoor
open Go.RowKit
set_option linter.unusedVariables false
theorem info_parts {P : Program} {t : TypeId} {z : Value} {s b : Nat} (h : (P.info? t).map (fun i => (i.zero, i.size, i.bytes)) = some (some z, s, b)) : ∃ i, P.info? t = some i ∧ i.zero = some z ∧ i.size = s ∧ i.bytes = b := by
  cases hq : P.info? t with
  | none => simp [hq] at h
  | some i =>
    simp [hq] at h
    exact ⟨i, rfl, h.1, h.2.1, h.2.2⟩
theorem own_weaken {w : World} {base base' : Nat} {e : TypeId} {size n : Nat} {v : Value} {xs : List Value} (h : w.ownsRow base e size v n xs) (hb : base' ≤ base) : w.ownsRow base' e size v n xs := by
  refine ⟨h.1, ?_⟩
  rcases h.2 with h0 | ⟨g, cap, cur, hv, hb2, r⟩
  · exact .inl h0
  · exact .inr ⟨g, cap, cur, hv, Nat.le_trans hb hb2, r⟩
theorem Lies.srcB {w : World} {A : Option Addr} {l : List UInt8} {n : Nat} (h : Lies w A (bytesV l)) (hn : l.length = n) (c : Nat) : Src Tryz.prog 1 28 (.slice A n c) n (bytesV l) w := by
  have := Lies.src (P := Tryz.prog) (tx := 28) (e' := 5) h Tryz.underlying28 (bytesV_one _) c
  rwa [bytesV_length, hn] at this
/-- A row of bytes that is the call's own. -/
def OwnB (w0 w : World) (v : Value) (l : List UInt8) : Prop := w.ownsRow w0.heap.size 5 1 v l.length (bytesV l) ∧ Fr (fun _ => False) w0 w
theorem OwnB.slice {w0 w : World} {v : Value} {l : List UInt8} (h : OwnB w0 w v l) : ∃ A c, v = .slice A l.length c ∧ l.length ≤ c ∧ Lies w A (bytesV l) ∧ ∀ ad, A = some ad → w0.heap.size ≤ ad.block ∧ ad.block < w.heap.size := by
  obtain ⟨A, c, hv, hc, _⟩ := own_slice h.1
  subst hv
  exact ⟨A, c, rfl, hc, Lies.of_own h.1, fun ad e => by subst e; exact World.ownsRow.lt h.1 ad.block rfl⟩
theorem OwnB.fr {w0 w w' : World} {v : Value} {l : List UInt8} (h : OwnB w0 w v l) (f : Fr (fun _ => False) w w') : OwnB w0 w' v l := ⟨own_fr h.1 f (fun _ _ e => e), h.2.trans f (fun _ _ e => e)⟩
/-- What an append leaves of the rest. -/
theorem fr_append {w0 w w' : World} {v : Value} {n : Nat} {xs : List Value} {e : TypeId} {size : Nat} (h : w.ownsRow w0.heap.size e size v n xs) (f : Fr (fun _ => False) w0 w) (hg : w.grownBy w' v.ownBlock) : Fr (fun _ => False) w0 w' :=
  f.grown hg (fun k hk hlt => absurd hlt (by have := (World.ownsRow.lt h k hk).1; omega))
end Go.Proofs.YtgbhdjncccmabaaGreatDoor

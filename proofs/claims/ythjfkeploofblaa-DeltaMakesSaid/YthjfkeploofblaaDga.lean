/- What is proved: ops and new bytes that are not yet an op, as the document makes them; plain, and where they lie. Conditions: none. -/
import Derived.Test.YthjfkeploofblaaDeg
import Derived.Test.YthjfkeploofblaaDem
import Derived.Test.YthjfkeploofblaaDfd
namespace Go.Proofs.Ythjfkeploofblaa
open Go.RowKit
set_option linter.unusedVariables false

def flushO (os : List DOp) (fr : List UInt8) : List DOp := if fr = [] then os else os ++ [newO fr]
/-- The last op, if there is one, is a copy. -/
def LastC (os : List DOp) : Prop := ∀ init p, os = init ++ [p] → p.copy = true
theorem flush_new (os : List DOp) (fr : List UInt8) (c : UInt8) (h : LastC os) : withO (flushO os fr) c = flushO os (fr ++ [c]) := by
  unfold flushO
  rw [if_neg (show ¬ fr ++ [c] = [] by simp)]
  by_cases hf : fr = []
  · subst hf
    rw [if_pos rfl]
    rcases List.eq_nil_or_concat os with rfl | ⟨init, p, rfl⟩
    · rw [withO_nil]; rfl
    · rw [List.concat_eq_append] at *
      rw [withO_copy _ _ _ (h init p rfl)]
      rfl
  · rw [if_neg hf, withO_new _ _ _ rfl]
    rfl
theorem lastC_copy (os : List DOp) (f n : Nat) : LastC (os ++ [copyO f n]) := by
  intro init p h
  obtain ⟨_, h2⟩ := List.append_inj' h rfl
  injection h2 with h2 _
  rw [← h2]
  rfl
theorem lastC_nil : LastC [] := by intro init p h; simp at h

/-- Ops and new bytes that the document is making. -/
structure MkQ (w0 w : World) (v : Value) (qs : List POp) (fv : Value) (fr : List UInt8) : Prop where
  mq : Mq w0 w v qs
  row : w.ownsRow w0.heap.size 5 1 fv fr.length (bytesV fr)
  ap : ∀ j, fv.ownBlock = some j → v.ownBlock ≠ some j ∧ ∀ p ∈ qs, ∀ ad, p.B = some ad → ad.block ≠ j
theorem MkQ.nil (w : World) : MkQ w w (.slice none 0 0) [] (.slice none 0 0) [] := ⟨Mq.nil w, World.ownsRow_nil _ _ _ _, fun j e => by cases e⟩
theorem MkQ.frS {S : Nat → Prop} {w0 w w' : World} {v fv : Value} {qs : List POp} {fr : List UInt8} (h : MkQ w0 w v qs fv fr) (f : Fr S w w') (hS : ∀ j, S j → j < w0.heap.size) : MkQ w0 w' v qs fv fr :=
  ⟨h.mq.frS f hS, own_fr h.row f (fun k hk e => by have := (World.ownsRow.lt h.row k hk).1; have := hS k e; omega), h.ap⟩
theorem MkQ.fr {w0 w w' : World} {v fv : Value} {qs : List POp} {fr : List UInt8} (h : MkQ w0 w v qs fv fr) (f : Fr (fun _ => False) w w') : MkQ w0 w' v qs fv fr := h.frS f (fun _ e => e.elim)
/-- A new byte. -/
theorem MkQ.grow {w0 w w6 : World} {v fv fv6 : Value} {qs : List POp} {fr : List UInt8} {c : UInt8} (h : MkQ w0 w v qs fv fr) (o6 : w6.ownsRow w0.heap.size 5 1 fv6 (fr.length + 1) (bytesV fr ++ [.int .u8 c.toNat])) (f6 : Fr (fun j => fv.ownBlock = some j) w w6)
    (hat : fv6.ownBlock = fv.ownBlock ∨ ∃ j, fv6.ownBlock = some j ∧ w.heap.size ≤ j) : MkQ w0 w6 v qs fv6 (fr ++ [c]) := by
  refine ⟨⟨own_fr h.mq.own f6 (fun k hk e => (h.ap k e).1 hk), fun p hp => ?_, fun p hp ad hA => ?_⟩, ?_, fun j hj => ?_⟩
  · have h0 := h.mq.ok p hp
    exact ⟨h0.f, h0.n, h0.le, h0.cap, h0.lies.fr f6 (fun ad hA e => (h.ap _ e).2 p hp ad hA rfl)⟩
  · have h0 := h.mq.old p hp ad hA
    exact ⟨Nat.lt_of_lt_of_le h0.1 f6.size, h0.2⟩
  · rw [List.length_append, bytesV_append]
    exact o6
  · rcases hat with h1 | ⟨k, h1, h2⟩
    · exact h.ap j (by rw [← h1]; exact hj)
    · rw [h1] at hj
      injection hj with hj
      subst hj
      refine ⟨fun e => ?_, fun p hp ad hA e => ?_⟩
      · have := (World.ownsRow.lt h.mq.own k e).2
        omega
      · have := (h.mq.old p hp ad hA).1
        omega
/-- An op that has no bytes. -/
theorem MkQ.copy {w0 w w6 : World} {v v6 fv : Value} {qs : List POp} {fr : List UInt8} {p : POp} (h : MkQ w0 w v qs fv fr) (hp : p.Ok w) (hB : p.B = none) (o6 : w6.ownsRow w0.heap.size 66 4 v6 (qs.length + 1) (flatP qs ++ p.cells)) (f6 : Fr (fun j => v.ownBlock = some j) w w6)
    (hat : v6.ownBlock = v.ownBlock ∨ ∃ j, v6.ownBlock = some j ∧ w.heap.size ≤ j) : MkQ w0 w6 v6 (qs ++ [p]) fv fr := by
  refine ⟨h.mq.push hp (fun ad hA => by rw [hB] at hA; cases hA) o6 f6 hat, own_fr h.row f6 (fun k hk e => (h.ap k hk).1 e), fun j hj => ⟨fun e => ?_, fun q hq ad hA => ?_⟩⟩
  · rcases hat with h1 | ⟨k, h1, h2⟩
    · exact (h.ap j hj).1 (by rw [← h1]; exact e)
    · rw [h1] at e
      injection e with e
      have := (World.ownsRow.lt h.row j hj).2
      omega
  · rcases List.mem_append.1 hq with h1 | h1
    · exact (h.ap j hj).2 q h1 ad hA
    · rw [List.mem_singleton.1 h1, hB] at hA; cases hA
/-- The new bytes become an op. -/
theorem MkQ.flush {w0 w w6 : World} {v v6 : Value} {A : Option Addr} {c : Nat} {qs : List POp} {fr : List UInt8} (h : MkQ w0 w v qs (.slice A fr.length c) fr) (o6 : w6.ownsRow w0.heap.size 66 4 v6 (qs.length + 1) (flatP qs ++ POp.cells ⟨newO fr, A, c⟩)) (f6 : Fr (fun j => v.ownBlock = some j) w w6)
    (hat : v6.ownBlock = v.ownBlock ∨ ∃ j, v6.ownBlock = some j ∧ w.heap.size ≤ j) : MkQ w0 w6 v6 (qs ++ [⟨newO fr, A, c⟩]) (.slice none 0 0) [] := by
  obtain ⟨a1, a2, ha, hk1, hk2⟩ := own_slice h.row
  injection ha with e1 e2 e3
  subst e1; subst e3
  refine ⟨h.mq.push ⟨⟨by simp [newO], by simp [newO]⟩, ⟨by simp [newO], by simp [newO]⟩, hk1, hk2, Lies.of_own h.row⟩ (fun ad hA => ?_) o6 f6 hat, World.ownsRow_nil _ _ _ _, fun j e => by cases e⟩
  have hob : Value.ownBlock (.slice A fr.length c) = some ad.block := by rw [show A = some ad from hA]; rfl
  have h1 := World.ownsRow.lt h.row ad.block hob
  exact ⟨h1.2, (h.ap _ hob).1, h1.1⟩
end Go.Proofs.Ythjfkeploofblaa

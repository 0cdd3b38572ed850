/- What is proved: how an argument that is a list of texts is opened; closed facts of the program. Conditions: none. -/
import Derived.Test.YtgmohgofcjemkaaDoorNw
import Derived.Test.YtgmohgofcjemkaaDoorBat
import Derived.ProofKit
import Derived.OpenShut
import Derived.ShutString
import Derived.ChangeOld
import Derived.SizedLaws
import Derived.ChangeMaps5
import Derived.Deep.Strs
namespace Go.Proofs.YtgmohgofcjemkaaDoor
open Go.ChangeShapes Go.WideShapes Go.ChangeAt Go.RowKit Go.Deep
set_option linter.unusedVariables false

theorem own_knob : ownKnob Tryd.prog.godebug = none := by kernel_rfl
theorem laidOut : laidOutB Tryd.prog = true := by kernel_rfl
theorem cells_u8 : Tryd.prog.cellsOf 5 = 1 := by kernel_rfl
theorem cells_str : Tryd.prog.cellsOf 9 = 1 := by kernel_rfl
theorem open_texts {H : Type} {enc : TypeId × Value → H} {w : World} {base : Nat} {held : Bool} {fuel : Nat} {cs : List Value} {x : DataW H × List MemPlace}
    (h : DataW.trod enc Tryd.prog w base (fun _ => true) held fuel 22 cs = some x) :
    ∃ A cap ps, cs = [.slice A ps.length cap] ∧ ps.length ≤ cap ∧ cap ≤ maxLen ∧ Lies w A (strM ps) := by
  rcases open_strs Tryd.underlying22 Tryd.underlying9 cells_str h with ⟨hcs, hx⟩ | ⟨a, len, cap, m, Sx, hcs, hb, hl, hm, hmm, hx, hi⟩
  · exact ⟨none, 0, [], hcs, by simp, Nat.zero_le _, .inl rfl⟩
  · have hmc : m = cap := by simpa using hmm
    have hll : ((List.range len).map fun i => (Sx i).data.toList).length = len := by simp
    refine ⟨some a, cap, (List.range len).map fun i => (Sx i).data.toList, by rw [hll]; exact hcs, by rw [hll]; exact hl, hm, ?_⟩
    rcases Nat.eq_zero_or_pos len with h0 | h0
    · subst h0
      exact .inl rfl
    · obtain ⟨b, o, sp⟩ := a
      have h00 := (hi 0 (by omega)).1
      have hsp : sp = none := by simpa [Addr.add] using World.cell?_spot h00
      subst hsp
      refine .inr ⟨b, o, rfl, fun i u hu => ?_⟩
      have hil : i < len := by
        have := (List.getElem?_eq_some_iff.1 hu).1
        rwa [strM_len, hll] at this
      have h1 := (hi i (by omega)).1
      rw [add_off] at h1
      rw [h1, ← hu, strM_get _ i (by rw [hll]; exact hil)]
      simp [List.getD_eq_getElem?_getD, hil, strB_of]

theorem len_of_max {s : ByteArray} (h : s.size ≤ maxLen) : s.data.toList.length ≤ 9223372036854775807 := by
  obtain ⟨M, hM⟩ : ∃ M : Nat, M = 9223372036854775807 := ⟨_, rfl⟩
  have h2 : maxLen = M := by rw [hM]; rfl
  rw [h2] at h
  rw [← hM]
  have e : s.data.toList.length = s.size := Array.length_toList
  omega
theorem list_of_max {n c : Nat} (h : n ≤ c) (h2 : c ≤ maxLen) : n ≤ 9223372036854775807 := by
  unfold maxLen at h2
  omega
end Go.Proofs.YtgmohgofcjemkaaDoor

/- What is proved: how an argument that is a list of ids is opened: its ids as numbers, where they lie. Conditions: none. -/
import Derived.Test.YtbfbgopbelmghaaOje
import Derived.Test.YtbfbgopbelmghaaOyK
import Derived.Deep.Slices
namespace Go.Proofs.Ytbfbgopbelmghaa
open Go.ChangeShapes Go.WideShapes Go.ChangeAt Go.RowKit Go.Deep
set_option linter.unusedVariables false

theorem open_ids {H : Type} {enc : TypeId × Value → H} {w : World} {base : Nat} {held : Bool} {fuel : Nat} {cs : List Value} {x : DataW H × List MemPlace}
    (h : DataW.trod enc Try.prog w base (fun _ => true) held fuel 44 cs = some x) :
    ∃ A cap l, cs = [.slice A l.length cap] ∧ l.length ≤ cap ∧ l.length ≤ 9223372036854775807 ∧ Lies w A (flatI l) ∧ ∀ n ∈ l, n < big := by
  rcases open_slice Try.underlying44 h with ⟨hcs, hx⟩ | ⟨a, len, cap, m, n, D, Pl, hcs, hb, hl, hm, hmm, hx, hi⟩
  · exact ⟨none, 0, [], hcs, by simp, by simp, .inl rfl, by simp⟩
  · have hmc : m = cap := by simpa using hmm
    have each : ∀ i, i < len → ∃ y : Nat, y < big ∧ ∀ j, j < 32 → w.cell? (a.add (i * 32 + j)) = some (cellD (dgt y) j) := by
      intro i hil
      obtain ⟨cs', hc, ht'⟩ := hi i (by omega)
      rw [cells_ID] at hc
      obtain ⟨y, hy, e⟩ := open_id ht'
      obtain ⟨_, hcl, hat⟩ := World.cells?_some hc
      refine ⟨y, hy, fun j hj => ?_⟩
      have := hat j (by omega)
      rw [add_add] at this
      rw [this, e, Array.getElem?_toList, idC_get _ j hj]
    obtain ⟨f, hfd⟩ := choose_lt each
    have hll : ((List.range len).map f).length = len := by simp
    have hmx : cap ≤ maxLen := hm
    refine ⟨some a, cap, (List.range len).map f, by rw [hll]; exact hcs, by rw [hll]; exact hl, by rw [hll]; unfold maxLen at hmx; omega, ?_, fun y hy => ?_⟩
    · rcases Nat.eq_zero_or_pos len with h0 | h0
      · subst h0
        exact .inl rfl
      · have h00 := (hfd 0 h0).2 0 (by decide)
        obtain ⟨b, o, sp⟩ := a
        have hsp : sp = none := by simpa [Addr.add] using World.cell?_spot h00
        subst hsp
        refine .inr ⟨b, o, rfl, fun t u hu => ?_⟩
        have ht : t < len * 32 := by
          have := (List.getElem?_eq_some_iff.1 hu).1
          rwa [flatI_len, hll] at this
        have hil : t / 32 < len := by omega
        have e := flatI_get ((List.range len).map f) (t / 32) (f (t / 32)) (t % 32) (by rw [List.getElem?_map, List.getElem?_range hil]; rfl) (Nat.mod_lt _ (by decide))
        rw [show t / 32 * 32 + t % 32 = t by omega] at e
        rw [e] at hu
        have h2 := (hfd (t / 32) hil).2 (t % 32) (Nat.mod_lt _ (by decide))
        rw [add_off, show t / 32 * 32 + t % 32 = t by omega] at h2
        rw [h2, hu]
    · obtain ⟨i, hi', rfl⟩ := List.mem_map.1 hy
      exact (hfd i (by simpa using hi')).1
end Go.Proofs.Ytbfbgopbelmghaa

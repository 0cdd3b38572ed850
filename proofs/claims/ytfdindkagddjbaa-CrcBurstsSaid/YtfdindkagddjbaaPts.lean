/- What is proved: what it is that a list of slices of bytes lies in memory, and how an argument that is such a list is opened. Conditions: none; no program is named. -/
import Derived.Test.YtfdindkagddjbaaAr2
import Derived.Deep.Slices
namespace Go.Proofs.Ytfdindkagddjbaa
open Go.ChangeShapes Go.WideShapes Go.ChangeAt Go.RowKit Go.Deep
set_option linter.unusedVariables false

/-- Parts: where their bytes lie. -/
def Parts (w : World) (A : Option Addr) (ps : List (List UInt8)) : Prop :=
  ps = [] ∨ ∃ b o, A = some ⟨b, o, none⟩ ∧ ∀ i p, ps[i]? = some p → ∃ Ai ci, w.cell? ⟨b, o + i, none⟩ = some (.slice Ai p.length ci) ∧ p.length ≤ ci ∧ Lies w Ai (bytesV p)
theorem Parts.fr {w w' : World} {A : Option Addr} {ps : List (List UInt8)} (h : Parts w A ps) (f : Fr (fun _ => False) w w') : Parts w' A ps := by
  rcases h with h | ⟨b, o, rfl, hc⟩
  · exact .inl h
  · refine .inr ⟨b, o, rfl, fun i p hi => ?_⟩
    obtain ⟨Ai, ci, h1, h2, h3⟩ := hc i p hi
    exact ⟨Ai, ci, f.cell h1 (fun e => e), h2, h3.fr f (fun _ _ e => e)⟩

theorem flatten_take_succ (ps : List (List UInt8)) (k : Nat) (p : List UInt8) (h : ps[k]? = some p) : (ps.take (k + 1)).flatten = (ps.take k).flatten ++ p := by
  rw [List.take_add_one, h, Option.toList_some, List.flatten_append]
  simp
theorem flatten_take_le (ps : List (List UInt8)) (k : Nat) : (ps.take k).flatten.length ≤ ps.flatten.length := by
  conv => rhs; rw [← List.take_append_drop k ps, List.flatten_append, List.length_append]
  omega

theorem open_parts {H : Type} {enc : TypeId × Value → H} {P : Program} {w : World} {base : Nat} {held : Bool} {t e u : TypeId} {fuel : Nat} {cs : List Value} {x : DataW H × List MemPlace}
    (ht : P.underlying t = some (.slice e)) (he : P.underlying e = some (.slice u)) (hu : P.underlying u = some (.int .u8)) (hce : P.cellsOf e = 1) (hcu : P.cellsOf u = 1)
    (h : DataW.trod enc P w base (fun _ => true) held fuel t cs = some x) :
    ∃ A cap ps, cs = [.slice A ps.length cap] ∧ ps.length ≤ cap ∧ cap ≤ maxLen ∧ Parts w A ps := by
  rcases open_slice1 ht hce h with ⟨hcs, hx⟩ | ⟨a, len, cap, m, n, V, D, Pl, hcs, hb, hl, hm, hmm, hx, hi⟩
  · exact ⟨none, 0, [], hcs, by simp, Nat.zero_le _, .inl rfl⟩
  · have hmc : m = cap := by simpa using hmm
    have each : ∀ i, i < len → ∃ p : List UInt8, ∃ Ai ci, w.cell? (a.add i) = some (.slice Ai p.length ci) ∧ p.length ≤ ci ∧ Lies w Ai (bytesV p) := by
      intro i hil
      obtain ⟨hc, htr⟩ := hi i (by omega)
      obtain ⟨Ai, ci, p, hv, hpc, hlp, _⟩ := open_bytes he hu hcu htr
      have hv' : V i = .slice Ai p.length ci := by simpa using hv
      exact ⟨p, Ai, ci, by rw [hc, hv'], hpc, hlp⟩
    obtain ⟨f, hfd⟩ := choose_lt each
    have hll : ((List.range len).map f).length = len := by simp
    refine ⟨some a, cap, (List.range len).map f, by rw [hll]; exact hcs, by rw [hll]; exact hl, hm, ?_⟩
    rcases Nat.eq_zero_or_pos len with h0 | h0
    · subst h0
      exact .inl rfl
    · obtain ⟨b, o, sp⟩ := a
      obtain ⟨_, _, h00, _⟩ := hfd 0 h0
      have hsp : sp = none := by simpa [Addr.add] using World.cell?_spot h00
      subst hsp
      refine .inr ⟨b, o, rfl, fun i p hip => ?_⟩
      have hil : i < len := by
        have := (List.getElem?_eq_some_iff.1 hip).1
        rwa [hll] at this
      rw [List.getElem?_map, List.getElem?_range hil] at hip
      simp only [Option.map_some, Option.some.injEq] at hip
      subst hip
      obtain ⟨Ai, ci, k1, k2, k3⟩ := hfd i hil
      rw [add_off] at k1
      exact ⟨Ai, ci, k1, k2, k3⟩
end Go.Proofs.Ytfdindkagddjbaa

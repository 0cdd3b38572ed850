/- What is proved: what the walks of this seat need of layers below, merged out of the texts Pts Cro (of each just what is needed). Conditions: each theorem names its own. -/
import Derived.Deep.Slices
import Derived.Lib.SlBytesConst
import Derived.Test.YtkaeoflgnnlbeaaGreatDoorDg
import Derived.Test.YtkaeoflgnnlbeaaGreatDoorPb
/- What is proved: what it is that a list of slices of bytes lies in memory, and how an argument that is such a list is opened. Conditions: none; no program is named. -/
namespace Go.Proofs.YtkaeoflgnnlbeaaGreatDoor
open Go.ChangeShapes Go.WideShapes Go.ChangeAt Go.RowKit Go.Deep
set_option linter.unusedVariables false
/-- Parts: where their bytes lie. -/
def Parts (w : World) (A : Option Addr) (ps : List (List UInt8)) : Prop :=
  ps = [] ∨ ∃ b o, A = some ⟨b, o, none⟩ ∧ ∀ i p, ps[i]? = some p → ∃ Ai ci, w.cell? ⟨b, o + i, none⟩ = some (.slice Ai p.length ci) ∧ p.length ≤ ci ∧ Lies w Ai (bytesV p)
theorem Parts.fr {w w' : World} {A : Option Addr} {ps : List (List UInt8)} (h : Parts w A ps) (f : Fr (fun _ => False) w w') : Parts w' A ps := by
  rcases h with h | ⟨b, o, rfl, hc⟩
  · exact .inl h
  · refine .inr ⟨b, o, rfl, fun i p hi => ?_⟩
    obtain ⟨Ai, ci, h1, h2, h3⟩ := hc i p hi
    exact ⟨Ai, ci, f.cell h1 (fun e => e), h2, h3.fr f (fun _ _ e => e)⟩
theorem flatten_take_succ (ps : List (List UInt8)) (k : Nat) (p : List UInt8) (h : ps[k]? = some p) : (ps.take (k + 1)).flatten = (ps.take k).flatten ++ p := by
  rw [List.take_add_one, h, Option.toList_some, List.flatten_append]
  simp
theorem flatten_take_le (ps : List (List UInt8)) (k : Nat) : (ps.take k).flatten.length ≤ ps.flatten.length := by
  conv => rhs; rw [← List.take_append_drop k ps, List.flatten_append, List.length_append]
  omega
end Go.Proofs.YtkaeoflgnnlbeaaGreatDoor
/- What is proved: what Of answers, by the program and by the document, and that the law's own works answers true. Conditions: the parts lie where they are said to lie. -/
namespace Go.Proofs.YtkaeoflgnnlbeaaGreatDoor
open Go.RowKit
set_option linter.unusedVariables false
set_option maxHeartbeats 800000 in
theorem COf_any (A : Option Addr) (cap : Nat) (ps : List (List UInt8)) (w : World) (hp : Parts w A ps) (hps : ps.length ≤ 9223372036854775807) (hn : ps.flatten.length ≤ 9223372036854775807) :
    Calls Tryz.prog 49 #[.slice A ps.length cap] w fun e w' => e = .returned (.int .u32 (rI (more 0#32 ps.flatten))) ∧ Below w.heap.size w w' := by
  have HP := Lib.hid hp
  have HN := Lib.hid hn
  clear hp hn
  go_enter Tryz.func49, Tryz.ntmps49
  go_wp2
  go_loopw [3, 8] (fun v i wr => ∃ k : Nat, k ≤ ps.length ∧ i = .int .i64 k ∧ v = .int .u32 (rI (more 0#32 (ps.take k).flatten)) ∧ Fr (fun _ => False) w wr) (fun _ i _ => ps.length - (intOf i).toNat)
  case atStart => exact ⟨0, by omega, rfl, by rw [List.take_zero, List.flatten_nil, more_nil]; rfl, Fr.refl _ _⟩
  case round =>
    obtain ⟨k, hk, rfl, rfl, hf⟩ := hrel
    obtain ⟨q, hq⟩ : ∃ q, more 0#32 (ps.take k).flatten = q := ⟨_, rfl⟩
    rw [hq]
    by_cases hlt : k < ps.length
    · obtain ⟨p, hpk⟩ : ∃ p, ps[k]? = some p := ⟨_, List.getElem?_eq_getElem hlt⟩
      rcases HP.out with h0 | ⟨b, o, hA, hc⟩
      · rw [h0] at hlt
        simp at hlt
      · obtain ⟨Ai, ci, c1, c2, c3⟩ := hc k p hpk
        have c1' := hf.cell c1 (fun e => e)
        subst hA
        have hft := flatten_take_succ ps k p hpk
        have hfl := flatten_take_le ps (k + 1)
        have hpl : p.length ≤ 9223372036854775807 := by
          rw [hft, List.length_append] at hfl
          have := HN.out
          omega
        have HFT := Lib.hid hft
        have HC3 := Lib.hid (c3.fr hf (fun _ _ e => e))
        have HQ := Lib.hid hq
        obtain ⟨z, hz⟩ : ∃ z, rI q = z := ⟨_, rfl⟩
        rw [hz]
        have HZ := Lib.hid hz
        clear hq hz hc hpk c1 c3 hft hfl
        go_wp2_with (go_at_call 78; refine (CMore_any q z HZ.out.symm Ai ci p _ HC3.out hpl).mono ?_; rintro e w3 ⟨rfl, b3⟩)
        go_roundw
        case rel => exact ⟨k + 1, by omega, by go_num, by rw [HFT.out, more_append, HQ.out], hf.then_below b3⟩
        case measure => simp [intOf]; omega
    · obtain rfl : k = ps.length := by omega
      rw [List.take_length] at hq
      have HQ := Lib.hid hq
      clear hq
      go_wp2_with fail
      go_ret
      exact ⟨by rw [HQ.out]; rfl, hf.below (fun _ _ e => e)⟩
set_option maxHeartbeats 800000 in
theorem QcOf_any (A : Option Addr) (cap : Nat) (bs : List UInt8) (w : World) (hl : Lies w A (bytesV bs)) (hn : bs.length ≤ 9223372036854775807) :
    Calls Tryz.prog 31 #[.slice A bs.length cap] w fun e w' => e = .returned (.int .u32 (rI (more 0#32 bs))) ∧ Below w.heap.size w w' := by
  go_enter Tryz.func31, Tryz.ntmps31
  go_wp2_with (go_at_call 54; refine (QcMore_any 0#32 _ rfl A cap bs _ hl hn).mono ?_; rintro e w2 ⟨rfl, b2⟩)
  go_ret
  exact ⟨rfl, b2⟩
end Go.Proofs.YtkaeoflgnnlbeaaGreatDoor

/- What is proved: what the walks of this seat need of layers below, merged out of the texts OyK (of each just what is needed). Conditions: each theorem names its own. -/
import Derived.Test.YtgbhdjncccmabaaGreatDoorRows
import Derived.ProofKit
import Derived.OpenShut
import Derived.ShutString
import Derived.ChangeOld
import Derived.SizedLaws
import Derived.ChangeMaps5
import Derived.Test.YtgbhdjncccmabaaGreatDoorIa
set_option maxRecDepth 100000
/- What is proved: how an argument that is an id, or a beginning of ids, is opened; closed facts of the program. Conditions: none. -/
namespace Go.Proofs.YtgbhdjncccmabaaGreatDoor
open Go.ChangeShapes Go.WideShapes Go.ChangeAt Go.RowKit
set_option linter.unusedVariables false
theorem own_knob : ownKnob Tryz.prog.godebug = none := by kernel_rfl
theorem laidOut : laidOutB Tryz.prog = true := by kernel_rfl
theorem cells_u8 : Tryz.prog.cellsOf 5 = 1 := by kernel_rfl
theorem cells_int : Tryz.prog.cellsOf 3 = 1 := by kernel_rfl
theorem cells_ID : Tryz.prog.cellsOf 24 = 32 := by kernel_rfl
theorem cells_pfx : Tryz.prog.cellsOf 26 = 33 := by kernel_rfl
theorem okWide_agg {P : Program} {w : World} {r : Reach} {base : Nat} {t : TypeId} {v : Value} (ht : (∃ n e, P.underlying t = some (.array n e)) ∨ ∃ fs, P.underlying t = some (.struct fs)) (h : Value.okWide P w r base t v) : ∃ cs, v = .agg cs ∧ cs.size = P.cellsOf t := by
  rcases ht with ⟨n, e, ht⟩ | ⟨fs, ht⟩
  · simp only [Value.okWide, ht] at h
    obtain ⟨cs, h1, h2, _⟩ := h
    exact ⟨cs, h1, h2⟩
  · simp only [Value.okWide, ht] at h
    obtain ⟨cs, h1, h2, _⟩ := h
    exact ⟨cs, h1, h2⟩
def byteAtK (cs : List Value) (i : Nat) : Nat := match cs[i]? with
  | some (.int _ n) => n.toNat
  | _ => 0
def digAt (cs : List Value) (k : Nat) : Nat := if k % 2 = 0 then byteAtK cs (k / 2) / 16 else byteAtK cs (k / 2) % 16
theorem id_of_bytes (cs : List Value) (hs : cs.length = 32) (h : ∀ i, i < 32 → ∃ n : Int, cs[i]? = some (.int .u8 n) ∧ 0 ≤ n ∧ n ≤ 255) : ∃ a, a < big ∧ cs = (idC (dgt a)).toList := by
  have hb : ∀ i, byteAtK cs i < 256 := fun i => by
    unfold byteAtK
    rcases Nat.lt_or_ge i 32 with hi | hi
    · obtain ⟨n, e, h0, h1⟩ := h i hi
      rw [e]
      simp only
      omega
    · rw [List.getElem?_eq_none (by omega)]
      simp
  have hd : ∀ k, digAt cs k < 16 := fun k => by
    have := hb (k / 2)
    unfold digAt
    split <;> omega
  refine ⟨nu (digAt cs), nu_lt _ hd, ?_⟩
  rw [idC_nu _ hd]
  apply List.ext_getElem?
  intro i
  rcases Nat.lt_or_ge i 32 with hi | hi
  · obtain ⟨n, e, h0, h1⟩ := h i hi
    have hby : byt (digAt cs) i = byteAtK cs i := by
      unfold byt digAt
      rw [if_pos (by omega), if_neg (by omega), show 2 * i / 2 = i by omega, show (2 * i + 1) / 2 = i by omega]
      omega
    have hbn : byteAtK cs i = n.toNat := by unfold byteAtK; rw [e]
    rw [e, Array.getElem?_toList, idC_get _ i hi, cellD, hby, hbn, Int.toNat_of_nonneg h0]
  · rw [List.getElem?_eq_none (by omega), List.getElem?_eq_none (by rw [Array.length_toList, idC_size]; omega)]
theorem take_one {cs : List Value} {i : Nat} (h : i < cs.length) : (cs.drop i).take 1 = [cs[i]] := by
  rw [List.drop_eq_getElem_cons h]
  rfl
/-- An id, as a reader has read it. -/
theorem open_id {H : Type} {enc : TypeId × Value → H} {w : World} {base : Nat} {sp : Nat → Bool} {held : Bool} {fuel : Nat} {cs : List Value} {x : DataW H × List MemPlace}
    (h : DataW.trod enc Tryz.prog w base sp held fuel 24 cs = some x) : ∃ a, a < big ∧ cs = (idC (dgt a)).toList := by
  obtain ⟨xs, m, rfl, _, hl, hxl, hel⟩ := DataW.trod_array Tryz.underlying24 h
  rw [cells_ID] at hl
  refine id_of_bytes cs hl (fun i hi => ?_)
  have h1 := hel i hi
  rw [cells_u8, Nat.mul_one, take_one (by omega), List.getElem?_eq_getElem (by omega)] at h1
  obtain ⟨n, e1, _, hw⟩ := DataW.trod_int Tryz.underlying5 h1
  have hr : 0 ≤ n ∧ n ≤ 255 := by simpa [Lit.wf, IntKind.min, IntKind.max, IntKind.signed, IntKind.bits] using hw
  refine ⟨n, ?_, hr.1, hr.2⟩
  rw [List.getElem?_eq_getElem (by omega)]
  simpa using e1
/-- A beginning. -/
theorem open_pfx {H : Type} {enc : TypeId × Value → H} {w : World} {base : Nat} {sp : Nat → Bool} {held : Bool} {fuel : Nat} {cs : List Value} {x : DataW H × List MemPlace}
    (h : DataW.trod enc Tryz.prog w base sp held fuel 26 cs = some x) : ∃ a N, a < big ∧ -9223372036854775808 ≤ N ∧ N ≤ 9223372036854775807 ∧ cs = (pfC (dgt a) N).toList := by
  obtain ⟨xs, m, rfl, _, hl, hxl, hel⟩ := DataW.trod_struct Tryz.underlying26 h
  rw [cells_pfx] at hl
  have hxl2 : xs.length = 2 := hxl
  have h0 : DataW.trod enc Tryz.prog w base sp held m 24 ((cs.drop 0).take (Tryz.prog.cellsOf 24)) = xs[0]? := hel 0 _ rfl
  have h1 : DataW.trod enc Tryz.prog w base sp held m 3 ((cs.drop 32).take (Tryz.prog.cellsOf 3)) = xs[1]? := hel 1 _ rfl
  rw [cells_ID, List.getElem?_eq_getElem (by omega)] at h0
  rw [cells_int, take_one (by omega), List.getElem?_eq_getElem (by omega)] at h1
  obtain ⟨a, ha, e0⟩ := open_id h0
  obtain ⟨N, e1, _, hw⟩ := DataW.trod_int Tryz.underlying3 h1
  have hr : -9223372036854775808 ≤ N ∧ N ≤ 9223372036854775807 := by simpa [Lit.wf, IntKind.min, IntKind.max, IntKind.signed, IntKind.bits] using hw
  refine ⟨a, N, ha, hr.1, hr.2, ?_⟩
  have e2 : cs = (cs.drop 0).take 32 ++ [cs[32]] := by
    rw [List.drop_zero]
    conv => lhs; rw [← List.take_append_drop 32 cs]
    congr 1
    rw [List.drop_eq_getElem_cons (by omega), List.drop_of_length_le (by omega)]
  rw [e2, e0]
  have e3 : cs[32] = .int .i64 N := by simpa using e1
  rw [e3, pfC, Array.toList_append]
end Go.Proofs.YtgbhdjncccmabaaGreatDoor

/- What is proved: what the walks of this seat need of layers below, merged out of the texts Tru (of each just what is needed). Conditions: each theorem names its own. -/
import Derived.Test.YtinjednmamkjgaaRows
import Derived.ProofKit
import Derived.OpenShut
import Derived.ShutString
import Derived.ChangeOld
import Derived.SizedLaws
import Derived.ChangeMaps5
import Derived.Deep.Slices
import Derived.Test.YtinjednmamkjgaaBm
set_option maxRecDepth 100000
/- What is proved: how an argument that is a list of entries is opened: its entries, where they lie; closed facts of the program. Conditions: what the row asks of sizes. -/
namespace Go.Proofs.Ytinjednmamkjgaa
open Go.ChangeShapes Go.WideShapes Go.ChangeAt Go.RowKit Go.Deep
set_option linter.unusedVariables false
theorem own_knob : ownKnob Try.prog.godebug = none := by kernel_rfl
theorem laidOut : laidOutB Try.prog = true := by kernel_rfl
theorem cells_u8 : Try.prog.cellsOf 5 = 1 := by kernel_rfl
theorem cells_int : Try.prog.cellsOf 3 = 1 := by kernel_rfl
theorem cells_str : Try.prog.cellsOf 9 = 1 := by kernel_rfl
theorem cells_ID : Try.prog.cellsOf 25 = 32 := by kernel_rfl
theorem cells_ent : Try.prog.cellsOf 27 = 34 := by kernel_rfl
theorem take_one {cs : List Value} {i : Nat} (h : i < cs.length) : (cs.drop i).take 1 = [cs[i]] := by
  rw [List.drop_eq_getElem_cons h]
  rfl
def toByte : Value → UInt8
  | .int _ n => UInt8.ofNat n.toNat
  | _ => 0
theorem bytes_of (cs : List Value) (hs : cs.length = 32) (h : ∀ i, i < 32 → ∃ n : Int, cs[i]? = some (.int .u8 n) ∧ 0 ≤ n ∧ n ≤ 255) : cs = bytesV (cs.map toByte) := by
  apply List.ext_getElem?
  intro i
  rcases Nat.lt_or_ge i 32 with hi | hi
  · obtain ⟨n, e, h0, h1⟩ := h i hi
    rw [bytesV, List.map_map, List.getElem?_map, e]
    simp only [Option.map_some, Function.comp_apply, toByte, byteV]
    congr 2
    rw [UInt8.toNat_ofNat']
    omega
  · rw [List.getElem?_eq_none (by omega), List.getElem?_eq_none (by rw [bytesV_length, List.length_map]; omega)]
/-- An id, as a reader has read it. -/
theorem open_idB {H : Type} {enc : TypeId × Value → H} {w : World} {base : Nat} {sp : Nat → Bool} {held : Bool} {fuel : Nat} {cs : List Value} {x : DataW H × List MemPlace}
    (h : DataW.trod enc Try.prog w base sp held fuel 25 cs = some x) : ∃ l : List UInt8, l.length = 32 ∧ cs = bytesV l := by
  obtain ⟨xs, m, rfl, _, hl, hxl, hel⟩ := DataW.trod_array Try.underlying25 h
  rw [cells_ID] at hl
  refine ⟨cs.map toByte, by rw [List.length_map, hl], bytes_of cs hl (fun i hi => ?_)⟩
  have h1 := hel i hi
  rw [cells_u8, Nat.mul_one, take_one (by omega), List.getElem?_eq_getElem (by omega)] at h1
  obtain ⟨n, e1, _, hw⟩ := DataW.trod_int Try.underlying5 h1
  have hr : 0 ≤ n ∧ n ≤ 255 := by simpa [Lit.wf, IntKind.min, IntKind.max, IntKind.signed, IntKind.bits] using hw
  refine ⟨n, ?_, hr.1, hr.2⟩
  rw [List.getElem?_eq_getElem (by omega)]
  simpa using e1
theorem wts_all {H : Type} {P : Program} {e : TypeId} : ∀ {l : List (DataW H)} {d : DataW H}, d ∈ l → ∀ n ∈ d.weights P e, n ∈ DataW.weightsAll P e l
  | [], _, hd, _, _ => by cases hd
  | d0 :: l, d, hd, n, hn => by
    simp only [DataW.weightsAll, List.mem_append]
    rcases List.mem_cons.1 hd with rfl | h
    · exact .inl hn
    · exact .inr (wts_all h n hn)
/-- An entry, as a reader has read it. -/
theorem open_ent {H : Type} {enc : TypeId × Value → H} {w : World} {base : Nat} {sp : Nat → Bool} {held : Bool} {fuel : Nat} {cs : List Value} {x : DataW H × List MemPlace}
    (h : DataW.trod enc Try.prog w base sp held fuel 27 cs = some x) (hz : ∀ n ∈ x.1.weights Try.prog 27, n ≤ reachBytes) : ∃ e : Ent, cs = entV e := by
  obtain ⟨xs, m, hx, hy, hl, hxl, hel⟩ := DataW.trod_struct Try.underlying27 h
  rw [cells_ent] at hl
  have hxl2 : xs.length = 3 := hxl
  have h0 : DataW.trod enc Try.prog w base sp held m 9 ((cs.drop 0).take (Try.prog.cellsOf 9)) = xs[0]? := hel 0 _ rfl
  have h1 : DataW.trod enc Try.prog w base sp held m 3 ((cs.drop 1).take (Try.prog.cellsOf 3)) = xs[1]? := hel 1 _ rfl
  have h2 : DataW.trod enc Try.prog w base sp held m 25 ((cs.drop 2).take (Try.prog.cellsOf 25)) = xs[2]? := hel 2 _ rfl
  rw [cells_str, take_one (by omega)] at h0
  rw [cells_int, take_one (by omega)] at h1
  rw [cells_ID] at h2
  match xs, hxl2 with
  | [y0, y1, y2], _ =>
    obtain ⟨s, e0, x0, w0⟩ := DataW.trod_string Try.underlying9 h0
    obtain ⟨N, e1, x1, hw⟩ := DataW.trod_int Try.underlying3 h1
    obtain ⟨l, hll, e2⟩ := open_idB h2
    have hr : -9223372036854775808 ≤ N ∧ N ≤ 9223372036854775807 := by simpa [Lit.wf, IntKind.min, IntKind.max, IntKind.signed, IntKind.bits] using hw
    have hsz : s.data.toList.length ≤ reachBytes := by
      refine hz _ ?_
      rw [hy]
      simp only [List.map_cons, List.map_nil, DataW.weights, Try.underlying27]
      simp only [DataW.weightsEach, List.mem_append]
      exact .inl (by rw [x0]; simp [DataW.weights])
    refine ⟨⟨s.data.toList, N, l, by unfold reachBytes at hsz; omega, hr, hll⟩, ?_⟩
    have s1 : cs = (cs.drop 0).take 1 ++ ((cs.drop 1).take 1 ++ (cs.drop 2).take 32) := by
      rw [show (cs.drop 2).take 32 = cs.drop 2 from List.take_of_length_le (by rw [List.length_drop]; omega), show cs.drop 2 = (cs.drop 1).drop 1 by rw [List.drop_drop], List.take_append_drop, show cs.drop 1 = (cs.drop 0).drop 1 by rw [List.drop_drop], List.take_append_drop, List.drop_zero]
    rw [s1, e2, take_one (by omega), take_one (by omega)]
    have a0 : cs[0] = .string s := by simpa using e0
    have a1 : cs[1] = .int .i64 N := by simpa using e1
    rw [a0, a1, entV, strB_of]
    rfl
theorem open_ents {H : Type} {enc : TypeId × Value → H} {w : World} {base : Nat} {held : Bool} {fuel : Nat} {cs : List Value} {x : DataW H × List MemPlace}
    (h : DataW.trod enc Try.prog w base (fun _ => true) held fuel 22 cs = some x) (hz : ∀ n ∈ x.1.weights Try.prog 22, n ≤ reachBytes) :
    ∃ A cap l, cs = [.slice A l.length cap] ∧ l.length ≤ cap ∧ l.length ≤ 9223372036854775807 ∧ Lies w A (flatE l) := by
  rcases open_slice Try.underlying22 h with ⟨hcs, hx⟩ | ⟨a, len, cap, m, n, D, Pl, hcs, hb, hl, hm, hmm, hx, hi⟩
  · exact ⟨none, 0, [], hcs, by simp, by simp, .inl rfl⟩
  · have hmc : m = cap := by simpa using hmm
    have each : ∀ i, i < len → ∃ e : Ent, ∀ j v, (entV e)[j]? = some v → w.cell? (a.add (i * 34 + j)) = some v := by
      intro i hil
      obtain ⟨cs', hc, ht'⟩ := hi i (by omega)
      rw [cells_ent] at hc
      obtain ⟨e, he⟩ := open_ent ht' (fun n hn => hz n (by
        rw [hx]
        simp only [DataW.weights, Try.underlying22, List.mem_cons, List.mem_append]
        exact .inr (.inl (wts_all (List.mem_map.2 ⟨i, List.mem_range.2 hil, rfl⟩) n hn))))
      obtain ⟨_, hcl, hat⟩ := World.cells?_some hc
      refine ⟨e, fun j v hv => ?_⟩
      have hj : j < 34 := by
        have := (List.getElem?_eq_some_iff.1 hv).1
        rwa [entV_len] at this
      have := hat j (by omega)
      rw [add_add] at this
      rw [this, he, hv]
    obtain ⟨f, hfd⟩ := choose_lt each
    have hll : ((List.range len).map f).length = len := by simp
    have hmx : cap ≤ maxLen := hm
    refine ⟨some a, cap, (List.range len).map f, by rw [hll]; exact hcs, by rw [hll]; exact hl, by rw [hll]; unfold maxLen at hmx; omega, ?_⟩
    rcases Nat.eq_zero_or_pos len with h0 | h0
    · subst h0
      exact .inl rfl
    · have h00 := hfd 0 h0 0 _ rfl
      obtain ⟨b, o, sp⟩ := a
      have hsp : sp = none := by simpa [Addr.add] using World.cell?_spot h00
      subst hsp
      refine .inr ⟨b, o, rfl, fun t u hu => ?_⟩
      have ht : t < len * 34 := by
        have := (List.getElem?_eq_some_iff.1 hu).1
        rwa [flatE_len, hll] at this
      have hil : t / 34 < len := by omega
      have e := flatE_get ((List.range len).map f) (t / 34) (t % 34) (f (t / 34)) (by rw [List.getElem?_map, List.getElem?_range hil]; rfl) (Nat.mod_lt _ (by decide))
      rw [show t / 34 * 34 + t % 34 = t by omega, hu] at e
      have h2 := hfd (t / 34) hil (t % 34) u e.symm
      rw [add_off, show t / 34 * 34 + t % 34 = t by omega] at h2
      exact h2
end Go.Proofs.Ytinjednmamkjgaa

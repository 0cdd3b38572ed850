/- What is proved: how an argument that is a list of refs, or an id, is opened; closed facts of the program; a start that meets the rows' condition on the library's tables. Conditions: what the row asks of sizes. -/
import Derived.Test.YtoakbdmfoepdgaaDoorRows
import Derived.Test.YtoakbdmfoepdgaaDoorRfb
import Derived.ProofKit
import Derived.OpenShut
import Derived.ShutString
import Derived.ChangeOld
import Derived.SizedLaws
import Derived.ChangeMaps5
import Derived.Deep.Slices
import Derived.Lay
import Derived.Stop.Joined
namespace Go.Proofs.YtoakbdmfoepdgaaDoor
open Go.ChangeShapes Go.WideShapes Go.ChangeAt Go.RowKit Go.Deep
open Ids (idC dgt big idC_size idC_get idC_one cellD zero32 size32 dgt_lt hexB nu nu_lt idC_nu byt)
set_option linter.unusedVariables false

theorem own_knob : ownKnob Tryd.prog.godebug = none := by kernel_rfl
theorem laidOut : laidOutB Tryd.prog = true := by kernel_rfl
theorem cells_u8 : Tryd.prog.cellsOf 5 = 1 := by kernel_rfl
theorem cells_str : Tryd.prog.cellsOf 9 = 1 := by kernel_rfl
theorem cells_ID : Tryd.prog.cellsOf 41 = 32 := by kernel_rfl
theorem cells_ref : Tryd.prog.cellsOf 50 = 33 := by kernel_rfl
theorem okWide_agg {P : Program} {w : World} {r : Reach} {base : Nat} {t : TypeId} {v : Value} (ht : (∃ n e, P.underlying t = some (.array n e)) ∨ ∃ fs, P.underlying t = some (.struct fs)) (h : Value.okWide P w r base t v) : ∃ cs, v = .agg cs ∧ cs.size = P.cellsOf t := by
  rcases ht with ⟨n, e, ht⟩ | ⟨fs, ht⟩
  · simp only [Value.okWide, ht] at h
    obtain ⟨cs, h1, h2, _⟩ := h
    exact ⟨cs, h1, h2⟩
  · simp only [Value.okWide, ht] at h
    obtain ⟨cs, h1, h2, _⟩ := h
    exact ⟨cs, h1, h2⟩
def byteAt (cs : List Value) (i : Nat) : Nat := match cs[i]? with
  | some (.int _ n) => n.toNat
  | _ => 0
def digAt (cs : List Value) (k : Nat) : Nat := if k % 2 = 0 then byteAt cs (k / 2) / 16 else byteAt cs (k / 2) % 16
theorem id_of_bytes (cs : List Value) (hs : cs.length = 32) (h : ∀ i, i < 32 → ∃ n : Int, cs[i]? = some (.int .u8 n) ∧ 0 ≤ n ∧ n ≤ 255) : ∃ a, a < big ∧ cs = (idC (dgt a)).toList := by
  have hb : ∀ i, byteAt cs i < 256 := fun i => by
    unfold byteAt
    rcases Nat.lt_or_ge i 32 with hi | hi
    · obtain ⟨n, e, h0, h1⟩ := h i hi
      rw [e]
      simp only
      omega
    · rw [List.getElem?_eq_none (by omega)]
      simp
  have hd : ∀ k, digAt cs k < 16 := fun k => by
    have := hb (k / 2)
    unfold digAt
    split <;> omega
  refine ⟨nu (digAt cs), nu_lt _ hd, ?_⟩
  rw [idC_nu _ hd]
  apply List.ext_getElem?
  intro i
  rcases Nat.lt_or_ge i 32 with hi | hi
  · obtain ⟨n, e, h0, h1⟩ := h i hi
    have hby : byt (digAt cs) i = byteAt cs i := by
      unfold byt digAt
      rw [if_pos (by omega), if_neg (by omega), show 2 * i / 2 = i by omega, show (2 * i + 1) / 2 = i by omega]
      omega
    have hbn : byteAt cs i = n.toNat := by unfold byteAt; rw [e]
    rw [e, Array.getElem?_toList, idC_get _ i hi, cellD, hby, hbn, Int.toNat_of_nonneg h0]
  · rw [List.getElem?_eq_none (by omega), List.getElem?_eq_none (by rw [Array.length_toList, idC_size]; omega)]

theorem take_one {cs : List Value} {i : Nat} (h : i < cs.length) : (cs.drop i).take 1 = [cs[i]] := by
  rw [List.drop_eq_getElem_cons h]
  rfl
/-- An id, as a reader has read it. -/
theorem open_id {H : Type} {enc : TypeId × Value → H} {w : World} {base : Nat} {sp : Nat → Bool} {held : Bool} {fuel : Nat} {cs : List Value} {x : DataW H × List MemPlace}
    (h : DataW.trod enc Tryd.prog w base sp held fuel 41 cs = some x) : ∃ a, a < big ∧ cs = (idC (dgt a)).toList := by
  obtain ⟨xs, m, rfl, _, hl, hxl, hel⟩ := DataW.trod_array Tryd.underlying41 h
  rw [cells_ID] at hl
  refine id_of_bytes cs hl (fun i hi => ?_)
  have h1 := hel i hi
  rw [cells_u8, Nat.mul_one, take_one (by omega), List.getElem?_eq_getElem (by omega)] at h1
  obtain ⟨n, e1, _, hw⟩ := DataW.trod_int Tryd.underlying5 h1
  have hr : 0 ≤ n ∧ n ≤ 255 := by simpa [Lit.wf, IntKind.min, IntKind.max, IntKind.signed, IntKind.bits] using hw
  refine ⟨n, ?_, hr.1, hr.2⟩
  rw [List.getElem?_eq_getElem (by omega)]
  simpa using e1
theorem wts_all {H : Type} {P : Program} {e : TypeId} : ∀ {l : List (DataW H)} {d : DataW H}, d ∈ l → ∀ n ∈ d.weights P e, n ∈ DataW.weightsAll P e l
  | [], _, hd, _, _ => by cases hd
  | d0 :: l, d, hd, n, hn => by
    simp only [DataW.weightsAll, List.mem_append]
    rcases List.mem_cons.1 hd with rfl | h
    · exact .inl hn
    · exact .inr (wts_all h n hn)

/-- An entry, as a reader has read it. -/
theorem open_ref {H : Type} {enc : TypeId × Value → H} {w : World} {base : Nat} {sp : Nat → Bool} {held : Bool} {fuel : Nat} {cs : List Value} {x : DataW H × List MemPlace}
    (h : DataW.trod enc Tryd.prog w base sp held fuel 50 cs = some x) (hz : ∀ n ∈ x.1.weights Tryd.prog 50, n ≤ reachBytes) : ∃ e : Rf, cs = refV e := by
  obtain ⟨xs, m, hx, hy, hl, hxl, hel⟩ := DataW.trod_struct Tryd.underlying50 h
  rw [cells_ref] at hl
  have hxl2 : xs.length = 2 := hxl
  have h0 : DataW.trod enc Tryd.prog w base sp held m 9 ((cs.drop 0).take (Tryd.prog.cellsOf 9)) = xs[0]? := hel 0 _ rfl
  have h2 : DataW.trod enc Tryd.prog w base sp held m 41 ((cs.drop 1).take (Tryd.prog.cellsOf 41)) = xs[1]? := hel 1 _ rfl
  rw [cells_str, take_one (by omega)] at h0
  rw [cells_ID] at h2
  match xs, hxl2 with
  | [y0, y1], _ =>
    obtain ⟨s, e0, x0, w0⟩ := DataW.trod_string Tryd.underlying9 h0
    obtain ⟨a, ha, e2⟩ := open_id h2
    have hsz : s.data.toList.length ≤ reachBytes := by
      refine hz _ ?_
      rw [hy]
      simp only [List.map_cons, List.map_nil, DataW.weights, Tryd.underlying50]
      simp only [DataW.weightsEach, List.mem_append]
      exact .inl (by rw [x0]; simp [DataW.weights])
    refine ⟨⟨s.data.toList, a, by unfold reachBytes at hsz; omega, ha⟩, ?_⟩
    have s1 : cs = (cs.drop 0).take 1 ++ (cs.drop 1).take 32 := by
      rw [show (cs.drop 1).take 32 = cs.drop 1 from List.take_of_length_le (by rw [List.length_drop]; omega), show cs.drop 1 = (cs.drop 0).drop 1 by rw [List.drop_drop], List.take_append_drop, List.drop_zero]
    rw [s1, e2, take_one (by omega)]
    have a0 : cs[0] = .string s := by simpa using e0
    rw [a0, refV, strB_of]
    rfl

theorem open_refs {H : Type} {enc : TypeId × Value → H} {w : World} {base : Nat} {held : Bool} {fuel : Nat} {cs : List Value} {x : DataW H × List MemPlace}
    (h : DataW.trod enc Tryd.prog w base (fun _ => true) held fuel 22 cs = some x) (hz : ∀ n ∈ x.1.weights Tryd.prog 22, n ≤ reachBytes) :
    ∃ A cap l, cs = [.slice A l.length cap] ∧ l.length ≤ cap ∧ l.length ≤ 9223372036854775807 ∧ Lies w A (flatR l) := by
  rcases open_slice Tryd.underlying22 h with ⟨hcs, hx⟩ | ⟨a, len, cap, m, n, D, Pl, hcs, hb, hl, hm, hmm, hx, hi⟩
  · exact ⟨none, 0, [], hcs, by simp, by simp, .inl rfl⟩
  · have hmc : m = cap := by simpa using hmm
    have each : ∀ i, i < len → ∃ e : Rf, ∀ j v, (refV e)[j]? = some v → w.cell? (a.add (i * 33 + j)) = some v := by
      intro i hil
      obtain ⟨cs', hc, ht'⟩ := hi i (by omega)
      rw [cells_ref] at hc
      obtain ⟨e, he⟩ := open_ref ht' (fun n hn => hz n (by
        rw [hx]
        simp only [DataW.weights, Tryd.underlying22, List.mem_cons, List.mem_append]
        exact .inr (.inl (wts_all (List.mem_map.2 ⟨i, List.mem_range.2 hil, rfl⟩) n hn))))
      obtain ⟨_, hcl, hat⟩ := World.cells?_some hc
      refine ⟨e, fun j v hv => ?_⟩
      have hj : j < 33 := by
        have := (List.getElem?_eq_some_iff.1 hv).1
        rwa [refV_len] at this
      have := hat j (by omega)
      rw [add_add] at this
      rw [this, he, hv]
    obtain ⟨f, hfd⟩ := choose_lt each
    have hll : ((List.range len).map f).length = len := by simp
    have hmx : cap ≤ maxLen := hm
    refine ⟨some a, cap, (List.range len).map f, by rw [hll]; exact hcs, by rw [hll]; exact hl, by rw [hll]; unfold maxLen at hmx; omega, ?_⟩
    rcases Nat.eq_zero_or_pos len with h0 | h0
    · subst h0
      exact .inl rfl
    · have h00 := hfd 0 h0 0 _ rfl
      obtain ⟨b, o, sp⟩ := a
      have hsp : sp = none := by simpa [Addr.add] using World.cell?_spot h00
      subst hsp
      refine .inr ⟨b, o, rfl, fun t u hu => ?_⟩
      have ht : t < len * 33 := by
        have := (List.getElem?_eq_some_iff.1 hu).1
        rwa [flatR_len, hll] at this
      have hil : t / 33 < len := by omega
      have e := flatR_get ((List.range len).map f) (t / 33) (t % 33) (f (t / 33)) (by rw [List.getElem?_map, List.getElem?_range hil]; rfl) (Nat.mod_lt _ (by decide))
      rw [show t / 33 * 33 + t % 33 = t by omega, hu] at e
      have h2 := hfd (t / 33) hil (t % 33) u e.symm
      rw [add_off, show t / 33 * 33 + t % 33 = t by omega] at h2
      exact h2

/-- What the rows list. -/
def laid12 : List (String × DataW Unit) := [("unicode/utf8.acceptRanges", Rows.laid_unicode_utf8_acceptRanges), ("unicode/utf8.first", Rows.laid_unicode_utf8_first)]
set_option maxRecDepth 100000 in
theorem start_shaped (os : Os) : (World.laidAll Tryd.prog os laid12).Shaped Tryd.prog := World.shaped_of_ZipB (by kernel_rfl) (by kernel_rfl)
end Go.Proofs.YtoakbdmfoepdgaaDoor

/- What is proved: how arguments that are commits, tags, texts, bytes are opened; closed facts of the program; a start that meets the rows' condition on the library's tables. Conditions: what the row asks of sizes. -/
import Derived.Test.YtppddpbacpeadaaDoorRvm
import Derived.Test.YtppddpbacpeadaaDoorAr2
import Derived.ProofKit
import Derived.OpenShut
import Derived.ShutString
import Derived.ChangeOld
import Derived.SizedLaws
import Derived.ChangeMaps5
import Derived.Deep.Strs
import Derived.Deep.Slices
import Derived.Lay
import Derived.Stop.Joined
import Derived.Stop.LaidErr
import Derived.Lib.LaidTab
import Derived.LaidMore
import Derived.SevenTiedAt
namespace Go.Proofs.YtppddpbacpeadaaDoor
open Go.ChangeShapes Go.WideShapes Go.ChangeAt Go.RowKit Go.Deep
open Ids (idC dgt big idC_size idC_get idC_one cellD zero32 size32 dgt_lt hexB nu nu_lt idC_nu byt)
set_option linter.unusedVariables false

theorem own_knob : ownKnob Tryd.prog.godebug = none := by kernel_rfl
theorem laidOut : laidOutB Tryd.prog = true := by kernel_rfl
theorem cells_u8 : Tryd.prog.cellsOf 5 = 1 := by kernel_rfl
theorem cells_int : Tryd.prog.cellsOf 3 = 1 := by kernel_rfl
theorem cells_str : Tryd.prog.cellsOf 9 = 1 := by kernel_rfl
theorem cells_ID : Tryd.prog.cellsOf 23 = 32 := by kernel_rfl
theorem cells_ids : Tryd.prog.cellsOf 24 = 1 := by kernel_rfl
theorem cells_rev : Tryd.prog.cellsOf 26 = 36 := by kernel_rfl
theorem cells_mark : Tryd.prog.cellsOf 51 = 36 := by kernel_rfl

theorem okWide_agg {P : Program} {w : World} {r : Reach} {base : Nat} {t : TypeId} {v : Value} (ht : (∃ n e, P.underlying t = some (.array n e)) ∨ ∃ fs, P.underlying t = some (.struct fs)) (h : Value.okWide P w r base t v) : ∃ cs, v = .agg cs ∧ cs.size = P.cellsOf t := by
  rcases ht with ⟨n, e, ht⟩ | ⟨fs, ht⟩
  · simp only [Value.okWide, ht] at h
    obtain ⟨cs, h1, h2, _⟩ := h
    exact ⟨cs, h1, h2⟩
  · simp only [Value.okWide, ht] at h
    obtain ⟨cs, h1, h2, _⟩ := h
    exact ⟨cs, h1, h2⟩

def byteAt (cs : List Value) (i : Nat) : Nat := match cs[i]? with
  | some (.int _ n) => n.toNat
  | _ => 0
def digAt (cs : List Value) (k : Nat) : Nat := if k % 2 = 0 then byteAt cs (k / 2) / 16 else byteAt cs (k / 2) % 16
theorem id_of_bytes (cs : List Value) (hs : cs.length = 32) (h : ∀ i, i < 32 → ∃ n : Int, cs[i]? = some (.int .u8 n) ∧ 0 ≤ n ∧ n ≤ 255) : ∃ a, a < big ∧ cs = (idC (dgt a)).toList := by
  have hb : ∀ i, byteAt cs i < 256 := fun i => by
    unfold byteAt
    rcases Nat.lt_or_ge i 32 with hi | hi
    · obtain ⟨n, e, h0, h1⟩ := h i hi
      rw [e]
      simp only
      omega
    · rw [List.getElem?_eq_none (by omega)]
      simp
  have hd : ∀ k, digAt cs k < 16 := fun k => by
    have := hb (k / 2)
    unfold digAt
    split <;> omega
  refine ⟨nu (digAt cs), nu_lt _ hd, ?_⟩
  rw [idC_nu _ hd]
  apply List.ext_getElem?
  intro i
  rcases Nat.lt_or_ge i 32 with hi | hi
  · obtain ⟨n, e, h0, h1⟩ := h i hi
    have hby : byt (digAt cs) i = byteAt cs i := by
      unfold byt digAt
      rw [if_pos (by omega), if_neg (by omega), show 2 * i / 2 = i by omega, show (2 * i + 1) / 2 = i by omega]
      omega
    have hbn : byteAt cs i = n.toNat := by unfold byteAt; rw [e]
    rw [e, Array.getElem?_toList, idC_get _ i hi, cellD, hby, hbn, Int.toNat_of_nonneg h0]
  · rw [List.getElem?_eq_none (by omega), List.getElem?_eq_none (by rw [Array.length_toList, idC_size]; omega)]

theorem take_one {cs : List Value} {i : Nat} (h : i < cs.length) : (cs.drop i).take 1 = [cs[i]] := by
  rw [List.drop_eq_getElem_cons h]
  rfl
/-- An id, as a reader has read it. -/
theorem open_id {H : Type} {enc : TypeId × Value → H} {w : World} {base : Nat} {sp : Nat → Bool} {held : Bool} {fuel : Nat} {cs : List Value} {x : DataW H × List MemPlace}
    (h : DataW.trod enc Tryd.prog w base sp held fuel 23 cs = some x) : ∃ a, a < big ∧ cs = (idC (dgt a)).toList := by
  obtain ⟨xs, m, rfl, _, hl, hxl, hel⟩ := DataW.trod_array Tryd.underlying23 h
  rw [cells_ID] at hl
  refine id_of_bytes cs hl (fun i hi => ?_)
  have h1 := hel i hi
  rw [cells_u8, Nat.mul_one, take_one (by omega), List.getElem?_eq_getElem (by omega)] at h1
  obtain ⟨n, e1, _, hw⟩ := DataW.trod_int Tryd.underlying5 h1
  have hr : 0 ≤ n ∧ n ≤ 255 := by simpa [Lit.wf, IntKind.min, IntKind.max, IntKind.signed, IntKind.bits] using hw
  refine ⟨n, ?_, hr.1, hr.2⟩
  rw [List.getElem?_eq_getElem (by omega)]
  simpa using e1
theorem open_ids {H : Type} {enc : TypeId × Value → H} {w : World} {base : Nat} {held : Bool} {fuel : Nat} {cs : List Value} {x : DataW H × List MemPlace}
    (h : DataW.trod enc Tryd.prog w base (fun _ => true) held fuel 24 cs = some x) :
    ∃ A cap l, cs = [.slice A l.length cap] ∧ l.length ≤ cap ∧ l.length ≤ 9223372036854775807 ∧ Lies w A (flatI l) ∧ ∀ n ∈ l, n < big := by
  rcases open_slice Tryd.underlying24 h with ⟨hcs, hx⟩ | ⟨a, len, cap, m, n, D, Pl, hcs, hb, hl, hm, hmm, hx, hi⟩
  · exact ⟨none, 0, [], hcs, by simp, by simp, .inl rfl, by simp⟩
  · have hmc : m = cap := by simpa using hmm
    have each : ∀ i, i < len → ∃ y : Nat, y < big ∧ ∀ j, j < 32 → w.cell? (a.add (i * 32 + j)) = some (cellD (dgt y) j) := by
      intro i hil
      obtain ⟨cs', hc, ht'⟩ := hi i (by omega)
      rw [cells_ID] at hc
      obtain ⟨y, hy, e⟩ := open_id ht'
      obtain ⟨_, hcl, hat⟩ := World.cells?_some hc
      refine ⟨y, hy, fun j hj => ?_⟩
      have := hat j (by omega)
      rw [add_add] at this
      rw [this, e, Array.getElem?_toList, idC_get _ j hj]
    obtain ⟨f, hfd⟩ := choose_lt each
    have hll : ((List.range len).map f).length = len := by simp
    have hmx : cap ≤ maxLen := hm
    refine ⟨some a, cap, (List.range len).map f, by rw [hll]; exact hcs, by rw [hll]; exact hl, by rw [hll]; unfold maxLen at hmx; omega, ?_, fun y hy => ?_⟩
    · rcases Nat.eq_zero_or_pos len with h0 | h0
      · subst h0
        exact .inl rfl
      · have h00 := (hfd 0 h0).2 0 (by decide)
        obtain ⟨b, o, sp⟩ := a
        have hsp : sp = none := by simpa [Addr.add] using World.cell?_spot h00
        subst hsp
        refine .inr ⟨b, o, rfl, fun t u hu => ?_⟩
        have ht : t < len * 32 := by
          have := (List.getElem?_eq_some_iff.1 hu).1
          rwa [flatI_len, hll] at this
        have hil : t / 32 < len := by omega
        have e := flatI_get ((List.range len).map f) (t / 32) (f (t / 32)) (t % 32) (by rw [List.getElem?_map, List.getElem?_range hil]; rfl) (Nat.mod_lt _ (by decide))
        rw [show t / 32 * 32 + t % 32 = t by omega] at e
        rw [e] at hu
        have h2 := (hfd (t / 32) hil).2 (t % 32) (Nat.mod_lt _ (by decide))
        rw [add_off, show t / 32 * 32 + t % 32 = t by omega] at h2
        rw [h2, hu]
    · obtain ⟨i, hi', rfl⟩ := List.mem_map.1 hy
      exact (hfd i (by simpa using hi')).1
theorem wts_all {H : Type} {P : Program} {e : TypeId} : ∀ {l : List (DataW H)} {d : DataW H}, d ∈ l → ∀ n ∈ d.weights P e, n ∈ DataW.weightsAll P e l
  | [], _, hd, _, _ => by cases hd
  | d0 :: l, d, hd, n, hn => by
    simp only [DataW.weightsAll, List.mem_append]
    rcases List.mem_cons.1 hd with rfl | h
    · exact .inl hn
    · exact .inr (wts_all h n hn)

/-- A commit, as a reader has read it. -/
theorem open_rev {H : Type} {enc : TypeId × Value → H} {w : World} {base : Nat} {held : Bool} {fuel : Nat} {cs : List Value} {x : DataW H × List MemPlace}
    (h : DataW.trod enc Tryd.prog w base (fun _ => true) held fuel 26 cs = some x) (hz : ∀ n ∈ x.1.weights Tryd.prog 26, n ≤ reachBytes) :
    ∃ T A cap ps a n t, ps.length ≤ cap ∧ Lies w A (flatI ps) ∧ (∀ n ∈ ps, n < big) ∧ T < big ∧ a.length ≤ 9223372036854775806 ∧ -9223372036854775808 ≤ n ∧ n ≤ 9223372036854775807 ∧ t.length ≤ 9223372036854775806 ∧ ps.length ≤ 9223372036854775807 ∧ cs = (revC T (.slice A ps.length cap) a n t).toList := by
  obtain ⟨xs, m, hx, hy, hl, hxl, hel⟩ := DataW.trod_struct Tryd.underlying26 h
  rw [cells_rev] at hl
  have hxl2 : xs.length = 5 := hxl
  have h0 : DataW.trod enc Tryd.prog w base (fun _ => true) held m 23 ((cs.drop 0).take (Tryd.prog.cellsOf 23)) = xs[0]? := hel 0 _ rfl
  have h1 : DataW.trod enc Tryd.prog w base (fun _ => true) held m 24 ((cs.drop 32).take (Tryd.prog.cellsOf 24)) = xs[1]? := hel 1 _ rfl
  have h2 : DataW.trod enc Tryd.prog w base (fun _ => true) held m 9 ((cs.drop 33).take (Tryd.prog.cellsOf 9)) = xs[2]? := hel 2 _ rfl
  have h3 : DataW.trod enc Tryd.prog w base (fun _ => true) held m 3 ((cs.drop 34).take (Tryd.prog.cellsOf 3)) = xs[3]? := hel 3 _ rfl
  have h4 : DataW.trod enc Tryd.prog w base (fun _ => true) held m 9 ((cs.drop 35).take (Tryd.prog.cellsOf 9)) = xs[4]? := hel 4 _ rfl
  rw [cells_ID] at h0
  rw [cells_ids] at h1
  rw [cells_str, take_one (by omega)] at h2 h4
  rw [cells_int, take_one (by omega)] at h3
  match xs, hxl2 with
  | [y0, y1, y2, y3, y4], _ =>
    obtain ⟨T, hT, e0⟩ := open_id h0
    obtain ⟨A, cap, ps, e1, hle, hcm, hli, hb⟩ := open_ids h1
    obtain ⟨s, e2, x2, w2⟩ := DataW.trod_string Tryd.underlying9 h2
    obtain ⟨N, e3, x3, hw⟩ := DataW.trod_int Tryd.underlying3 h3
    obtain ⟨t, e4, x4, w4⟩ := DataW.trod_string Tryd.underlying9 h4
    have hr : -9223372036854775808 ≤ N ∧ N ≤ 9223372036854775807 := by simpa [Lit.wf, IntKind.min, IntKind.max, IntKind.signed, IntKind.bits] using hw
    have hsz : s.data.toList.length ≤ reachBytes := by
      refine hz _ ?_
      rw [hy]
      simp only [List.map_cons, List.map_nil, DataW.weights, Tryd.underlying26]
      simp only [DataW.weightsEach, List.mem_append]
      exact .inr (.inr (.inl (by rw [x2]; simp [DataW.weights])))
    have htz : t.data.toList.length ≤ reachBytes := by
      refine hz _ ?_
      rw [hy]
      simp only [List.map_cons, List.map_nil, DataW.weights, Tryd.underlying26]
      simp only [DataW.weightsEach, List.mem_append]
      exact .inr (.inr (.inr (.inr (.inl (by rw [x4]; simp [DataW.weights])))))
    refine ⟨T, A, cap, ps, s.data.toList, N, t.data.toList, hle, hli, hb, hT, by unfold reachBytes at hsz; omega, hr.1, hr.2, by unfold reachBytes at htz; omega, by first | exact hcm | omega, ?_⟩
    have s1 : cs = (cs.drop 0).take 32 ++ ((cs.drop 32).take 1 ++ ([cs[33]] ++ ([cs[34]] ++ [cs[35]]))) := by
      rw [← take_one (by omega : 33 < cs.length), ← take_one (by omega : 34 < cs.length), ← take_one (by omega : 35 < cs.length)]
      rw [show (cs.drop 35).take 1 = cs.drop 35 from List.take_of_length_le (by rw [List.length_drop]; omega), show cs.drop 35 = (cs.drop 34).drop 1 by rw [List.drop_drop], List.take_append_drop, show cs.drop 34 = (cs.drop 33).drop 1 by rw [List.drop_drop], List.take_append_drop, show cs.drop 33 = (cs.drop 32).drop 1 by rw [List.drop_drop], List.take_append_drop, show cs.drop 32 = (cs.drop 0).drop 32 by rw [List.drop_drop], List.take_append_drop, List.drop_zero]
    rw [s1, e0, e1]
    have a2 : cs[33] = .string s := by simpa using e2
    have a3 : cs[34] = .int .i64 N := by simpa using e3
    have a4 : cs[35] = .string t := by simpa using e4
    rw [a2, a3, a4, revC, strB_of, strB_of]
    simp

/-- What the rows list. -/
def laid7 : List (String × DataW Unit) := [("math/bits.deBruijn32tab", Rows.laid_math_bits_deBruijn32tab), ("math/bits.deBruijn64tab", Rows.laid_math_bits_deBruijn64tab), ("internal/strconv.uint64pow10", Rows.laid_internal_strconv_uint64pow10)]
set_option maxRecDepth 100000 in
theorem start_shaped (os : Os) : (World.laidAll Tryd.prog os laid7).Shaped Tryd.prog := World.shaped_of_ZipB (by kernel_rfl) (by kernel_rfl)
theorem gPow : Tryd.prog.globalNamed "internal/strconv.uint64pow10" = some 1 := by kernel_rfl
theorem tPow : (Tryd.prog.globals[1]?).map (·.type) = some 112 := by kernel_rfl
theorem cells20 : Tryd.prog.cellsOf 112 = 20 := by kernel_rfl
theorem cells_u64 : Tryd.prog.cellsOf 100 = 1 := by kernel_rfl
theorem pow_eq : (Rows.laid_internal_strconv_uint64pow10 : DataW Unit) = Lib.tabData .u64 Lib.pow10Tab := by kernel_rfl
/-- What the condition gives: the table of powers. -/
theorem tab10_of_laid {W : World} (h : laidMetH Tryd.prog laid7 W) : Tab10 W := by
  rw [MakeChecks.laidMetH_plain _ _ _ (by kernel_rfl)] at h
  have h2 := h.tail.tail
  rw [pow_eq] at h2
  exact Lib.tabIs_of_head gPow tPow Tryd.underlying112 Tryd.underlying100 cells_u64 cells20 h2
theorem len_of_max {s : ByteArray} (h : s.size ≤ maxLen) : s.data.toList.length ≤ 9223372036854775807 := by
  obtain ⟨M, hM⟩ : ∃ M : Nat, M = 9223372036854775807 := ⟨_, rfl⟩
  have h2 : maxLen = M := by rw [hM]; rfl
  rw [h2] at h
  rw [← hM]
  have e : s.data.toList.length = s.size := Array.length_toList
  omega
end Go.Proofs.YtppddpbacpeadaaDoor

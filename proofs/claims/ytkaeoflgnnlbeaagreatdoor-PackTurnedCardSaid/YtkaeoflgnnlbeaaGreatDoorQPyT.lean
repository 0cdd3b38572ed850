/- What is proved: texts that stand one behind the other: Ptf Pxo Ptg PyT. Conditions: each theorem names its own. -/
import Derived.Test.YtkaeoflgnnlbeaaGreatDoorQBda
import Derived.Test.YtkaeoflgnnlbeaaGreatDoorQPna
import Derived.Test.YtkaeoflgnnlbeaaGreatDoorBpa
import Derived.Test.YtkaeoflgnnlbeaaGreatDoorDg
import Derived.ProofKit
import Derived.OpenShut
import Derived.ShutString
import Derived.ChangeOld
import Derived.SizedLaws
import Derived.ChangeMaps5
import Derived.Deep.Strs
import Derived.Deep.Slices
import Derived.Lay
import Derived.Stop.Joined
import Derived.Stop.LaidErr
import Derived.Lib.LaidTab
import Derived.LaidMore
import Derived.SevenTiedAt
import Derived.Test.YtkaeoflgnnlbeaaGreatDoorQPgc
import Derived.Deep.Fields
import Derived.Test.YtkaeoflgnnlbeaaGreatDoorQPte
import Derived.Test.YtkaeoflgnnlbeaaGreatDoorTie
import Derived.Test.YtkaeoflgnnlbeaaGreatDoorCards
/- What is proved: the names of objects of all kinds, by the program, as bytes. Conditions: the tables lie as their texts lay them. -/
namespace Go.Proofs.YtkaeoflgnnlbeaaGreatDoor
open Go.RowKit
set_option linter.unusedVariables false

/-- An object's name, as bytes. -/
def nmO (k : Int) (b : List UInt8) : List UInt8 × Int := (if chkO k b = 0 then sumL (objB k b) else List.replicate 32 0, chkO k b)
theorem nmO_len (k : Int) (b : List UInt8) : (nmO k b).1.length = 32 := by
  unfold nmO
  simp only
  split
  · exact sumL_len _
  · rfl
theorem idV_nmO (k : Int) (b : List UInt8) : idV (nmO k b).1 = nameV k b := by
  unfold nmO nameV
  simp only
  split
  · exact idV_sumL _
  · rfl
theorem nmO_kind (k : Int) (b : List UInt8) (h : (nmO k b).2 = 0) : 1 ≤ k ∧ k ≤ 4 := by
  by_cases hk : k < 1 ∨ 4 < k
  · have h2 : chkO k b = 0 := h
    rw [chkO_bad hk] at h2
    cases h2
  · omega
theorem nm_says (w0 : World) (hTab : Tab10 w0) (hK : Tab w0) (k : Int) (l : List UInt8) : NmSays nmO w0 k l := by
  intro A c w f hc hcm hl
  refine (ObName_any k A c l hc (by omega) w hl (hTab.fr f) (hK.fr f (fun e => e))).mono ?_
  rintro e w' ⟨rfl, f'⟩
  exact ⟨by rw [idV_nmO]; rfl, f'⟩
end Go.Proofs.YtkaeoflgnnlbeaaGreatDoor
/- What is proved: closed facts of the program; a start that meets the rows' condition on the four listed tables; what that condition gives; how an argument that is bytes is opened. Conditions: none. -/
namespace Go.Proofs.YtkaeoflgnnlbeaaGreatDoor
open Go.ChangeShapes Go.WideShapes Go.ChangeAt Go.RowKit Go.Deep
set_option linter.unusedVariables false

theorem own_knob : ownKnob Tryz.prog.godebug = none := by kernel_rfl
theorem laidOut : laidOutB Tryz.prog = true := by kernel_rfl
theorem cells_u8 : Tryz.prog.cellsOf 5 = 1 := by kernel_rfl
theorem gPow : Tryz.prog.globalNamed "internal/strconv.uint64pow10" = some 2 := by kernel_rfl
theorem tPow : (Tryz.prog.globals[2]?).map (·.type) = some 294 := by kernel_rfl
theorem cells20 : Tryz.prog.cellsOf 294 = 20 := by kernel_rfl
theorem cells_u64 : Tryz.prog.cellsOf 77 = 1 := by kernel_rfl
theorem pow_eq : (Rows.laid_internal_strconv_uint64pow10 : DataW Unit) = Lib.tabData .u64 Lib.pow10Tab := by kernel_rfl
/-- What the rows list. -/
def laid8k : List (String × DataW Unit) := [("math/bits.deBruijn32tab", Rows.laid_math_bits_deBruijn32tab), ("math/bits.deBruijn64tab", Rows.laid_math_bits_deBruijn64tab), ("internal/strconv.uint64pow10", Rows.laid_internal_strconv_uint64pow10), ("sleuth/sha.k", Rows.laid_sleuth_sha_k)]
set_option maxRecDepth 100000 in
theorem start_shapedk (os : Os) : (World.laidAll Tryz.prog os laid8k).Shaped Tryz.prog := World.shaped_of_ZipB (by kernel_rfl) (by kernel_rfl)
theorem tab10_of_laidk {W : World} (h : laidMetH Tryz.prog laid8k W) : Tab10 W := by
  rw [MakeChecks.laidMetH_plain _ _ _ (by kernel_rfl)] at h
  have h2 := h.tail.tail
  rw [pow_eq] at h2
  exact Lib.tabIs_of_head gPow tPow Tryz.underlying294 Tryz.underlying77 cells_u64 cells20 h2
theorem gKn : Tryz.prog.globalNamed "sleuth/sha.k" = some 0 := by kernel_rfl
theorem tKn : (Tryz.prog.globals[0]?).map (·.type) = some 236 := by kernel_rfl
theorem cells64 : Tryz.prog.cellsOf 236 = 64 := by kernel_rfl
theorem cells1 : Tryz.prog.cellsOf 54 = 1 := by kernel_rfl
theorem laidk_eq : (Rows.laid_sleuth_sha_k : DataW Unit) = Lib.tabData .u32 kt := by kernel_rfl
/-- What the condition gives: the table of constants. -/
theorem tab_of_laidk {W : World} (h : laidMetH Tryz.prog laid8k W) : Tab W := by
  rw [MakeChecks.laidMetH_plain _ _ _ (by kernel_rfl)] at h
  have h2 := h.tail.tail.tail
  rw [laidk_eq] at h2
  have ht := Lib.tabIs_of_head gKn tKn Tryz.underlying236 Tryz.underlying54 cells1 cells64 h2
  intro i hi
  exact ht.cell gKn i hi
theorem open_bytesC {H : Type} {enc : TypeId × Value → H} {P : Program} {w : World} {base : Nat} {held : Bool} {t e : TypeId} {fuel : Nat} {cs : List Value} {x : DataW H × List MemPlace}
    (ht : P.underlying t = some (.slice e)) (he : P.underlying e = some (.int .u8)) (hc : P.cellsOf e = 1) (h : DataW.trod enc P w base (fun _ => true) held fuel t cs = some x) :
    ∃ A cap bs, cs = [.slice A bs.length cap] ∧ bs.length ≤ cap ∧ cap ≤ 9223372036854775807 ∧ Lies w A (bytesV bs) := by
  obtain ⟨A, cap, bs, h1, h2, h3, _⟩ := open_bytes ht he hc h
  refine ⟨A, cap, bs, h1, h2, ?_, h3⟩
  rcases open_ints ht he hc h with ⟨hcs, hx⟩ | ⟨a, len, cap', zs, hcs, _, hl, hm, hz, hx, hcell, hwf⟩
  · rw [hcs] at h1
    simp at h1
    omega
  · rw [hcs] at h1
    simp only [List.cons.injEq, Value.slice.injEq, and_true] at h1
    rw [← h1.2.2]
    exact hm
end Go.Proofs.YtkaeoflgnnlbeaaGreatDoor
/- What is proved: an argument that is a list of objects is opened. Conditions: none. -/
namespace Go.Proofs.YtkaeoflgnnlbeaaGreatDoor
open Go.ChangeShapes Go.WideShapes Go.ChangeAt Go.RowKit Go.Deep
set_option linter.unusedVariables false

theorem cellsT_int : Tryz.prog.cellsOf 3 = 1 := by kernel_rfl
theorem cellsT_bytes : Tryz.prog.cellsOf 25 = 1 := by kernel_rfl
theorem cellsT_item : Tryz.prog.cellsOf 59 = 2 := by kernel_rfl
theorem take_oneT {cs : List Value} {i : Nat} (h : i < cs.length) : (cs.drop i).take 1 = [cs[i]] := by
  rw [List.drop_eq_getElem_cons h]
  rfl
theorem list2 {cs : List Value} (hl : cs.length = 2) {a b : Value} (h0 : cs[0]'(by omega) = a) (h1 : cs[1]'(by omega) = b) : cs = [a, b] := by
  match cs, hl with
  | [a0, a1], _ =>
    simp at h0 h1
    rw [h0, h1]
instance : Inhabited PIt := ⟨⟨0, [], none, 0⟩⟩
theorem one_injT {a b : Value} (h : [a] = [b]) : a = b := by injection h
theorem open_item {H : Type} {enc : TypeId × Value → H} {w : World} {base : Nat} {held : Bool} {fuel : Nat} {cs : List Value} {x : DataW H × List MemPlace}
    (h : DataW.trod enc Tryz.prog w base (fun _ => true) held fuel 59 cs = some x) : ∃ p : PIt, cs = p.cells ∧ p.Ok w := by
  obtain ⟨xs, m, rfl, _, hl, hxl, hel⟩ := DataW.trod_struct Tryz.underlying59 h
  rw [cellsT_item] at hl
  have hxl2 : xs.length = 2 := hxl
  have h0 : DataW.trod enc Tryz.prog w base (fun _ => true) held m 3 ((cs.drop 0).take (Tryz.prog.cellsOf 3)) = xs[0]? := hel 0 _ rfl
  have h1 : DataW.trod enc Tryz.prog w base (fun _ => true) held m 25 ((cs.drop 1).take (Tryz.prog.cellsOf 25)) = xs[1]? := hel 1 _ rfl
  rw [cellsT_int, take_oneT (by omega), List.getElem?_eq_getElem (by omega)] at h0
  rw [cellsT_bytes, take_oneT (by omega), List.getElem?_eq_getElem (by omega)] at h1
  obtain ⟨k, e0, _, w0⟩ := DataW.trod_int Tryz.underlying3 h0
  obtain ⟨B, c, bs, e1, k1, k2, k3⟩ := open_bytesC Tryz.underlying25 Tryz.underlying5 cells_u8 h1
  have r0 : -9223372036854775808 ≤ k ∧ k ≤ 9223372036854775807 := by simpa [Lit.wf, IntKind.min, IntKind.max, IntKind.signed, IntKind.bits] using w0
  refine ⟨⟨k, bs, B, c⟩, ?_, ⟨r0, k1, k2, k3⟩⟩
  exact list2 hl (one_injT e0) (one_injT e1)
theorem open_items {H : Type} {enc : TypeId × Value → H} {w : World} {base : Nat} {held : Bool} {fuel : Nat} {cs : List Value} {x : DataW H × List MemPlace}
    (h2 : DataW.trod enc Tryz.prog w base (fun _ => true) held fuel 22 cs = some x) : ∃ A c ps, cs = [.slice A ps.length c] ∧ Its w A c ps := by
  have fin : ∀ {A : Option Addr} {n c : Nat} {ps : List PIt}, cs = [.slice A n c] → ps.length = n → Its w A c ps → ∃ A c ps, cs = [.slice A ps.length c] ∧ Its w A c ps := by
    intro A n c ps e2 hn hs
    exact ⟨A, c, ps, by rw [hn]; exact e2, hs⟩
  rcases open_slice Tryz.underlying22 h2 with ⟨hcs, hx⟩ | ⟨a, len, cap, mm, n, D, Pl, hcs, hb, hl', hm, hmm, hx, hi⟩
  · exact fin (ps := []) hcs rfl ⟨.inl rfl, by simp, Nat.zero_le _, Nat.zero_le _⟩
  · have hmc : mm = cap := by simpa using hmm
    have each : ∀ i, i < len → ∃ p : PIt, p.Ok w ∧ ∀ j, j < 2 → w.cell? (a.add (i * 2 + j)) = p.cells[j]? := by
      intro i hil
      obtain ⟨cs', hc, ht'⟩ := hi i (by omega)
      rw [cellsT_item] at hc
      obtain ⟨p, hp, hok⟩ := open_item ht'
      obtain ⟨_, hcl, hat⟩ := World.cells?_some hc
      refine ⟨p, hok, fun j hj => ?_⟩
      have := hat j (by omega)
      rw [add_add] at this
      rw [← hp]
      exact this
    obtain ⟨f, hfd⟩ := choose_lt each
    have hll : ((List.range len).map f).length = len := by simp
    refine fin (ps := (List.range len).map f) hcs hll ⟨?_, fun p hp => ?_, by rw [hll]; exact hl', by subst hmc; exact hm⟩
    · rcases Nat.eq_zero_or_pos len with h0 | h0
      · subst h0
        exact .inl rfl
      · have hc0 := (hfd 0 h0).2 0 (by omega)
        obtain ⟨b', o, sp⟩ := a
        have hsp : sp = none := by
          have e : ((f 0).cells)[0]? = some (.int .i64 (f 0).k) := rfl
          rw [e] at hc0
          simpa [Addr.add] using World.cell?_spot hc0
        subst hsp
        refine .inr ⟨b', o, rfl, fun j u hu => ?_⟩
        have hj : j < len * 2 := by
          have := (List.getElem?_eq_some_iff.1 hu).1
          rwa [flatT_len, hll] at this
        have hjm : j = j / 2 * 2 + j % 2 := by omega
        have hjd : j / 2 < len := by omega
        have hg := flatT_get ((List.range len).map f) (j / 2) (j % 2) (f (j / 2)) (by rw [List.getElem?_map, List.getElem?_range hjd]; rfl) (by omega)
        rw [← hjm] at hg
        rw [hg] at hu
        have := (hfd (j / 2) hjd).2 (j % 2) (by omega)
        rw [add_off, ← hjm, hu] at this
        exact this
    · obtain ⟨i, hi', rfl⟩ := List.mem_map.1 hp
      exact (hfd i (by simpa using hi')).1
end Go.Proofs.YtkaeoflgnnlbeaaGreatDoor
/- What is proved: PackTurned, for all objects, places and turns: the law returns true and the arguments read as they did. Conditions: those of the statement itself (the listed tables start as their text lays them; the card ties that); none else. -/
namespace Go.Proofs.YtkaeoflgnnlbeaaGreatDoor.turned
open Go.ChangeShapes Go.WideShapes Go.ChangeAt Go.RowKit Go.ChangeMaps
set_option linter.unusedVariables false

set_option maxHeartbeats 1600000 in
set_option maxRecDepth 100000 in
theorem lifted (os : Os) (started : os.Started) (H : Type) (enc : TypeId × Value → H) :
    ReturnsInHanded {} Tryz.checked os 7 .any (fun w args => (Rows.packTurnedSpec.pre enc Tryz.prog Tryz.f7 [] false w args ∧ laidMetH Tryz.prog laid8k w) ∧ sizedMet enc Tryz.prog Tryz.f7 (OpenSpec.ofChange Rows.packTurnedSpec) false w args)
      (Rows.packTurnedSpec.post enc Tryz.prog Tryz.f7 false true false false) := by
  refine returnsInHanded_of_change_and (C := Tryz.checked) (X := fun w _ => laidMetH Tryz.prog laid8k w) (fun _ _ _ hh h => h.of_heap hh) own_knob started (by kernel_rfl) Tryz.func7
    (ChangeSpec.witness_shaped (enc := enc) (C := Tryz.checked) (os := os) (X := fun w _ => laidMetH Tryz.prog laid8k w) false (World.laidAll Tryz.prog os laid8k) #[.slice none 0 0, .int .u8 0, .int .u32 0] 8 (World.laidAll_os _ _ _) (start_shapedk os) (by kernel_rfl) (by kernel_rfl) (by kernel_rfl)
      (by rw [MakeChecks.laidMetH_plain _ _ _ (by kernel_rfl)]; exact laidMet_laidAll _ (by kernel_rfl) (by kernel_rfl))) ?_
  intro W base args ds gs before hval0 hW hcnd hsz0 hL _
  have hval : ∀ (j : Nat) t v, Tryz.f7.params[j]? = some t → args[j]? = some v → Value.okWide Tryz.prog W .any base t v := hval0
  have hsz : (DataW.weightsEach Tryz.prog (Tryz.f7.params.toList ++ Rows.packTurnedSpec.plain.varTypes Tryz.prog) (ds ++ gs)).all (· ≤ reachBytes) = true := hsz0
  have hTab := tab10_of_laidk hL
  have hK := tab_of_laidk hL
  have hW' := hW
  obtain ⟨p, q, hA0, hV, rfl, hfz, hnd⟩ := hW
  have hA : DataW.TrodAll enc Tryz.prog W 0 (fun _ => true) true Tryz.f7.params.toList args.toList ds p := hA0
  rw [Tryz.params7] at hA hval hsz
  obtain ⟨v0, vs0, d0, ds0, p0, q0, hargs, rfl, rfl, h0, r0⟩ := trodAll_cons hA
  obtain ⟨v1, vs1, d1, ds1, p1, q1, rfl, rfl, rfl, h1, r1⟩ := trodAll_cons r0
  obtain ⟨v2, vs2, d2, ds2, p2, q2, rfl, rfl, rfl, h2, r2⟩ := trodAll_cons r1
  obtain ⟨rfl, rfl, rfl⟩ := trodAll_nil r2
  obtain rfl : args = #[v0, v1, v2] := by cases args; simp_all
  obtain ⟨rfl, rfl⟩ := trodVars_none hV
  have k0 := h0
  have lt0 : ∀ x ∈ p0, x.block < W.heap.size := by obtain ⟨fm, hm⟩ := k0; exact DataW.trod_lt fm _ _ _ hm
  have k1 := h1
  have lt1 : ∀ x ∈ p1, x.block < W.heap.size := by obtain ⟨fm, hm⟩ := k1; exact DataW.trod_lt fm _ _ _ hm
  have k2 := h2
  have lt2 : ∀ x ∈ p2, x.block < W.heap.size := by obtain ⟨fm, hm⟩ := k2; exact DataW.trod_lt fm _ _ _ hm
  obtain ⟨A0, len0, cap0, rfl⟩ := okWide_slice Tryz.underlying22 (hval 0 22 v0 rfl rfl)
  obtain ⟨fuel0, hf0⟩ := h0
  obtain ⟨A0', cap0', l0, hcs0, hl0⟩ := open_items hf0
  simp [Value.cells] at hcs0
  obtain ⟨rfl, rfl, rfl⟩ := hcs0
  obtain ⟨z1, rfl, rfl, rfl, hw1⟩ := open_int Tryz.underlying5 (hval 1 5 v1 rfl rfl) h1
  have hr1 : 0 ≤ z1 ∧ z1 ≤ 255 := by simpa [Lit.wf, IntKind.min, IntKind.max, IntKind.signed, IntKind.bits] using hw1
  obtain ⟨n1, rfl⟩ : ∃ n : Nat, z1 = n := ⟨z1.toNat, by omega⟩
  obtain ⟨z2, rfl, rfl, rfl, hw2⟩ := open_int Tryz.underlying54 (hval 2 54 v2 rfl rfl) h2
  have hr2 : 0 ≤ z2 ∧ z2 ≤ 4294967295 := by simpa [Lit.wf, IntKind.min, IntKind.max, IntKind.signed, IntKind.bits] using hw2
  obtain ⟨n2, rfl⟩ : ∃ n : Nat, z2 = n := ⟨z2.toNat, by omega⟩
  clear hA0 hval0 hsz0 hsz
  have hwk := turned_walk nmO nmO_len A0 cap0 l0 n1 n2 (by omega) (by omega) W hl0 (fun p hp => nm_says W hTab hK p.k p.b) (fun p hp h => nmO_kind _ _ h) hTab hK
  refine hwk.mono fun e W' ⟨he, fr⟩ => ?_
  have bel := fr.below (fun _ _ e => e)
  subst he
  exact ⟨_, rfl, _, _, _, [], _, [], hW', trodAll_mk1 (shut_bool Tryz.underlying4 _), (trodAll_cons_mk (Below.trod laidOut (by kernel_rfl) (of_decide_eq_true (by kernel_rfl)) k0 bel lt0) (trodAll_cons_mk (Below.trod laidOut (by kernel_rfl) (of_decide_eq_true (by kernel_rfl)) k1 bel lt1) (trodAll_cons_mk (Below.trod laidOut (by kernel_rfl) (of_decide_eq_true (by kernel_rfl)) k2 bel lt2) trodAll_mk0))), rfl, bel.frame _, fun h => by cases h⟩

theorem over : Rows.PackTurnedSaid :=
  OpenClaim.holds_of_wide 7 Tryz.f7 rfl rfl rfl rfl rfl rfl rfl ⟨rfl, rfl, rfl, rfl, rfl⟩ rfl rfl rfl rfl rfl (by kernel_rfl) Tryz.func7 (by kernel_rfl)
    (of_decide_eq_true (by kernel_rfl)) (by unfold Func.isWrapper; first | (rw [if_pos (by decide +kernel)]; kernel_rfl) | (rw [if_neg (by decide +kernel)]; exact ⟨rfl, rfl⟩))
    (fun os started H enc _ => lifted os started H enc)

/-- The statement: the tied card. -/
theorem proved : Rows.PackTurnedCardSaid :=
  Claim7.holds_tied_plain_at .later [] [.data, .data, .data, .data] true _ false
    over (fun _ h => by cases h) (by kernel_rfl) (fun _ h => by cases h) packTurned_row_tie rfl ⟨rfl, rfl⟩ (by kernel_rfl) rfl
    (fun f fn hf hfn => by
      obtain rfl : f = 7 := Option.some.inj ((show Tryz.prog.funcNamed "sleuth/sleuthlaw10.PackTurned" = some 7 by kernel_rfl).symm.trans hf) |>.symm
      obtain rfl : fn = Tryz.f7 := (Option.some.inj (Tryz.func7.symm.trans hfn)).symm
      exact ⟨by kernel_rfl, fun j t ht => by
        rw [Tryz.params7] at ht
        have hm : t ∈ [22, 5, 54] := by simpa using Array.mem_of_getElem? ht
        have hall : ([22, 5, 54].all fun u => !Tryz.prog.wantsStandIn u) = true := by kernel_rfl
        exact (show Tryz.prog.wantsStandIn t = false by simpa using List.all_eq_true.1 hall t hm)⟩)
    (by kernel_rfl)
#print axioms proved
end Go.Proofs.YtkaeoflgnnlbeaaGreatDoor.turned

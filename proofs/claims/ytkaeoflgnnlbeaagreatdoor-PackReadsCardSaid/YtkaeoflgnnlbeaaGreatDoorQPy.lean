/- What is proved: texts that stand one behind the other: Pwj Pxo PyR. Conditions: each theorem names its own. -/
import Derived.Test.YtkaeoflgnnlbeaaGreatDoorQPna
import Derived.Test.YtkaeoflgnnlbeaaGreatDoorQDfb
import Derived.Test.YtkaeoflgnnlbeaaGreatDoorQDfd
import Derived.Test.YtkaeoflgnnlbeaaGreatDoorQDpa
import Derived.Test.YtkaeoflgnnlbeaaGreatDoorQDpb
import Derived.Test.YtkaeoflgnnlbeaaGreatDoorQBd
import Derived.Test.YtkaeoflgnnlbeaaGreatDoorQBp
import Derived.Test.YtkaeoflgnnlbeaaGreatDoorQDg
import Derived.ProofKit
import Derived.OpenShut
import Derived.ShutString
import Derived.ChangeOld
import Derived.SizedLaws
import Derived.ChangeMaps5
import Derived.Deep.Strs
import Derived.Deep.Slices
import Derived.Lay
import Derived.Stop.Joined
import Derived.Stop.LaidErr
import Derived.Lib.LaidTab
import Derived.LaidMore
import Derived.SevenTiedAt
import Derived.Test.YtkaeoflgnnlbeaaGreatDoorTie
import Derived.Test.YtkaeoflgnnlbeaaGreatDoorCards
/- What is proved: what stands at a place of a pack is read by the program and by the document alike; the law's function answers true. Conditions: the tables lie as their texts lay them; the bytes' cells are there. -/
namespace Go.Proofs.YtkaeoflgnnlbeaaGreatDoor
open Go.RowKit
set_option linter.unusedVariables false

theorem chP_load (bs : List UInt8) (n : Nat) (at' : Int) : ∀ x ∈ (chP bs n at').1, x.2.2.2.2.length ≤ bs.length := by
  induction n generalizing at' with
  | zero =>
    unfold chP
    split
    · simp
    · intro x hx; rw [List.mem_singleton.1 hx]; exact opnE_load _ _ _
  | succ n ih =>
    unfold chP
    split
    · simp
    · split
      · intro x hx; rw [List.mem_singleton.1 hx]; exact opnE_load _ _ _
      · split
        · simp
        · intro x hx
          rcases List.mem_cons.1 hx with h | h
          · rw [h]; exact opnE_load _ _ _
          · exact ih _ x h
theorem says_all (bs : List UInt8) (hbs : bs.length ≤ 140737488355328) (at' : Int) : Says readR appR bs at' :=
  ⟨fun x hx => fun A c w hc hl => DRead_any A c _ (by
      have h1 : x ∈ (chP bs 8 at').1.reverse := List.mem_of_mem_tail hx
      have := chP_load bs 8 at' x (List.mem_reverse.1 h1)
      omega) hc w hl,
    fun _ A c xs b t S d ps w hc hcc hl hs => DApply_any A c xs hc hcc b t S d ps w hl hs⟩

set_option maxHeartbeats 3200000 in
set_option maxRecDepth 100000 in
theorem reads_walk (A : Option Addr) (c : Nat) (bs : List UInt8) (hc : bs.length ≤ c) (hcc : c ≤ 9223372036854775807) (at' : Int) (ha : -9223372036854775808 ≤ at' ∧ at' ≤ 9223372036854775807) (w : World) (hl : Lies w A (bytesV bs)) (hTab : Tab10 w) (hK : Tab w) :
    Calls Tryz.prog 4 #[.slice A bs.length c, .int .i64 at'] w fun e w' => e = .returned (.bool true) ∧ Fr (fun _ => False) w w' := by
  have HWk := Lib.hid (fun w' (f : Fr (fun _ => False) w w') => works10_any w' (hTab.fr f) (hK.fr f (fun e => e)))
  by_cases h4 : 4000 < bs.length
  · have hlt : (4000 : Int) < (bs.length : Int) := by omega
    obtain ⟨L, hL⟩ : ∃ L, bs.length = L := ⟨_, rfl⟩
    rw [hL] at hlt ⊢
    clear hL hc hl h4 hTab hK
    go_enter Tryz.func4, Tryz.ntmps4
    go_wp2_with (go_at_call 9; refine (HWk.out w (Fr.refl _ _)).mono ?_; rintro e w1 ⟨rfl, f1⟩; have HF1 := Lib.hid f1; clear f1)
    go_ret
    exact ⟨rfl, HF1.out⟩
  · have hlt : ¬ (4000 : Int) < (bs.length : Int) := by omega
    have HR := Lib.hid (PRead_any readR appR A c bs hc hcc (by omega) at' ha (says_all bs (by omega) at') w hl)
    have HQ := Lib.hid (fun w' (f : Fr (fun _ => False) w w') => QPRead_any readR appR (fun A c l w hl hc h => QDRead_any A c l hl hc w h) (fun A c xs b t S d ps w hc hcc hl hs => QDApply_any A c xs hc hcc b t S d ps w hl hs) A c bs hc hcc (by omega) 8 at' 0 w' (by decide) (by decide) ha (hl.fr f (fun _ _ e => e)))
    unfold RdPost at HR HQ
    obtain ⟨⟨⟨k, x⟩, E⟩, hz⟩ : ∃ z, readP readR appR bs 8 at' = z := ⟨_, rfl⟩
    rw [hz] at HR HQ
    simp only at HR HQ
    obtain ⟨L, hL⟩ : ∃ L, bs.length = L := ⟨_, rfl⟩
    rw [hL] at hlt HR HQ ⊢
    obtain ⟨X, hX⟩ : ∃ X, x.length = X := ⟨_, rfl⟩
    rw [hX] at HR HQ
    have HX := Lib.hid hX
    clear hL hc hl h4 hTab hK hz hX
    go_enter Tryz.func4, Tryz.ntmps4
    go_upto_region 5 with (first
      | (go_at_call 15; refine HR.out.mono ?_; rintro e w1 ⟨v1, rfl, o1, b1⟩; obtain ⟨A1, c1, hv1, -, -⟩ := own_slice o1; subst hv1; have HL1 := Lib.hid (Lies.of_own o1); have HF1 := Lib.hid (Fr.of_below (S := fun _ => False) b1); clear o1 b1)
      | (go_at_call 16; refine (HQ.out w1 HF1.out).mono ?_; rintro e w2 ⟨v2, rfl, o2, b2⟩; obtain ⟨A2, c2, hv2, -, -⟩ := own_slice o2; subst hv2; have HL2 := Lib.hid (Lies.of_own o2); have HF12 := Lib.hid (Fr.of_below (S := fun _ => False) b2); have HF2 := Lib.hid (HF1.out.trans HF12.out (fun _ _ e => e)); clear o2 b2))
    have HSm := Lib.hid (Same_n A1 A2 c1 c2 X X x x w2 HX.out HX.out (HL1.out.fr HF12.out (fun _ _ e => e)) HL2.out)
    rw [show (x == x) = true by simp] at HSm
    go_wp2_with (first
      | (go_at_call 13; refine HSm.out.mono ?_; rintro e w3 ⟨rfl, rfl⟩)
      | (go_at_call 9; refine (HWk.out w2 HF2.out).mono ?_; rintro e w4 ⟨rfl, f4⟩; have HF4 := Lib.hid (HF2.out.trans f4 (fun _ _ e => e)); clear f4))
    go_ret
    exact ⟨rfl, HF4.out⟩
end Go.Proofs.YtkaeoflgnnlbeaaGreatDoor
/- What is proved: closed facts of the program; a start that meets the rows' condition on the four listed tables; what that condition gives; how an argument that is bytes is opened. Conditions: none. -/
namespace Go.Proofs.YtkaeoflgnnlbeaaGreatDoor
open Go.ChangeShapes Go.WideShapes Go.ChangeAt Go.RowKit Go.Deep
set_option linter.unusedVariables false

theorem own_knob : ownKnob Tryz.prog.godebug = none := by kernel_rfl
theorem laidOut : laidOutB Tryz.prog = true := by kernel_rfl
theorem cells_u8 : Tryz.prog.cellsOf 5 = 1 := by kernel_rfl
theorem gPow : Tryz.prog.globalNamed "internal/strconv.uint64pow10" = some 2 := by kernel_rfl
theorem tPow : (Tryz.prog.globals[2]?).map (·.type) = some 294 := by kernel_rfl
theorem cells20 : Tryz.prog.cellsOf 294 = 20 := by kernel_rfl
theorem cells_u64 : Tryz.prog.cellsOf 77 = 1 := by kernel_rfl
theorem pow_eq : (Rows.laid_internal_strconv_uint64pow10 : DataW Unit) = Lib.tabData .u64 Lib.pow10Tab := by kernel_rfl
/-- What the rows list. -/
def laid8k : List (String × DataW Unit) := [("math/bits.deBruijn32tab", Rows.laid_math_bits_deBruijn32tab), ("math/bits.deBruijn64tab", Rows.laid_math_bits_deBruijn64tab), ("internal/strconv.uint64pow10", Rows.laid_internal_strconv_uint64pow10), ("sleuth/sha.k", Rows.laid_sleuth_sha_k)]
set_option maxRecDepth 100000 in
theorem start_shapedk (os : Os) : (World.laidAll Tryz.prog os laid8k).Shaped Tryz.prog := World.shaped_of_ZipB (by kernel_rfl) (by kernel_rfl)
theorem tab10_of_laidk {W : World} (h : laidMetH Tryz.prog laid8k W) : Tab10 W := by
  rw [MakeChecks.laidMetH_plain _ _ _ (by kernel_rfl)] at h
  have h2 := h.tail.tail
  rw [pow_eq] at h2
  exact Lib.tabIs_of_head gPow tPow Tryz.underlying294 Tryz.underlying77 cells_u64 cells20 h2
theorem gKn : Tryz.prog.globalNamed "sleuth/sha.k" = some 0 := by kernel_rfl
theorem tKn : (Tryz.prog.globals[0]?).map (·.type) = some 236 := by kernel_rfl
theorem cells64 : Tryz.prog.cellsOf 236 = 64 := by kernel_rfl
theorem cells1 : Tryz.prog.cellsOf 54 = 1 := by kernel_rfl
theorem laidk_eq : (Rows.laid_sleuth_sha_k : DataW Unit) = Lib.tabData .u32 kt := by kernel_rfl
/-- What the condition gives: the table of constants. -/
theorem tab_of_laidk {W : World} (h : laidMetH Tryz.prog laid8k W) : Tab W := by
  rw [MakeChecks.laidMetH_plain _ _ _ (by kernel_rfl)] at h
  have h2 := h.tail.tail.tail
  rw [laidk_eq] at h2
  have ht := Lib.tabIs_of_head gKn tKn Tryz.underlying236 Tryz.underlying54 cells1 cells64 h2
  intro i hi
  exact ht.cell gKn i hi
theorem open_bytesC {H : Type} {enc : TypeId × Value → H} {P : Program} {w : World} {base : Nat} {held : Bool} {t e : TypeId} {fuel : Nat} {cs : List Value} {x : DataW H × List MemPlace}
    (ht : P.underlying t = some (.slice e)) (he : P.underlying e = some (.int .u8)) (hc : P.cellsOf e = 1) (h : DataW.trod enc P w base (fun _ => true) held fuel t cs = some x) :
    ∃ A cap bs, cs = [.slice A bs.length cap] ∧ bs.length ≤ cap ∧ cap ≤ 9223372036854775807 ∧ Lies w A (bytesV bs) := by
  obtain ⟨A, cap, bs, h1, h2, h3, _⟩ := open_bytes ht he hc h
  refine ⟨A, cap, bs, h1, h2, ?_, h3⟩
  rcases open_ints ht he hc h with ⟨hcs, hx⟩ | ⟨a, len, cap', zs, hcs, _, hl, hm, hz, hx, hcell, hwf⟩
  · rw [hcs] at h1
    simp at h1
    omega
  · rw [hcs] at h1
    simp only [List.cons.injEq, Value.slice.injEq, and_true] at h1
    rw [← h1.2.2]
    exact hm
end Go.Proofs.YtkaeoflgnnlbeaaGreatDoor
/- What is proved: PackReads, for all bytes and every place: the law returns true and the arguments read as they did. Conditions: those of the statement itself (the listed tables start as their text lays them; the card ties that); none else. -/
namespace Go.Proofs.YtkaeoflgnnlbeaaGreatDoor.reads
open Go.ChangeShapes Go.WideShapes Go.ChangeAt Go.RowKit Go.ChangeMaps
set_option linter.unusedVariables false

set_option maxHeartbeats 1600000 in
set_option maxRecDepth 100000 in
theorem lifted (os : Os) (started : os.Started) (H : Type) (enc : TypeId × Value → H) :
    ReturnsInHanded {} Tryz.checked os 4 .any (fun w args => (Rows.packReadsSpec.pre enc Tryz.prog Tryz.f4 [] false w args ∧ laidMetH Tryz.prog laid8k w) ∧ sizedMet enc Tryz.prog Tryz.f4 (OpenSpec.ofChange Rows.packReadsSpec) false w args)
      (Rows.packReadsSpec.post enc Tryz.prog Tryz.f4 false true false false) := by
  refine returnsInHanded_of_change_and (C := Tryz.checked) (X := fun w _ => laidMetH Tryz.prog laid8k w) (fun _ _ _ hh h => h.of_heap hh) own_knob started (by kernel_rfl) Tryz.func4
    (ChangeSpec.witness_shaped (enc := enc) (C := Tryz.checked) (os := os) (X := fun w _ => laidMetH Tryz.prog laid8k w) false (World.laidAll Tryz.prog os laid8k) #[.slice none 0 0, .int .i64 0] 8 (World.laidAll_os _ _ _) (start_shapedk os) (by kernel_rfl) (by kernel_rfl) (by kernel_rfl)
      (by rw [MakeChecks.laidMetH_plain _ _ _ (by kernel_rfl)]; exact laidMet_laidAll _ (by kernel_rfl) (by kernel_rfl))) ?_
  intro W base args ds gs before hval0 hW hcnd hsz0 hL _
  have hval : ∀ (j : Nat) t v, Tryz.f4.params[j]? = some t → args[j]? = some v → Value.okWide Tryz.prog W .any base t v := hval0
  have hsz : (DataW.weightsEach Tryz.prog (Tryz.f4.params.toList ++ Rows.packReadsSpec.plain.varTypes Tryz.prog) (ds ++ gs)).all (· ≤ reachBytes) = true := hsz0
  have hTab := tab10_of_laidk hL
  have hK := tab_of_laidk hL
  have hW' := hW
  obtain ⟨p, q, hA0, hV, rfl, hfz, hnd⟩ := hW
  have hA : DataW.TrodAll enc Tryz.prog W 0 (fun _ => true) true Tryz.f4.params.toList args.toList ds p := hA0
  rw [Tryz.params4] at hA hval hsz
  obtain ⟨v0, vs0, d0, ds0, p0, q0, hargs, rfl, rfl, h0, r0⟩ := trodAll_cons hA
  obtain ⟨v1, vs1, d1, ds1, p1, q1, rfl, rfl, rfl, h1, r1⟩ := trodAll_cons r0
  obtain ⟨rfl, rfl, rfl⟩ := trodAll_nil r1
  obtain rfl : args = #[v0, v1] := by cases args; simp_all
  obtain ⟨rfl, rfl⟩ := trodVars_none hV
  have k0 := h0
  have lt0 : ∀ x ∈ p0, x.block < W.heap.size := by obtain ⟨fm, hm⟩ := k0; exact DataW.trod_lt fm _ _ _ hm
  have k1 := h1
  have lt1 : ∀ x ∈ p1, x.block < W.heap.size := by obtain ⟨fm, hm⟩ := k1; exact DataW.trod_lt fm _ _ _ hm
  obtain ⟨A0, len0, cap0, rfl⟩ := okWide_slice Tryz.underlying25 (hval 0 25 v0 rfl rfl)
  obtain ⟨fuel0, hf0⟩ := h0
  obtain ⟨A0', cap0', l0, hcs0, hle0, hcap0, hl0⟩ := open_bytesC Tryz.underlying25 Tryz.underlying5 cells_u8 hf0
  simp [Value.cells] at hcs0
  obtain ⟨rfl, rfl, rfl⟩ := hcs0
  obtain ⟨z1, rfl, rfl, rfl, hw1⟩ := open_int Tryz.underlying3 (hval 1 3 v1 rfl rfl) h1
  have hr1 : -9223372036854775808 ≤ z1 ∧ z1 ≤ 9223372036854775807 := by simpa [Lit.wf, IntKind.min, IntKind.max, IntKind.signed, IntKind.bits] using hw1
  have hz1 := hr1.2
  clear hA0 hval0 hsz0 hsz
  have hwk := reads_walk A0 cap0 l0 hle0 hcap0 z1 hr1 W hl0 hTab hK
  refine hwk.mono fun e W' ⟨he, fr⟩ => ?_
  have bel := fr.below (fun _ _ e => e)
  subst he
  exact ⟨_, rfl, _, _, _, [], _, [], hW', trodAll_mk1 (shut_bool Tryz.underlying4 _), (trodAll_cons_mk (Below.trod laidOut (by kernel_rfl) (of_decide_eq_true (by kernel_rfl)) k0 bel lt0) (trodAll_cons_mk (Below.trod laidOut (by kernel_rfl) (of_decide_eq_true (by kernel_rfl)) k1 bel lt1) trodAll_mk0)), rfl, bel.frame _, fun h => by cases h⟩

theorem over : Rows.PackReadsSaid :=
  OpenClaim.holds_of_wide 4 Tryz.f4 rfl rfl rfl rfl rfl rfl rfl ⟨rfl, rfl, rfl, rfl, rfl⟩ rfl rfl rfl rfl rfl (by kernel_rfl) Tryz.func4 (by kernel_rfl)
    (of_decide_eq_true (by kernel_rfl)) (by unfold Func.isWrapper; first | (rw [if_pos (by decide +kernel)]; kernel_rfl) | (rw [if_neg (by decide +kernel)]; exact ⟨rfl, rfl⟩))
    (fun os started H enc _ => lifted os started H enc)

/-- The statement: the tied card. -/
theorem proved : Rows.PackReadsCardSaid :=
  Claim7.holds_tied_plain_at .later [] [.data, .data, .data, .data] true _ false
    over (fun _ h => by cases h) (by kernel_rfl) (fun _ h => by cases h) packReads_row_tie rfl ⟨rfl, rfl⟩ (by kernel_rfl) rfl
    (fun f fn hf hfn => by
      obtain rfl : f = 4 := Option.some.inj ((show Tryz.prog.funcNamed "sleuth/sleuthlaw10.PackReads" = some 4 by kernel_rfl).symm.trans hf) |>.symm
      obtain rfl : fn = Tryz.f4 := (Option.some.inj (Tryz.func4.symm.trans hfn)).symm
      exact ⟨by kernel_rfl, fun j t ht => by
        rw [Tryz.params4] at ht
        have hm : t ∈ [25, 3] := by simpa using Array.mem_of_getElem? ht
        have hall : ([25, 3].all fun u => !Tryz.prog.wantsStandIn u) = true := by kernel_rfl
        exact (show Tryz.prog.wantsStandIn t = false by simpa using List.all_eq_true.1 hall t hm)⟩)
    (by kernel_rfl)
#print axioms proved
end Go.Proofs.YtkaeoflgnnlbeaaGreatDoor.reads

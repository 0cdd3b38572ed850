/- What is proved: ShaBlocks, for every state and all bytes: the law returns true and the arguments read as they did. Conditions: those of the statement itself: the table of constants starts as the program's own text lays it (the card ties that). -/
import Derived.Test.YtbbjappmaigobaaDoorShyB
import Derived.Test.YtbbjappmaigobaaDoorAr2
import Derived.Test.YtbbjappmaigobaaDoorTie
import Derived.Test.YtbbjappmaigobaaDoorCards
import Derived.SevenTiedAt
namespace Go.Proofs.YtbbjappmaigobaaDoor.blocks
open Go.ChangeShapes Go.WideShapes Go.ChangeAt Go.RowKit
set_option linter.unusedVariables false

theorem okWide_arr {P : Program} {w : World} {r : Reach} {base : Nat} {t : TypeId} {v : Value} {n : Nat} {e : TypeId} (ht : P.underlying t = some (.array n e)) (h : Value.okWide P w r base t v) : ∃ cs, v = .agg cs ∧ cs.size = P.cellsOf t := by
  simp only [Value.okWide, ht] at h
  obtain ⟨cs, h1, h2, _⟩ := h
  exact ⟨cs, h1, h2⟩

theorem state_of_cells (cs : Array Value) (hs : cs.size = 8) (h : ∀ i, i < 8 → ∃ n, cs[i]? = some (.int .u32 n)) : ∃ s : S8, cs = s.vals := by
  obtain ⟨a, ha⟩ := h 0 (by decide)
  obtain ⟨b, hb⟩ := h 1 (by decide)
  obtain ⟨c, hc⟩ := h 2 (by decide)
  obtain ⟨d, hd⟩ := h 3 (by decide)
  obtain ⟨e, he⟩ := h 4 (by decide)
  obtain ⟨f, hf⟩ := h 5 (by decide)
  obtain ⟨g, hg⟩ := h 6 (by decide)
  obtain ⟨k, hk⟩ := h 7 (by decide)
  refine ⟨⟨a, b, c, d, e, f, g, k⟩, ?_⟩
  apply Array.ext_getElem?
  intro i
  by_cases hi : i < 8
  · have h8 : i = 0 ∨ i = 1 ∨ i = 2 ∨ i = 3 ∨ i = 4 ∨ i = 5 ∨ i = 6 ∨ i = 7 := by omega
    rcases h8 with rfl | rfl | rfl | rfl | rfl | rfl | rfl | rfl
    · rw [ha]; rfl
    · rw [hb]; rfl
    · rw [hc]; rfl
    · rw [hd]; rfl
    · rw [he]; rfl
    · rw [hf]; rfl
    · rw [hg]; rfl
    · rw [hk]; rfl
  · rw [Array.getElem?_eq_none (by omega), Array.getElem?_eq_none (by rw [S8.size]; omega)]

theorem cells8 : Tryd.prog.cellsOf 23 = 8 := by kernel_rfl

/-- The first argument, opened. -/
theorem open_state {H : Type} {enc : TypeId × Value → H} {w : World} {base : Nat} {sp : Nat → Bool} {held : Bool} {fuel : Nat} {cs : Array Value} {x : DataW H × List MemPlace} (hs : cs.size = 8)
    (h : DataW.trod enc Tryd.prog w base sp held fuel 23 cs.toList = some x) : ∃ s : S8, cs = s.vals := by
  obtain ⟨xs, m, rfl, _, _, hxl, hel⟩ := DataW.trod_array Tryd.underlying23 h
  refine state_of_cells cs hs (fun i hi => ?_)
  have h1 := hel i hi
  rw [cells1, Nat.mul_one, List.getElem?_eq_getElem (by omega)] at h1
  obtain ⟨n, e1, _, _⟩ := DataW.trod_int Tryd.underlying22 h1
  refine ⟨n, ?_⟩
  have h2 : (cs.toList.drop i).take 1 = [cs.toList[i]'(by simpa using (by omega : i < cs.size))] := by
    rw [List.drop_eq_getElem_cons (by simpa using (by omega : i < cs.size))]
    rfl
  rw [h2] at e1
  have e3 : cs.toList[i]'(by simpa using (by omega : i < cs.size)) = .int .u32 n := by simpa using e1
  rw [Array.getElem?_eq_getElem (by omega), ← e3]
  simp

set_option maxRecDepth 100000 in
theorem lifted (os : Os) (started : os.Started) (H : Type) (enc : TypeId × Value → H) :
    ReturnsInHanded {} Tryd.checked os 3 .any (fun w args => (Rows.shaBlocksSpec.pre enc Tryd.prog Tryd.f3 [] false w args ∧ laidMetH Tryd.prog [("sleuth/sha.k", Rows.laid_sleuth_sha_k)] w) ∧ sizedMet enc Tryd.prog Tryd.f3 (OpenSpec.ofChange Rows.shaBlocksSpec) false w args)
      (Rows.shaBlocksSpec.post enc Tryd.prog Tryd.f3 false true false false) := by
  refine returnsInHanded_of_change_and (C := Tryd.checked) (X := fun w _ => laidMetH Tryd.prog [("sleuth/sha.k", Rows.laid_sleuth_sha_k)] w) (fun _ _ _ hh h => h.of_heap hh) own_knob started (by kernel_rfl) Tryd.func3
    (ChangeSpec.witness_shaped (enc := enc) (C := Tryd.checked) (os := os) (X := fun w _ => laidMetH Tryd.prog [("sleuth/sha.k", Rows.laid_sleuth_sha_k)] w) false (World.doorLaid Tryd.prog 400 os) #[.agg #[.int .u32 0, .int .u32 0, .int .u32 0, .int .u32 0, .int .u32 0, .int .u32 0, .int .u32 0, .int .u32 0], .slice none 0 0] 8 rfl (World.shaped_of_RefB (by kernel_rfl) (by kernel_rfl)) (by kernel_rfl) (by kernel_rfl) (by kernel_rfl) (door_met os _)) ?_
  intro W base args ds gs before hval0 hW hcnd hsz0 hL _
  have hval : ∀ (j : Nat) t v, Tryd.f3.params[j]? = some t → args[j]? = some v → Value.okWide Tryd.prog W .any base t v := hval0
  have hsz : (DataW.weightsEach Tryd.prog (Tryd.f3.params.toList ++ Rows.shaBlocksSpec.plain.varTypes Tryd.prog) (ds ++ gs)).all (· ≤ reachBytes) = true := hsz0
  have hW' := hW
  obtain ⟨p, q, hA0, hV, rfl, hfz, hnd⟩ := hW
  have hA : DataW.TrodAll enc Tryd.prog W 0 (fun _ => true) true Tryd.f3.params.toList args.toList ds p := hA0
  rw [Tryd.params3] at hA hval hsz
  obtain ⟨v0, vs0, d0, ds0, p0, q0, hargs, rfl, rfl, h0, r0⟩ := trodAll_cons hA
  obtain ⟨v1, vs1, d1, ds1, p1, q1, rfl, rfl, rfl, h1, r1⟩ := trodAll_cons r0
  obtain ⟨rfl, rfl, rfl⟩ := trodAll_nil r1
  obtain rfl : args = #[v0, v1] := by cases args; simp_all
  obtain ⟨rfl, rfl⟩ := trodVars_none hV
  have k0 := h0
  have k1 := h1
  have lt0 : ∀ x ∈ p0, x.block < W.heap.size := by obtain ⟨fm, hm⟩ := k0; exact DataW.trod_lt fm _ _ _ hm
  have lt1 : ∀ x ∈ p1, x.block < W.heap.size := by obtain ⟨fm, hm⟩ := k1; exact DataW.trod_lt fm _ _ _ hm
  obtain ⟨cs, rfl, hcsz⟩ := okWide_arr Tryd.underlying23 (hval 0 23 v0 rfl rfl)
  rw [cells8] at hcsz
  obtain ⟨fuel0, hf0⟩ := h0
  obtain ⟨s, rfl⟩ := open_state hcsz hf0
  obtain ⟨a0, len0, cap0, rfl⟩ := okWide_slice Tryd.underlying24 (hval 1 24 v1 rfl rfl)
  obtain ⟨fuel, hf⟩ := h1
  obtain ⟨A, cap, bs, hcs, hcap, hl, hx⟩ := open_bytes Tryd.underlying24 Tryd.underlying5 (by kernel_rfl) hf
  simp [Value.cells] at hcs
  obtain ⟨rfl, rfl, rfl⟩ := hcs
  have hb : bs.length ≤ 140737488351232 := by
    rcases hx with ⟨_, h⟩ | ⟨elems, spare, he, h⟩
    · omega
    · have he' : d1 = .slice elems spare := he
      subst he'
      have := sized_slice hsz (j := 1) (t := 24) (e := 5) rfl rfl Tryd.underlying24
      rw [show Tryd.prog.bytesOf 5 = 1 by kernel_rfl] at this
      simp only [reachBytes] at this
      omega
  have hT := tab_of_laid hL
  clear hA0 hval0
  have fin : ∀ W', Below W.heap.size W W' → ∃ v, Ending.returned (Value.bool true) = .returned v ∧ Rows.shaBlocksSpec.post enc Tryd.prog Tryd.f3 false true false false W #[.agg s.vals, .slice a0 bs.length cap0] v W' := fun W' bel =>
    ⟨_, rfl, _, _, _, [], _, [], hW', trodAll_mk1 (shut_bool Tryd.underlying4 _), (trodAll_cons_mk (Below.trod laidOut (by kernel_rfl) (of_decide_eq_true (by kernel_rfl)) k0 bel lt0) (trodAll_cons_mk (Below.trod laidOut (by kernel_rfl) (of_decide_eq_true (by kernel_rfl)) k1 bel lt1) trodAll_mk0)), rfl, bel.frame _, fun h => by cases h⟩
  by_cases h64 : bs.length = 64
  · rcases hl with h | ⟨bk, off, rfl, hc⟩
    · have : (bytesV bs).length = 64 := by rw [bytesV_length, h64]
      rw [h] at this
      simp at this
    · have hwk := walk_ok s bk off cap0 bs W hT h64 (fun i hi => hc i _ (by
        rw [bytesV, List.getElem?_map, List.getElem?_eq_getElem (by omega)]
        simp [byteV, byteI, List.getD_eq_getElem?_getD, List.getElem?_eq_getElem (show i < bs.length by omega)]))
      rw [← h64] at hwk
      refine hwk.mono fun e W' ⟨he, bel⟩ => ?_
      subst he
      exact fin W' bel
  · refine (walk_bad s a0 bs.length cap0 W hT h64 (by omega)).mono fun e W' ⟨he, bel⟩ => ?_
    subst he
    exact fin W' bel

theorem over : Rows.ShaBlocksSaid :=
  OpenClaim.holds_of_wide 3 Tryd.f3 rfl rfl rfl rfl rfl rfl rfl ⟨rfl, rfl, rfl, rfl, rfl⟩ rfl rfl rfl rfl rfl (by kernel_rfl) Tryd.func3 (by kernel_rfl)
    (of_decide_eq_true (by kernel_rfl)) (by unfold Func.isWrapper; first | (rw [if_pos (by decide +kernel)]; kernel_rfl) | (rw [if_neg (by decide +kernel)]; exact ⟨rfl, rfl⟩))
    (fun os started H enc _ => lifted os started H enc)

/-- The statement: the tied card. -/
theorem proved : Rows.ShaBlocksCardSaid :=
  Claim7.holds_tied_plain_at .later [] [.data] true _ false
    over (fun _ h => by cases h) (by kernel_rfl) (fun _ h => by cases h) shaBlocks_row_tie rfl ⟨rfl, rfl⟩ (by kernel_rfl) rfl
    (fun f fn hf hfn => by
      obtain rfl : f = 3 := Option.some.inj ((show Tryd.prog.funcNamed "sleuth/sleuthlaw02.ShaBlocks" = some 3 by kernel_rfl).symm.trans hf) |>.symm
      obtain rfl : fn = Tryd.f3 := (Option.some.inj (Tryd.func3.symm.trans hfn)).symm
      exact ⟨by kernel_rfl, fun j t ht => by
        rw [Tryd.params3] at ht
        have hm : t ∈ [23, 24] := by simpa using Array.mem_of_getElem? ht
        have hall : ([23, 24].all fun u => !Tryd.prog.wantsStandIn u) = true := by kernel_rfl
        exact (show Tryd.prog.wantsStandIn t = false by simpa using List.all_eq_true.1 hall t hm)⟩)
    (by kernel_rfl)
#print axioms proved
end Go.Proofs.YtbbjappmaigobaaDoor.blocks

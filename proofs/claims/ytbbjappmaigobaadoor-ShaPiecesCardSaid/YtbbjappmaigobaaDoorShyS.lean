/- What is proved: the walk of the law ShaSums, for every list of parts. Conditions: the table of constants holds what start-up lays; the parts lie where they are said to lie. -/
import Derived.Test.YtbbjappmaigobaaDoorSeq
import Derived.Test.YtbbjappmaigobaaDoorShf
namespace Go.Proofs.YtbbjappmaigobaaDoor.sums
open Go.ChangeShapes Go.WideShapes Go.ChangeAt Go.RowKit
set_option linter.unusedVariables false

/-- The whole array's cells, as a load reads them. -/
theorem load_cells {w w' : World} {g n : Nat} {Z : Array Value} (h : Whole w' g 38 Z) (hz : Z.size = n) (f : Fr (fun _ => False) w' w) : (loadCellsFrom ⟨g, 0, none⟩ 0 n #[]).run Tryd.prog w = .ok Z w := by
  have k := h.fr f (fun e => e)
  have h2 := run_loadCells_list (P := Tryd.prog) w ⟨g, 0, none⟩ Z.toList (fun j v hv => by rw [add_off, Nat.zero_add, k.cell]; simpa using hv)
  rw [Array.length_toList, hz] at h2
  simpa [loadCells] using h2
theorem WholeZ {w w' : World} {g : Nat} {Z : Array Value} (h : Whole w g 38 Z) (f : Fr (fun _ => False) w w') (hz : Z.size = 32) : w'.rangeAt g 0 Z.toList := by
  have := (h.fr f (fun e => e)).range 0 32
  rw [List.drop_zero, List.take_of_length_le (by simp [hz])] at this
  exact this
theorem one_part (w : World) (A : Option Addr) (L c : Nat) (l : List UInt8) (hL : l.length = L) (hc : L ≤ c) (h : Lies w A (bytesV l)) : Parts (w.alloc (.cells #[.slice A L c] 24)) (some ⟨w.heap.size, 0, none⟩) [l] := by
  refine .inr ⟨w.heap.size, 0, rfl, fun i p hi => ?_⟩
  match i, hi with
  | 0, hi =>
    simp at hi
    subst hi
    exact ⟨A, c, by rw [Nat.add_zero, (Whole.new w 24 #[.slice A L c]).cell, hL]; rfl, by omega, h.fr ((Fr.refl (fun _ => False) w).alloc _) (fun _ _ e => e)⟩

set_option maxHeartbeats 3200000 in
theorem walk (A : Option Addr) (cap : Nat) (ps : List (List UInt8)) (w : World) (ht : Tab w) (hp : Parts w A ps) (hn : ps.length ≤ 9223372036854775807) :
    Calls Tryd.prog 5 #[.slice A ps.length cap] w fun e w' => e = .returned (.bool true) ∧ Below w.heap.size w w' := by
  obtain ⟨i0, hi, hz0, hz1, hz2⟩ := info_parts info_u8
  have HP := Lib.hid hp
  have HT := Lib.hid ht
  clear hp ht
  go_enter Tryd.func5, Tryd.ntmps5
  go_wp2_with fail
  go_loopw [3, 4] (fun v i wr => ∃ k : Nat, k ≤ ps.length ∧ i = .int .i64 k ∧ (ps.take k).flatten.length ≤ 3000 ∧ OwnB w wr v (ps.take k).flatten) (fun _ i _ => ps.length - (intOf i).toNat)
  case atStart => exact ⟨0, by omega, rfl, by simp, World.ownsRow_nil w w.heap.size 5 1, Fr.refl _ _⟩
  case round =>
    obtain ⟨k, hk, rfl, h3000, ho⟩ := hrel
    obtain ⟨A2, c2, rfl, hc2, hl2, hb2⟩ := ho.slice
    obtain ⟨l, hl⟩ : ∃ l, (ps.take k).flatten = l := ⟨_, rfl⟩
    rw [hl] at h3000 ho hc2 hl2 ⊢
    obtain ⟨L, hL⟩ : ∃ L, l.length = L := ⟨_, rfl⟩
    have HLn := Lib.hid hL
    have HO := Lib.hid ho
    have HL2 := Lib.hid hl2
    rw [hL] at h3000 hc2 ⊢
    have hO := ho.1
    rw [hL] at hO
    have HO1 := Lib.hid hO
    clear ho hl2 hO hL
    by_cases hlt : k < ps.length
    · obtain ⟨p, hpk⟩ : ∃ p, ps[k]? = some p := ⟨_, List.getElem?_eq_getElem hlt⟩
      rcases HP.out with h0 | ⟨b, o, hA, hc⟩
      · rw [h0] at hlt
        simp at hlt
      · obtain ⟨Ai, ci, d1, d2, d3⟩ := hc k p hpk
        have c1 := HO.out.2.cell d1 (fun e => e)
        subst hA
        have hft := flatten_take_succ ps k p hpk
        rw [hl] at hft
        obtain ⟨z, hz⟩ : ∃ z, p.length = z := ⟨_, rfl⟩
        have HZn := Lib.hid hz
        have HFT := Lib.hid hft
        have HL3 := Lib.hid (d3.fr HO.out.2 (fun _ _ e => e))
        rw [hz] at c1 d2
        clear hft d1 d3 hz hc
        by_cases hbig : (3000 : Int) - L < z
        · go_wp2_with (go_at_call 8; refine (works_any _ (HT.out.fr HO.out.2 (fun e => e))).mono ?_; rintro e w4 ⟨rfl, b4⟩)
          go_ret
          exact ⟨rfl, (HO.out.2.then_below b4).below (fun _ _ e => e)⟩
        · go_wp2_with (at_builtin; refine wpList_append_row _ rfl (.tmp 22) (.tmp 26) 24 24 rfl w.heap.size 5 i0 (.int .u8 0) 1 1 Tryd.underlying24 hi hz0 hz1 hz2 rfl (.slice A2 L c2) L (bytesV l) rfl HO1.out (.slice Ai z ci) z (bytesV p) rfl (Lies.srcB HL3.out HZn.out ci) (by unfold maxLen; omega) (by omega) HO.out.2.size ?_; intro v1 w1 o1 g1 at1)
          have hN : OwnB w w1 v1 (ps.take (k + 1)).flatten := by
            refine ⟨?_, fr_append HO1.out HO.out.2 g1⟩
            rw [HFT.out, List.length_append, HLn.out, HZn.out, bytesV_append]
            exact o1
          have HNw := Lib.hid hN
          have h3 : (ps.take (k + 1)).flatten.length ≤ 3000 := by rw [HFT.out, List.length_append, HLn.out, HZn.out]; omega
          have H3 := Lib.hid h3
          clear hN o1 g1 at1 h3
          go_wp2_with fail
          go_roundw
          case rel => exact ⟨k + 1, by omega, by go_num, H3.out, HNw.out⟩
          case measure => simp [intOf]; omega
    · have hke : k = ps.length := by omega
      have hfl : ps.flatten = l := by rw [← hl, hke, List.take_length]
      obtain ⟨Z, hZ⟩ : ∃ Z, sumV l = Z := ⟨_, rfl⟩
      have hzs : Z.size = 32 := by rw [← hZ]; exact sumV_size l
      have hzo : Z.all (·.oneCell') = true := by rw [← hZ]; exact sumV_one l
      have heq : ∀ w, (Op.equalIn 10000 38 (.agg Z) (.agg Z)).run Tryd.prog w = .ok true w := by rw [← hZ]; exact eqSum l
      have HZ := Lib.hid hZ
      have HFL := Lib.hid hfl
      clear hZ hfl hl
      go_wp2_with (first
        | (go_at_call 15; refine Calls.mono (by have h := QOf_any A2 c2 l _ HL2.out (by rw [HLn.out]; omega); rw [HLn.out, HZ.out] at h; exact h) ?_; rintro e w3 ⟨rfl, b3⟩)
        | (refine wpList_store_at rfl 38 _ _ rfl w3.heap.size 0 38 _ Z rfl rfl (Whole.new w3 38 zero32) (by rw [hzs]; decide) (by rw [hzs]; exact size32) hzo ?_
           intro w4 hw4 hf4
           rw [laidAt_all zero32 Z (by rw [hzs]; rfl)] at hw4))
      have F4 : Fr (fun _ => False) wr w4 := ((Fr.refl (fun _ => False) wr).then_below b3).alloc _ |>.trans hf4 (fun i hi e => by have := b3.size; omega)
      have hr4 : w4.rangeAt w3.heap.size 0 Z.toList := by
        have := hw4.range 0 32
        rw [List.drop_zero, List.take_of_length_le (by simp [hzs])] at this
        exact this
      have HF4 := Lib.hid F4
      have HR4 := Lib.hid hr4
      have HW4 := Lib.hid hw4
      clear F4 hr4 hw4 hf4 b3
      have hzl : (Tryd.prog.info? 38).map (·.size) = some Z.toList.length := by rw [Array.length_toList, hzs]; exact size32
      have hun := Tryd.underlying38
      have F0 := HO.out.2.trans HF4.out (fun _ _ e => e)
      have HF0 := Lib.hid F0
      clear F0
      have hm3 : l.length ≤ 70368744177664 := by rw [HLn.out]; omega
      have HM3 := Lib.hid hm3
      clear hm3
      obtain ⟨T, hT⟩ : ∃ T : TypeId, T = 38 := ⟨_, rfl⟩
      obtain ⟨n32, hn32⟩ : ∃ n, Z.size = n := ⟨_, rfl⟩
      have hag : ∀ w, (isAgg T).run Tryd.prog w = .ok true w := by rw [hT]; exact fun _ => by kernel_rfl
      have hsT : ∀ w, (sizeOf T).run Tryd.prog w = .ok n32 w := by rw [hT, ← hn32, hzs]; exact fun _ => by kernel_rfl
      have HN32 := Lib.hid hn32
      have hld0 := load_cells HW4.out hn32 ((Fr.refl (fun _ => False) w4).drew)
      have HTT := Lib.hid hT
      rw [show Op.load 38 (.tmp 5) = Op.load T (.tmp 5) by rw [hT]]
      clear hT hn32 hzs hzl hun
      go_region_law (first
        | (go_simp; go_at_call 8
           refine (works_any _ (Tab.fr HT.out (HF0.out.trans G6 (fun _ _ e => e)) (fun e => e))).mono ?_
           rintro e w7 ⟨rfl, b7⟩
           have G7 := G6.then_below b7
           skip)
        | (go_simp; go_at_call 16
           have hPa : Parts (w5.alloc (.cells #[.slice A2 L c2] 24)) (some ⟨w5.heap.size, 0, none⟩) [l] := one_part w5 A2 L c2 l HLn.out hc2 (HL2.out.fr (HF4.out.trans G5 (fun _ _ e => e)) (fun _ _ e => e))
           refine Calls.mono (by have h := SOf_any (some ⟨w5.heap.size, 0, none⟩) 1 [l] (w5.alloc (.cells #[.slice A2 L c2] 24)) hPa (by show 1 ≤ _; decide) (Tab.fr HT.out ((HF0.out.trans G5 (fun _ _ e => e)).alloc _) (fun e => e)) (by rw [show [l].flatten = l by simp]; exact HM3.out); rw [show [l].flatten = l by simp, HZ.out] at h; exact h) ?_
           rintro e w6 ⟨rfl, b6⟩
           have G6 := (G5.alloc (.cells #[.slice A2 L c2] 24)).then_below b6
           have hld3 := load_cells HW4.out HN32.out G6)
        | (go_simp; go_at_call 16
           refine Calls.mono (by have h := SOf_any A cap ps w4.drew (HP.out.fr (HF0.out.drew)) hn (Tab.fr HT.out (HF0.out.drew) (fun e => e)) (by rw [HFL.out]; exact HM3.out); rw [HFL.out, HZ.out] at h; exact h) ?_
           rintro e w5 ⟨rfl, b5⟩
           have G5 := (Fr.refl (fun _ => False) w4).drew.then_below b5
           have hld1 := load_cells HW4.out HN32.out G5
           have hld2 := load_cells HW4.out HN32.out (G5.alloc (.cells #[.slice A2 L c2] 24))))
      all_goals
        go_wp2_with fail
        go_ret
        exact ⟨rfl, (HF0.out.trans G7 (fun _ _ e => e)).below (fun _ _ e => e)⟩
end Go.Proofs.YtbbjappmaigobaaDoor.sums

/- What is proved: the document's own sum of a text (Of). Conditions: the text's bytes lie where they are said to lie; at most 2^46 bytes. -/
import Derived.Test.YtbbjappmaigobaaDoorShk
import Derived.Test.YtbbjappmaigobaaDoorShr2
import Derived.Test.YtbbjappmaigobaaDoorSho
import Derived.LoopN
namespace Go.Proofs.YtbbjappmaigobaaDoor
open Go.RowKit
set_option linter.unusedVariables false

/-- An array of 32 bytes. -/
def arrF (f : Nat → Int) : Array Value := ((List.range 32).map (fun i => Value.int .u8 (f i))).toArray
theorem arrF_get (f : Nat → Int) (i : Nat) (h : i < 32) : (arrF f)[i]? = some (.int .u8 (f i)) := by
  simp only [arrF, List.getElem?_toArray]
  rw [List.getElem?_map, List.getElem?_range h]
  rfl
theorem arrF_set (f : Nat → Int) (p : Nat) (x : Int) (h : p < 32) : (arrF f).setIfInBounds p (.int .u8 x) = arrF (fun i => if i = p then x else f i) := by
  apply Array.ext_getElem?
  intro i
  rw [Array.getElem?_setIfInBounds]
  by_cases hi : i < 32
  · rw [arrF_get _ i hi]
    by_cases hp : p = i
    · subst hp
      rw [if_pos rfl, if_pos (by simp [arrF]; exact h), arrF_get _ p h, if_pos rfl]
    · rw [if_neg hp, arrF_get _ i hi, if_neg (fun e => hp e.symm)]
  · have e1 : (arrF (fun i => if i = p then x else f i))[i]? = none := Array.getElem?_eq_none (by simp [arrF]; omega)
    have e2 : (arrF f)[i]? = none := Array.getElem?_eq_none (by simp [arrF]; omega)
    rw [if_neg (by omega), e1, e2]
theorem arrF_done (f : Nat → Int) (s : S8) (h : ∀ i, i < 32 → f i = idN s i) : arrF f = idC s 32 := by
  apply Array.toList_inj.1
  simp only [arrF, idC, Nat.sub_self, List.replicate_zero, List.append_nil]
  exact List.map_congr_left (fun i hi => by rw [h i (List.mem_range.1 hi)])
theorem arrF_zero : arrF (fun _ => 0) = zero32 := rfl

theorem idN_0 (s : S8) (k : Nat) : idN s (4 * k) = s.nums.getD k 0 / 16777216 % 256 := by
  unfold idN
  rw [show 4 * k / 4 = k by omega, show 4 * k % 4 = 0 by omega]
  rfl
theorem idN_1 (s : S8) (k : Nat) : idN s (4 * k + 1) = s.nums.getD k 0 / 65536 % 256 := by
  unfold idN
  rw [show (4 * k + 1) / 4 = k by omega, show (4 * k + 1) % 4 = 1 by omega]
  rfl
theorem idN_2 (s : S8) (k : Nat) : idN s (4 * k + 2) = s.nums.getD k 0 / 256 % 256 := by
  unfold idN
  rw [show (4 * k + 2) / 4 = k by omega, show (4 * k + 2) % 4 = 2 by omega]
  rfl
theorem idN_3 (s : S8) (k : Nat) : idN s (4 * k + 3) = s.nums.getD k 0 % 256 := by
  unfold idN
  rw [show (4 * k + 3) / 4 = k by omega, show (4 * k + 3) % 4 = 3 by omega]
  show _ / 1 % 256 = _
  rw [Int.ediv_one]

theorem blockAt_length (l : List UInt8) (k : Nat) (h : 64 * (k + 1) ≤ l.length) : (blockAt l k).length = 64 := by
  unfold blockAt
  rw [List.length_take, List.length_drop]
  omega
theorem blockAt_byte (l : List UInt8) (k i : Nat) (hi : i < 64) : byteI (blockAt l k) i = byteI l (64 * k + i) := by
  unfold byteI blockAt
  rw [List.getD_eq_getElem?_getD, List.getElem?_take, if_pos hi, List.getElem?_drop, ← List.getD_eq_getElem?_getD]

set_option maxHeartbeats 3200000 in
theorem QOf_any (A : Option Addr) (cap : Nat) (bs : List UInt8) (w : World) (hl : Lies w A (bytesV bs)) (hm : bs.length ≤ 70368744177664) :
    Calls Tryd.prog 15 #[.slice A bs.length cap] w fun e w' => e = .returned (.agg (sumV bs)) ∧ Below w.heap.size w w' := by
  obtain ⟨i0, hi, hz0, hz1, hz2⟩ := info_parts info_u8
  obtain ⟨w1, hw1⟩ : ∃ w1, w.alloc (.cells zero32 38) = w1 := ⟨_, rfl⟩
  have hF : Fr (fun _ => False) w w1 := by subst hw1; exact (Fr.refl _ w).alloc _
  have hZ : Whole w1 w.heap.size 38 zero32 := by subst hw1; exact Whole.new w 38 zero32
  unfold zero32 at hw1
  simp [List.replicate] at hw1
  have hl1 := hl.fr hF (fun _ _ e => e)
  obtain ⟨n, hn⟩ : ∃ n, bs.length = n := ⟨_, rfl⟩
  have hpl := padB_length n
  have hnl := noughts_lt n
  obtain ⟨pl, hpe⟩ : ∃ pl, (padB n).length = pl := ⟨_, rfl⟩
  have hpl72 : pl ≤ 72 := by omega
  obtain ⟨all, hall⟩ : ∃ all, bs ++ padB n = all := ⟨_, rfl⟩
  have hsum : sumV bs = idC (stN all (all.length / 64)) 32 := by unfold sumV stOf; rw [hn, hall]
  have hlen : all.length % 64 = 0 := by rw [← hall, List.length_append, hn]; exact padB_whole n
  have hlenm : all.length ≤ 70368744177664 + 72 := by rw [← hall, List.length_append, hn, hpe]; omega
  have hln : all.length = n + pl := by rw [← hall, List.length_append, hn, hpe]
  have hbv : bytesV all = bytesV bs ++ bytesV (padB n) := by rw [← hall, bytesV_append]
  obtain ⟨L, hL⟩ : ∃ L, all.length = L := ⟨_, rfl⟩
  rw [hL] at hlen hlenm hsum hln
  have HLen := Lib.hid hL
  have HLn := Lib.hid hln
  have HBV := Lib.hid hbv
  have HSum := Lib.hid hsum
  have HN := Lib.hid hn
  have HPE := Lib.hid hpe
  rw [hn] at hm ⊢
  have HF := Lib.hid hF
  have HZ := Lib.hid hZ
  have HL1 := Lib.hid hl1
  clear hF hZ hl hl1 hn hpl hnl hpe hsum hln hbv hL hall
  go_enter Tryd.func15, Tryd.ntmps15
  go_wp2_with (first
    | (go_at_call 14; refine (QPad_any n (by omega) _).mono ?_; rintro e w3 ⟨v3, rfl, o3⟩; obtain ⟨A3, c3, rfl, hc3, hl3, hb3⟩ := o3.slice; rw [HPE.out]; have hO3 := own_fr (S := fun _ => False) ob2.1 o3.2 (fun _ _ e => e); rw [HN.out] at hO3)
    | (at_builtin; refine wpList_append_row _ rfl (.tmp 10) (.tmp 11) 24 24 rfl w1.heap.size 5 i0 (.int .u8 0) 1 1 Tryd.underlying24 hi hz0 hz1 hz2 rfl (.slice none 0 0) 0 [] rfl (World.ownsRow_nil w1 w1.heap.size 5 1) (.slice A n cap) n (bytesV bs) rfl (Lies.srcB HL1.out HN.out cap) (by unfold maxLen; omega) (by omega) (Nat.le_refl _) ?_
       intro v2 w2 o2 g2 at2
       have ob2 : OwnB w1 w2 v2 bs := ⟨by rw [HN.out]; rw [Nat.zero_add, List.nil_append] at o2; exact o2, fr_append (World.ownsRow_nil w1 w1.heap.size 5 1) (Fr.refl _ w1) g2⟩
       obtain ⟨A2, c2, rfl, hc2, hl2, hb2⟩ := ob2.slice
       rw [HN.out])
    | (at_builtin; refine wpList_append_row _ rfl (.tmp 13) (.tmp 17) 24 24 rfl w1.heap.size 5 i0 (.int .u8 0) 1 1 Tryd.underlying24 hi hz0 hz1 hz2 rfl (.slice A2 n c2) n (bytesV bs) rfl hO3 (.slice A3 pl c3) pl (bytesV (padB n)) rfl (Lies.srcB hl3 HPE.out c3) (by unfold maxLen; omega) (by omega) (by have := ob2.2.size; have := o3.2.size; omega) ?_
       intro v4 w4 o4 g4 at4
       have ob4 : OwnB w1 w4 v4 all := ⟨by rw [HLen.out, HLn.out, HBV.out]; exact o4, fr_append hO3 (ob2.2.trans o3.2 (fun _ _ e => e)) g4⟩
       obtain ⟨A4, c4, rfl, hc4, hl4, hb4⟩ := ob4.slice
       rw [HLen.out] at hc4 ⊢)
    | (go_at_call 11; refine (QStart_any _).mono ?_; rintro e w5 ⟨rfl, b5⟩)
    | (refine wpList_store_at rfl 23 _ _ rfl w5.heap.size 0 23 _ S8.start.vals rfl rfl (Whole.new w5 23 S8.zero.vals) (show 0 + 8 ≤ 8 from Nat.le_refl 8) size8 (S8.one _) ?_; intro w6 hw6 hf6; replace hw6 := S8.laid hw6))
  have F6 : Fr (fun _ => False) w1 w6 := (ob4.2.then_below b5).alloc _ |>.trans hf6 (fun i hi e => by have := (ob4.2.then_below b5).size; omega)
  have F46 : Fr (fun _ => False) w4 w6 := ((Fr.refl (fun _ => False) w4).then_below b5).alloc _ |>.trans hf6 (fun i hi e => by have := b5.size; omega)
  have hl6 := hl4.fr F46 (fun _ _ e => e)
  have hbw : w5.heap.size < w6.heap.size := hw6.lt
  have HL6 := Lib.hid hl6
  have HB4 := Lib.hid (show ∀ ad, A4 = some ad → ad.block ≠ w5.heap.size from fun ad had e => by have := (hb4 ad had).2; have := b5.size; omega)
  have HW6 := Lib.hid hw6
  have HF6 := Lib.hid F6
  have HW5 := Lib.hid (show w.heap.size < w5.heap.size by have := (ob4.2.then_below b5).size; have := HZ.out.lt; omega)
  clear hl6 hw6 F6 F46 hO3 ob4 hl4 hb4 o3 hl3 hb3 hc3 ob2 o2 g2 at2 hl2 hb2 hc2 o4 g4 at4 b5 hf6 hw1
  go_wp2_with fail
  go_loopw [5] (fun i wr => ∃ k : Nat, 64 * k ≤ L ∧ i = .int .i64 ((64 * k : Nat) : Int) ∧ Whole wr w5.heap.size 23 (stN all k).vals ∧ Fr (fun j => j = w5.heap.size) w6 wr) (fun i _ => L + 1 - (intOf i).toNat)
  case atStart => exact ⟨0, by omega, rfl, HW6.out, Fr.refl _ _⟩
  case round =>
    obtain ⟨k, hk, rfl, hw, hf⟩ := hrel
    obtain ⟨p, hp⟩ : ∃ p, 64 * k = p := ⟨_, rfl⟩
    rw [hp] at hk ⊢
    by_cases hlt : p + 64 ≤ L
    · obtain ⟨c0, c1, c2, c3, c4', c5, c6, c7⟩ := S8.cells hw
      have hpc : (p : Int) + 64 ≤ c4 := by omega
      have hp0 : (0 : Int) ≤ (p : Int) + 64 := by omega
      have hwr : IntKind.i64.wrap ((p : Int) + 64) = (p : Int) + 64 := by simp only [IntKind.wrap_i64]; omega
      have hpp : (p : Int) ≤ (p : Int) + 64 := by omega
      have htn : ((p : Int) + 64).toNat = p + 64 := by omega
      have hsub : p + 64 - p = 64 := by omega
      have hne : ¬ c4 = p := by omega
      have hfr := HF6.out
      have hbound := hlen
      rcases HL6.out with h0 | ⟨bk, off, rfl, hc⟩
      · have : (bytesV all).length = L := by rw [bytesV_length, HLen.out]
        rw [h0] at this
        simp at this
        omega
      · have HC := Lib.hid hc
        have HW := Lib.hid hw
        have HFR := Lib.hid hf
        clear hc hw hf
        go_wp2_with fail
        go_region_law (first
          | (go_simp; go_at_call 9
             have hFd := (HFR.out).drew
             refine (QBlock_any (stN all k) bk (off + p) (c4 - p) (blockAt all k) wr.drew (blockAt_length all k (by rw [HLen.out]; omega)) (fun i hi => by
               rw [blockAt_byte all k i hi, hp, Nat.add_assoc]
               exact hFd.cell (HC.out (p + i) _ (by rw [bytesV, List.getElem?_map, List.getElem?_eq_getElem (by rw [HLen.out]; omega)]; simp [byteV, byteI, List.getD_eq_getElem?_getD, List.getElem?_eq_getElem (show p + i < all.length by rw [HLen.out]; omega)])) (show ¬ bk = w5.heap.size from HB4.out ⟨bk, off, none⟩ rfl))).mono ?_
             rintro e w7 ⟨rfl, b7⟩
             have hW7 := (Whole.fr (Whole.fr HW.out ((Fr.refl (fun _ => False) wr).drew) (fun e => e)) (Fr.of_below (S := fun _ => False) b7) (fun e => e))
             obtain ⟨w8, hst, hw8, hf8⟩ := run_storeCells_whole (P := Tryd.prog) (o := 0) (blk (stN all k) (blockAt all k)).vals hW7 (by rw [S8.size, S8.size]; decide) (S8.one _)
             have hs8 := S8.size (blk (stN all k) (blockAt all k))))
        replace hw8 := S8.laid hw8
        have hF8 := (HFR.out.drew.trans (Fr.of_below (S := fun _ => False) b7) (fun _ _ e => e.elim)).trans hf8 (fun _ _ e => e)
        have HW8 := Lib.hid hw8
        have HF8 := Lib.hid hF8
        clear hw8 hF8 hst hs8 c0 c1 c2 c3 c4' c5 c6 c7 b7 hf8 hW7
        go_wp2_with fail
        go_roundw
        case rel => exact ⟨k + 1, by omega, by rw [show 64 * (k + 1) = p + 64 by omega]; go_num, HW8.out, HF8.out⟩
        case measure => simp [intOf]; omega
    · have hpL : p = L := by omega
      subst hpL
      have hkL : p / 64 = k := by omega
      have hsum := HSum.out
      rw [hkL] at hsum
      have HS2 := Lib.hid hsum
      have HW := Lib.hid hw
      have HFR := Lib.hid hf
      clear hw hf hsum
      obtain ⟨s, hs⟩ : ∃ s, stN all k = s := ⟨_, rfl⟩
      have hok : s.ok := by rw [← hs]; exact stN_ok all k
      rw [hs] at HW HS2
      clear hs
      obtain ⟨w9, rfl⟩ : ∃ w9, w9 = wr := ⟨_, rfl⟩
      have hwlt := HFR.out.size
      obtain ⟨wa, hwa⟩ : ∃ wa, w9.alloc (.cells zero32 38) = wa := ⟨_, rfl⟩
      have hG : Whole wa w9.heap.size 38 (arrF (fun _ => 0)) := by subst hwa; exact Whole.new w9 38 zero32
      have hFa : Fr (fun _ => False) w9 wa := by subst hwa; exact (Fr.refl _ w9).alloc _
      have HG := Lib.hid hG
      have HWa := Lib.hid (Whole.fr HW.out hFa (fun e => e))
      have HFa := Lib.hid ((HFR.out).trans hFa (fun _ _ e => e.elim))
      unfold zero32 at hwa
      simp [List.replicate] at hwa
      clear hG hFa
      go_wp2_with fail
      clear hwa
      go_loopw [7] (fun i wr => ∃ (t : Nat) (f : Nat → Int), t ≤ 8 ∧ i = .int .i64 t ∧ (∀ i, i < 4 * t → f i = idN s i) ∧ Whole wr w9.heap.size 38 (arrF f) ∧ Whole wr w5.heap.size 23 s.vals ∧ Fr (fun j => j = w5.heap.size) w6 wr) (fun i _ => 8 - (intOf i).toNat)
      case atStart => exact ⟨0, fun _ => 0, by omega, rfl, fun i hi => by omega, HG.out, HWa.out, HFa.out⟩
      case round =>
        clear HG HWa HFa
        obtain ⟨t, f, ht, rfl, hf, hg, hs, hfr2⟩ := hrel
        by_cases hlt2 : t < 8
        · obtain ⟨x, hx⟩ : ∃ x, s.nums.getD t 0 = x := ⟨_, rfl⟩
          obtain ⟨hx0, hx1⟩ := S8.ok_get hok t
          rw [hx] at hx0 hx1
          have cx : wr.cell? ⟨w5.heap.size, t, none⟩ = some (.int .u32 x) := by
            rw [hs.cell, ← hx]
            show (s.nums.map num).toArray[t]? = _
            rw [List.getElem?_toArray, List.getElem?_map, List.getD_eq_getElem?_getD, List.getElem?_eq_getElem (show t < s.nums.length from hlt2)]
            rfl
          have i0' := idN_0 s t
          have i1' := idN_1 s t
          have i2' := idN_2 s t
          have i3' := idN_3 s t
          rw [hx] at i0' i1' i2' i3'
          rw [show x / 16777216 = x / 256 / 256 / 256 by omega] at i0'
          rw [show x / 65536 = x / 256 / 256 by omega] at i1'
          have g0 := hg.cell (4 * t)
          have g1 := hg.cell (4 * t + 1)
          have g2 := hg.cell (4 * t + 2)
          have g3 := hg.cell (4 * t + 3)
          rw [arrF_get _ _ (by omega)] at g0 g1 g2 g3
          have k0 := hg.frozen (4 * t)
          have k1 := hg.frozen (4 * t + 1)
          have k2 := hg.frozen (4 * t + 2)
          have k3 := hg.frozen (4 * t + 3)
          have hdone : ∀ i, i < 4 * (t + 1) → (fun i => if i = 4 * t then x / 256 / 256 / 256 % 256 else (fun i => if i = 4 * t + 1 then x / 256 / 256 % 256 else (fun i => if i = 4 * t + 2 then x / 256 % 256 else (fun i => if i = 4 * t + 3 then x % 256 else f i) i) i) i) i = idN s i := by
            intro i hi
            simp only []
            split
            · subst_vars; exact i0'.symm
            · split
              · subst_vars; exact i1'.symm
              · split
                · subst_vars; exact i2'.symm
                · split
                  · subst_vars; exact i3'.symm
                  · exact hf i (by omega)
          have hW := (((hg.set (4 * t + 3) (.int .u8 (x % 256))).set (4 * t + 2) (.int .u8 (x / 256 % 256))).set (4 * t + 1) (.int .u8 (x / 256 / 256 % 256))).set (4 * t) (.int .u8 (x / 256 / 256 / 256 % 256))
          rw [arrF_set _ _ _ (by omega), arrF_set _ _ _ (by omega), arrF_set _ _ _ (by omega), arrF_set _ _ _ (by omega)] at hW
          have HWn := Lib.hid hW
          have HDn := Lib.hid hdone
          have HSn := Lib.hid hs
          have HFn := Lib.hid hfr2
          clear hW hdone hs hfr2 hg hf i0' i1' i2' i3'
          go_wp2_with fail
          refine wp_loop_rounds 5 ?_
          rw [rounds_succ]
          go_wp2_with fail
          rw [rounds_succ]
          go_wp2_with fail
          rw [rounds_succ]
          go_wp2_with fail
          rw [rounds_succ]
          go_wp2_with fail
          rw [rounds_succ]
          go_wp2_with fail
          go_roundw
          case rel => exact ⟨t + 1, _, by omega, by go_num, HDn.out, HWn.out, Whole.fr HSn.out (((((Fr.refl (fun j => j = w9.heap.size) wr).setCell (p := ⟨w9.heap.size, 4 * t + 3, none⟩) (fun _ => rfl) _).setCell (p := ⟨w9.heap.size, 4 * t + 2, none⟩) (fun _ => rfl) _).setCell (p := ⟨w9.heap.size, 4 * t + 1, none⟩) (fun _ => rfl) _).setCell (p := ⟨w9.heap.size, 4 * t, none⟩) (fun _ => rfl) _) (by omega),
            (((HFn.out.setCell (p := ⟨w9.heap.size, 4 * t + 3, none⟩) (fun e => absurd e (by show ¬ w9.heap.size < w6.heap.size; omega)) _).setCell (p := ⟨w9.heap.size, 4 * t + 2, none⟩) (fun e => absurd e (by show ¬ w9.heap.size < w6.heap.size; omega)) _).setCell (p := ⟨w9.heap.size, 4 * t + 1, none⟩) (fun e => absurd e (by show ¬ w9.heap.size < w6.heap.size; omega)) _).setCell (p := ⟨w9.heap.size, 4 * t, none⟩) (fun e => absurd e (by show ¬ w9.heap.size < w6.heap.size; omega)) _⟩
          case measure => simp [intOf]; omega
        · obtain rfl : t = 8 := by omega
          have hZs := HS2.out
          have hdn := arrF_done f s (fun i hi => hf i (by omega))
          rw [hdn] at hg
          have hz := Whole.fr (HZ.out) (HF6.out) (fun e => e)
          have hz2 := hz.fr hfr2 (show ¬ w.heap.size = w5.heap.size by have := HW5.out; omega)
          have HSV := Lib.hid hZs
          clear hZs hz hf hdn
          go_wp2_with (first
            | (refine wpList_load_row rfl 38 _ rfl _ rfl 38 _ _ _ hg Tryd.underlying38 rfl (by rw [idC_size _ _ (by omega)]; exact size32) ?_)
            | (refine wpList_store_at rfl 38 _ _ rfl w.heap.size 0 38 _ (idC s 32) rfl rfl hz2 (by rw [idC_size _ _ (by omega)]; decide) (by rw [idC_size _ _ (by omega)]; exact size32) (idC_one _ _) ?_
               intro w12 hw12 hf12))
          rw [laidAt_all zero32 (idC s 32) (by rw [idC_size _ _ (by omega)]; rfl)] at hw12
          rw [HSV.out]
          refine bodyPost_ret (v := .agg (idC s 32)) (results_cell_row (p := 2) rfl _ _ _ _ _ _ _ rfl hw12 Tryd.underlying38 rfl (by rw [idC_size _ _ (by omega)]; exact size32)) rfl ?_
          refine ⟨rfl, (((HF.out.trans HF6.out (fun _ _ e => e)).trans hfr2 (fun i hi e => ?_)).trans hf12 (fun i hi e => by omega)).below (fun _ _ e => e)⟩
          have := HF.out.size
          have := HW5.out
          omega
end Go.Proofs.YtbbjappmaigobaaDoor

/- What is proved: Make of the document. Conditions: the texts' bytes are there, at most 4000 each. -/
import Derived.Test.YthjfkeploofblaaDga
import Derived.Test.YthjfkeploofblaaDei
import Derived.Test.YthjfkeploofblaaDej
import Derived.Deep.Cut
import Derived.Deep.RegionWith
namespace Go.Proofs.Ythjfkeploofblaa
open Go.RowKit
set_option linter.unusedVariables false

theorem lies_above {C : Option Addr} {zs : List UInt8} {w0 w' : World} {S : Nat → Prop} (l : Lies w0 C (bytesV zs)) (f : Fr S w0 w') (hS : ∀ j, S j → w0.heap.size ≤ j) : Lies w' C (bytesV zs) := by
  rcases l with h0 | ⟨b', o', hB', hcl⟩
  · exact .inl h0
  · refine .inr ⟨b', o', hB', fun j u hu => f.cell (hcl j u hu) (fun e => ?_)⟩
    have h1 := World.block_lt_of_cell? w0 ⟨b', o' + j, none⟩ (hcl j u hu)
    have h2 := hS _ e
    simp at h1 h2
    omega

set_option maxHeartbeats 12800000 in
set_option maxRecDepth 100000 in
theorem QDMake_any (A B : Option Addr) (c d : Nat) (xs ys : List UInt8) (h1 : xs.length ≤ 4000) (h2 : ys.length ≤ 4000) (hc : xs.length ≤ c) (hd : ys.length ≤ d) (w : World) (ha : Lies w A (bytesV xs)) (hb : Lies w B (bytesV ys)) :
    Calls Try.prog 20 #[.slice A xs.length c, .slice B ys.length d] w fun e w' => ∃ A' c' ps, e = .returned (.tuple #[.agg #[.int .i64 xs.length, .int .i64 ys.length, .slice A' ps.length c'], .int .i64 0]) ∧ Scr w' A' c' ps ∧ opsO ps = makeO xs ys ∧ Below w.heap.size w w' := by
  obtain ⟨X, hX⟩ : ∃ X, xs.length = X := ⟨_, rfl⟩
  obtain ⟨Y, hY⟩ : ∃ Y, ys.length = Y := ⟨_, rfl⟩
  have HX := Lib.hid hX
  have HY := Lib.hid hY
  obtain ⟨w1, hw1⟩ : ∃ w1, w.alloc (.cells #[.int .i64 0, .int .i64 0, .slice none 0 0] 34) = w1 := ⟨_, rfl⟩
  have HF1 := Lib.hid (show Fr (fun _ => False) w w1 by subst hw1; exact (Fr.refl _ _).alloc _)
  have HW1 := Lib.hid (show Whole w1 w.heap.size 34 #[.int .i64 0, .int .i64 0, .slice none 0 0] by subst hw1; exact Whole.new _ _ _)
  have HS1 := Lib.hid (show w1.heap.size = w.heap.size + 1 by subst hw1; simp)
  have HBg := Lib.hid (fun (i k : Nat) (hi : i ≤ xs.length) (hk : k ≤ ys.length) w' (la : Lies w' A (bytesV xs)) (lb : Lies w' B (bytesV ys)) => QDbegins_any A B c d xs ys i k (by omega) (by omega) hi hk w' la lb)
  unfold Ans at HBg
  have HA := Lib.hid ha
  have HB := Lib.hid hb
  rw [hX] at h1 hc ⊢
  rw [hY] at h2 hd ⊢
  simp only [hX, hY] at HBg
  obtain ⟨i0, gi, gz0, gz1, gz2⟩ := info_parts infoQO
  obtain ⟨i1, ki, kz0, kz1, kz2⟩ := info_parts info_u8
  clear ha hb hX hY
  go_enter Try.func20, Try.ntmps20
  go_upto_region 4 with fail
  obtain ⟨w2, hw2⟩ : ∃ w2, w1.alloc (.cells #[.int .i64 X, .int .i64 Y, .slice none 0 0] 34) = w2 := ⟨_, rfl⟩
  rw [hw2]
  have HF2 := Lib.hid (show Fr (fun _ => False) w1 w2 by subst hw2; exact (Fr.refl _ _).alloc _)
  have HW2 := Lib.hid (show Whole w2 w1.heap.size 34 #[.int .i64 X, .int .i64 Y, .slice none 0 0] by subst hw2; exact Whole.new _ _ _)
  have HS2 := Lib.hid (show w2.heap.size = w1.heap.size + 1 by subst hw2; simp)
  obtain ⟨sb, hsb⟩ : ∃ sb, w1.heap.size = sb := ⟨_, rfl⟩
  have HSb := Lib.hid (show w.heap.size < sb ∧ sb < w2.heap.size from by have := HS1.out; have := HS2.out; omega)
  rw [hsb] at HW2 ⊢
  have HF02 := Lib.hid (HF1.out.trans HF2.out (fun _ _ e => e))
  have HWr := Lib.hid (HW1.out.fr HF2.out (fun e => e))
  clear hw2 hw1 hsb
  go_wp2_with fail
  go_loopw [7, 8] (fun fv i wr => ∃ (k : Nat) (v : Value) (qs : List POp) (fr : List UInt8), k ≤ Y ∧ i = .int .i64 k ∧ qs.length ≤ 2 * k ∧ fr.length ≤ k ∧ Hid (MkQ w2 wr v qs fv fr) ∧ Hid (Whole wr sb 34 #[.int .i64 X, .int .i64 Y, v]) ∧ Hid (restM xs ys k (flushO (opsO qs) fr) = makeO xs ys) ∧ Hid (LastC (opsO qs)) ∧ Hid (Fr (fun j => j = sb) w2 wr)) (fun _ i _ => Y - (intOf i).toNat)
  case atStart => exact ⟨0, .slice none 0 0, [], [], by omega, rfl, by simp, by simp, Lib.hid (MkQ.nil w2), HW2, Lib.hid rfl, Lib.hid lastC_nil, Lib.hid (Fr.refl _ _)⟩
  case round =>
    obtain ⟨k, v, qs, fr, hk, rfl, hql, hfl, HM, HW, HI, HL, HF⟩ := hrel
    have hk1 : (0 : Int) ≤ k := by omega
    have HFw := Lib.hid (show Fr (fun j => j = sb) w wr from (HF02.out.mono (T := fun j => j = sb) (fun _ _ e => e.elim)).trans HF.out (fun _ _ e => e))
    have HAr := Lib.hid (lies_above HA.out HFw.out (fun j e => by have := HSb.out; omega))
    have HBr := Lib.hid (lies_above HB.out HFw.out (fun j e => by have := HSb.out; omega))
    obtain ⟨Av, cv, hv, -⟩ := Mq.slice HM.out.mq
    subst hv
    obtain ⟨Af, cf, hv, -, -⟩ := own_slice HM.out.row
    subst hv
    obtain ⟨LQ, hLQ⟩ : ∃ LQ, qs.length = LQ := ⟨_, rfl⟩
    have HLQ := Lib.hid hLQ
    obtain ⟨FL, hFL⟩ : ∃ FL, fr.length = FL := ⟨_, rfl⟩
    have HFL := Lib.hid hFL
    rw [hLQ] at HW hql
    rw [hFL] at hfl
    have HMr := Lib.hid (show wr.ownsRow w2.heap.size 5 1 (.slice Af FL cf) FL (bytesV fr) from by have := HM.out.row; rwa [hFL] at this)
    rw [hLQ, hFL] at HM
    rw [hFL]
    clear hLQ hFL
    by_cases hlt : k < Y
    · have hk2 : (k : Int) < Y := by omega
      obtain ⟨TX, hTX⟩ : ∃ TX, ys.drop k = TX := ⟨_, rfl⟩
      have HTX := Lib.hid hTX
      have HBk := Lib.hid (fun i (hi : i ≤ X) w' la lb => by have := HBg.out i k hi (by omega) w' la lb; rw [hTX] at this; exact this)
      clear hTX
      go_wp2_with fail
      go_loopw [9, 10, 11] (fun f n i wx => ∃ (m : Nat) (r : Nat × Nat), m ≤ X ∧ i = .int .i64 m ∧ f = .int .i64 r.1 ∧ n = .int .i64 r.2 ∧ Hid (bestK xs TX m = r) ∧ Hid (Fr (fun _ => False) wr wx)) (fun _ _ i _ => X - (intOf i).toNat)
      case atStart => exact ⟨0, (0, 0), by omega, rfl, rfl, rfl, Lib.hid rfl, Lib.hid (Fr.refl _ _)⟩
      case round =>
        obtain ⟨m, ⟨f, n⟩, hm, rfl, rfl, rfl, HR, HFx⟩ := hrel
        have hm1 : (0 : Int) ≤ m := by omega
        by_cases hmt : m < X
        · have hm2 : (m : Int) < X := by omega
          obtain ⟨lc, hlc⟩ : ∃ lc, lcp (xs.drop m) TX = lc := ⟨_, rfl⟩
          have HLc := Lib.hid hlc
          have HBm := Lib.hid (HBk.out m hm wr (HAr.out.fr HFx.out (fun _ _ e => e)) (HBr.out.fr HFx.out (fun _ _ e => e)))
          rw [hlc] at HBm
          clear hlc
          by_cases hln : n < lc
          · have hln' : (n : Int) < lc := by omega
            go_wp2_with (go_at_call 48; refine HBm.out.mono ?_; rintro e w3 ⟨rfl, b3⟩; have HF3 := Lib.hid (HFx.out.then_below b3); clear b3)
            go_roundw
            case rel => exact ⟨m + 1, (m, lc), by omega, by go_num, rfl, rfl, Lib.hid (by rw [bestK_succ, HR.out, if_pos (by rw [HLc.out]; exact hln), HLc.out]), HF3⟩
            case measure => simp [intOf]; omega
          · have hln' : ¬ (n : Int) < lc := by omega
            go_wp2_with (go_at_call 48; refine HBm.out.mono ?_; rintro e w3 ⟨rfl, b3⟩; have HF3 := Lib.hid (HFx.out.then_below b3); clear b3)
            go_roundw
            case rel => exact ⟨m + 1, (f, n), by omega, by go_num, rfl, rfl, Lib.hid (by rw [bestK_succ, HR.out, if_neg (by rw [HLc.out]; exact hln)]), HF3⟩
            case measure => simp [intOf]; omega
        · obtain rfl : X = m := by omega
          have HBest := Lib.hid (show bestO xs (ys.drop k) = (f, n) from by unfold bestO; rw [HX.out, HTX.out]; exact HR.out)
          have hble : n ≤ Y - k ∧ f + n ≤ X := by
            have h3 := bestK_le xs TX X (by rw [HX.out]; exact Nat.le_refl _)
            rw [HR.out] at h3
            have h4 : TX.length = Y - k := by rw [← HTX.out, List.length_drop, HY.out]
            rw [HX.out, h4] at h3
            exact h3
          have HMx := Lib.hid (HM.out.fr HFx.out)
          have HWx := Lib.hid (HW.out.fr HFx.out (fun e => e))
          have HFX := Lib.hid (show Fr (fun j => j = sb) w2 wr from HF.out.trans HFx.out (fun i hi e => e.elim))
          have HMrx := Lib.hid (own_fr HMr.out HFx.out (fun _ _ e => e))
          have HSx := Lib.hid (show w2.heap.size ≤ wr.heap.size from HFX.out.size)
          by_cases h6 : n < 6
          · have h6' : (n : Int) < 6 := by omega
            obtain ⟨cb, hcb⟩ : ∃ cb, ys[k]? = some cb := ⟨ys[k]'(by rw [HY.out]; exact hlt), List.getElem?_eq_getElem (by rw [HY.out]; exact hlt)⟩
            obtain ⟨bb, bo, hBe, hcell⟩ := (HBr.out.fr HFx.out (fun _ _ e => e)).byteAt hcb
            have HI2 := Lib.hid (show restM xs ys (k + 1) (flushO (opsO qs) (fr ++ [cb])) = makeO xs ys from by
              have h7 := restM_new xs ys k (flushO (opsO qs) fr) (by rw [HY.out]; exact hlt) (by rw [HBest.out]; simp only; omega)
              rw [show ys.getD k 0 = cb by rw [List.getD_eq_getElem?_getD, hcb]; rfl, flush_new _ _ _ HL.out] at h7
              rw [← h7]
              exact HI.out)
            subst hBe
            clear hcb
            go_wp2_with (first
              | (at_builtin; refine wpList_append_row _ rfl (.tmp 49) (.tmp 54) 26 26 rfl w2.heap.size 5 i1 (.int .u8 0) 1 1 Try.underlying26 ki kz0 kz1 kz2 rfl _ FL _ rfl (HMrx.out.alloc _) _ 1 _ rfl (src_one _ _) (by unfold maxLen; omega) (by omega) (by have := HSx.out; simp; omega) ?_
                 intro v10 w10 o10 g10 at10
                 have HO10 := Lib.hid o10
                 have HF10 := Lib.hid (show Fr (fun j => Value.ownBlock (.slice Af FL cf) = some j) wr w10 from ((Fr.refl _ wr).alloc _).grown g10 (fun j hj _ => hj))
                 have HA10 := Lib.hid (show v10.ownBlock = Value.ownBlock (.slice Af FL cf) ∨ ∃ j, v10.ownBlock = some j ∧ wr.heap.size ≤ j from at10.imp id (fun e => ⟨_, e, by simp⟩))
                 obtain ⟨A10, k10, hv10, _, _⟩ := own_slice o10
                 subst hv10
                 clear o10 g10 at10))
            go_roundw
            case rel =>
              refine ⟨k + 1, _, qs, fr ++ [cb], by omega, by go_num, by rw [HLQ.out]; omega, by rw [List.length_append, HFL.out]; simp; omega, Lib.hid (MkQ.grow HMx.out (by rw [HFL.out]; exact HO10.out) HF10.out HA10.out), Lib.hid (HWx.out.fr HF10.out (fun e => by have := (World.ownsRow.lt HMrx.out _ e).1; have := HSb.out; omega)), HI2, HL, Lib.hid ?_⟩
              exact HFX.out.trans HF10.out (fun i hi e => by have := (World.ownsRow.lt HMrx.out _ e).1; omega)
            case measure => simp [intOf]; omega
          · have h6' : ¬ (n : Int) < 6 := by omega
            have hR := restM_copy xs ys k (flushO (opsO qs) fr) (by rw [HY.out]; exact hlt) (by rw [HBest.out]; simp only; omega)
            rw [HBest.out, HI.out] at hR
            have HRc := Lib.hid hR
            have HSrc : Hid (∀ w : World, Src Try.prog 4 32 (.slice (some ⟨w.heap.size, 0, none⟩) 1 1) 1 [.bool true, .int .i64 f, .int .i64 n, .slice none 0 0] (w.alloc (.cells #[.bool true, .int .i64 f, .int .i64 n, .slice none 0 0] 66))) := Lib.hid (fun w => src_op w 32 66 Try.underlying32 ⟨⟨true, f, n, []⟩, none, 0⟩)
            clear hR
            by_cases hF0 : FL = 0
            · subst hF0
              have HfN := Lib.hid (show fr = [] from List.eq_nil_of_length_eq_zero HFL.out)
              have HIc := Lib.hid (show restM xs ys (k + n) (flushO (opsO qs ++ [copyO f n]) fr) = makeO xs ys from by
                have h7 := HRc.out
                rw [HfN.out] at h7 ⊢
                exact h7.symm)
              have HOc := Lib.hid (show wr.ownsRow w2.heap.size 66 4 (.slice Av LQ cv) (LQ) (flatP (qs)) from by have := HMx.out.mq.own; rwa [show (qs).length = LQ by simp [HLQ.out]] at this)
              have HSx := Lib.hid (show w2.heap.size ≤ wr.heap.size from HFX.out.size)
              obtain ⟨c0, c1, c2⟩ := HWx.out.three
              go_wp2_with (first
                | (at_builtin; refine wpList_append_row _ rfl (.tmp 69) (.tmp 73) 32 32 rfl w2.heap.size 66 i0 (.agg zeroO) 4 48 Try.underlying32 gi gz0 gz1 gz2 rfl _ (LQ) _ rfl (HOc.out.alloc _) _ 1 _ rfl (HSrc.out _) (by unfold maxLen; omega) (by omega) (by have := HSx.out; simp; omega) ?_
                   intro v20 w20 o20 g20 at20
                   have HO20 := Lib.hid o20
                   have HF20 := Lib.hid (show Fr (fun j => Value.ownBlock (.slice Av LQ cv) = some j) wr w20 from ((Fr.refl _ wr).alloc _).grown g20 (fun j hj _ => hj))
                   have HA20 := Lib.hid (show v20.ownBlock = Value.ownBlock (.slice Av LQ cv) ∨ ∃ j, v20.ownBlock = some j ∧ wr.heap.size ≤ j from at20.imp id (fun e => ⟨_, e, by simp⟩))
                   obtain ⟨A20, k20, hv20, _, _⟩ := own_slice o20
                   subst hv20
                   have HW20 := Lib.hid (HWx.out.fr HF20.out (fun e => by have := (World.ownsRow.lt HOc.out _ e).1; have := HSb.out; omega))
                   have e20 : w20.cell? ⟨sb, 2, none⟩ = some (.slice Av LQ cv) := by { rw [HW20.out.cell]; rfl }
                   have z20 : w20.frozen? ⟨sb, 2, none⟩ = false := HW20.out.frozen 2
                   clear o20 g20 at20))
              go_roundw
              case rel =>
                have fset : Fr (fun j => j = sb) w20 (w20.setCell ⟨sb, 2, none⟩ (.slice A20 (LQ + 1) k20)) := Fr.setCell (S := fun j => j = sb) (p := ⟨sb, 2, none⟩) (Fr.refl _ w20) (fun _ => rfl) _
                have hM20 := MkQ.copy (p := ⟨⟨true, (f : Int), (n : Int), []⟩, none, 0⟩) HMx.out ⟨⟨by simp only; omega, by simp only; omega⟩, ⟨by simp only; omega, by simp only; omega⟩, Nat.le_refl _, Nat.zero_le _, .inl rfl⟩ rfl (v6 := .slice A20 (LQ + 1) k20) (by rw [show (qs).length = LQ by simp [HLQ.out]]; exact HO20.out) HF20.out HA20.out
                refine ⟨k + n, _, (qs) ++ [⟨⟨true, (f : Int), (n : Int), []⟩, none, 0⟩], fr, by omega, by go_num, ?_, by rw [HFL.out]; omega, Lib.hid (hM20.frS fset (fun j e => by have := HSb.out; omega)), Lib.hid (HW20.out.set 2 _), Lib.hid ?_, Lib.hid (by rw [opsO_append]; exact lastC_copy _ f n), Lib.hid ?_⟩
                · simp only [List.length_append, HLQ.out, List.length_singleton]; omega
                · rw [opsO_append]
                  exact HIc.out
                · exact (HFX.out.trans HF20.out (fun i hi e => by have := (World.ownsRow.lt HOc.out _ e).1; omega)).trans fset (fun i hi e => e)
              case measure => simp [intOf]; omega
            · have hF1 : (0 : Int) < FL := by omega
              have HfN := Lib.hid (show fr ≠ [] from fun e => hF0 (by rw [← HFL.out, e]; rfl))
              have HIc := Lib.hid (show restM xs ys (k + n) (flushO (opsO (qs ++ [⟨newO fr, Af, cf⟩]) ++ [copyO f n]) []) = makeO xs ys from by
                have h7 := HRc.out
                rw [flushO, if_neg HfN.out] at h7
                rw [opsO_append]
                exact h7.symm)
              have HSrF : Hid (∀ w : World, Src Try.prog 4 32 (.slice (some ⟨w.heap.size, 0, none⟩) 1 1) 1 [.bool false, .int .i64 0, .int .i64 0, .slice Af FL cf] (w.alloc (.cells #[.bool false, .int .i64 0, .int .i64 0, .slice Af FL cf] 66))) := Lib.hid (fun w => by
                have := src_op w 32 66 Try.underlying32 ⟨newO fr, Af, cf⟩
                simpa only [POp.cells, newO, HFL.out] using this)
              have HOf := Lib.hid (show wr.ownsRow w2.heap.size 66 4 (.slice Av LQ cv) LQ (flatP qs) from by have := HMx.out.mq.own; rwa [HLQ.out] at this)
              obtain ⟨c0, c1, c2⟩ := HWx.out.three
              go_upto_region 20 with (first
                | (at_builtin; refine wpList_append_row _ rfl (.tmp 62) (.tmp 65) 32 32 rfl w2.heap.size 66 i0 (.agg zeroO) 4 48 Try.underlying32 gi gz0 gz1 gz2 rfl _ LQ _ rfl (HOf.out.alloc _) _ 1 _ rfl (HSrF.out _) (by unfold maxLen; omega) (by omega) (by have := HSx.out; simp; omega) ?_
                   intro v12 w12 o12 g12 at12
                   have HO12 := Lib.hid o12
                   have HF12 := Lib.hid (show Fr (fun j => Value.ownBlock (.slice Av LQ cv) = some j) wr w12 from ((Fr.refl _ wr).alloc _).grown g12 (fun j hj _ => hj))
                   have HA12 := Lib.hid (show v12.ownBlock = Value.ownBlock (.slice Av LQ cv) ∨ ∃ j, v12.ownBlock = some j ∧ wr.heap.size ≤ j from at12.imp id (fun e => ⟨_, e, by simp⟩))
                   obtain ⟨A12, k12, hv12, _, _⟩ := own_slice o12
                   subst hv12
                   have HW12 := Lib.hid (HWx.out.fr HF12.out (fun e => by have := (World.ownsRow.lt HOf.out _ e).1; have := HSb.out; omega))
                   have e12 : w12.cell? ⟨sb, 2, none⟩ = some (.slice Av LQ cv) := by { rw [HW12.out.cell]; rfl }
                   have z12 : w12.frozen? ⟨sb, 2, none⟩ = false := HW12.out.frozen 2
                   clear o12 g12 at12))
              obtain ⟨w13, hw13⟩ : ∃ w13, w12.setCell ⟨sb, 2, none⟩ (.slice A12 (LQ + 1) k12) = w13 := ⟨_, rfl⟩
              rw [hw13]
              have HF13 := Lib.hid (show Fr (fun j => j = sb) w12 w13 by subst hw13; exact Fr.setCell (S := fun j => j = sb) (p := ⟨sb, 2, none⟩) (Fr.refl _ w12) (fun _ => rfl) _)
              have HW13 := Lib.hid (show Whole w13 sb 34 #[.int .i64 X, .int .i64 Y, .slice A12 (LQ + 1) k12] by subst hw13; exact HW12.out.set 2 _)
              have HM13 := Lib.hid ((MkQ.flush (v6 := .slice A12 (LQ + 1) k12) (by rw [HFL.out]; exact HMx.out) (by rw [HLQ.out]; simpa only [POp.cells, newO, HFL.out] using HO12.out) HF12.out HA12.out).frS HF13.out (fun j e => by have := HSb.out; omega))
              have HFX13 := Lib.hid ((HFX.out.trans HF12.out (fun i hi e => by have := (World.ownsRow.lt HOf.out _ e).1; omega)).trans HF13.out (fun i hi e => e))
              clear hw13 c0 c1 c2 e12 z12
              have HOc := Lib.hid (show w13.ownsRow w2.heap.size 66 4 (.slice A12 (LQ + 1) k12) (LQ + 1) (flatP (qs ++ [⟨newO fr, Af, cf⟩])) from by have := HM13.out.mq.own; rwa [show (qs ++ [(⟨newO fr, Af, cf⟩ : POp)]).length = LQ + 1 by simp [HLQ.out]] at this)
              have HSx := Lib.hid (show w2.heap.size ≤ w13.heap.size from HFX13.out.size)
              obtain ⟨c0, c1, c2⟩ := HW13.out.three
              go_wp2_with (first
                | (at_builtin; refine wpList_append_row _ rfl (.tmp 69) (.tmp 73) 32 32 rfl w2.heap.size 66 i0 (.agg zeroO) 4 48 Try.underlying32 gi gz0 gz1 gz2 rfl _ (LQ + 1) _ rfl (HOc.out.alloc _) _ 1 _ rfl (HSrc.out _) (by unfold maxLen; omega) (by omega) (by have := HSx.out; simp; omega) ?_
                   intro v20 w20 o20 g20 at20
                   have HO20 := Lib.hid o20
                   have HF20 := Lib.hid (show Fr (fun j => Value.ownBlock (.slice A12 (LQ + 1) k12) = some j) w13 w20 from ((Fr.refl _ w13).alloc _).grown g20 (fun j hj _ => hj))
                   have HA20 := Lib.hid (show v20.ownBlock = Value.ownBlock (.slice A12 (LQ + 1) k12) ∨ ∃ j, v20.ownBlock = some j ∧ w13.heap.size ≤ j from at20.imp id (fun e => ⟨_, e, by simp⟩))
                   obtain ⟨A20, k20, hv20, _, _⟩ := own_slice o20
                   subst hv20
                   have HW20 := Lib.hid (HW13.out.fr HF20.out (fun e => by have := (World.ownsRow.lt HOc.out _ e).1; have := HSb.out; omega))
                   have e20 : w20.cell? ⟨sb, 2, none⟩ = some (.slice A12 (LQ + 1) k12) := by { rw [HW20.out.cell]; rfl }
                   have z20 : w20.frozen? ⟨sb, 2, none⟩ = false := HW20.out.frozen 2
                   clear o20 g20 at20))
              go_roundw
              case rel =>
                have fset : Fr (fun j => j = sb) w20 (w20.setCell ⟨sb, 2, none⟩ (.slice A20 (LQ + 1 + 1) k20)) := Fr.setCell (S := fun j => j = sb) (p := ⟨sb, 2, none⟩) (Fr.refl _ w20) (fun _ => rfl) _
                have hM20 := MkQ.copy (p := ⟨⟨true, (f : Int), (n : Int), []⟩, none, 0⟩) HM13.out ⟨⟨by simp only; omega, by simp only; omega⟩, ⟨by simp only; omega, by simp only; omega⟩, Nat.le_refl _, Nat.zero_le _, .inl rfl⟩ rfl (v6 := .slice A20 (LQ + 1 + 1) k20) (by rw [show (qs ++ [(⟨newO fr, Af, cf⟩ : POp)]).length = LQ + 1 by simp [HLQ.out]]; exact HO20.out) HF20.out HA20.out
                refine ⟨k + n, _, (qs ++ [⟨newO fr, Af, cf⟩]) ++ [⟨⟨true, (f : Int), (n : Int), []⟩, none, 0⟩], [], by omega, by go_num, ?_, by simp, Lib.hid (hM20.frS fset (fun j e => by have := HSb.out; omega)), Lib.hid (HW20.out.set 2 _), Lib.hid ?_, Lib.hid (by rw [opsO_append]; exact lastC_copy _ f n), Lib.hid ?_⟩
                · simp only [List.length_append, HLQ.out, List.length_singleton]; omega
                · rw [opsO_append]
                  exact HIc.out
                · exact (HFX13.out.trans HF20.out (fun i hi e => by have := (World.ownsRow.lt HOc.out _ e).1; omega)).trans fset (fun i hi e => e)
              case measure => simp [intOf]; omega
    · obtain rfl : Y = k := by omega
      have HD := Lib.hid (show flushO (opsO qs) fr = makeO xs ys from by have := HI.out; rwa [restM_end _ _ _ _ (by rw [HY.out]; exact Nat.le_refl _)] at this)
      by_cases hF0 : FL = 0
      · subst hF0
        have HfN := Lib.hid (show fr = [] from List.eq_nil_of_length_eq_zero HFL.out)
        have HQ0 := Lib.hid HM.out.mq
        have HE := Lib.hid (show opsO qs = makeO xs ys from by have := HD.out; rwa [flushO, if_pos HfN.out] at this)
        have HQx := HQ0
        have HLx := HLQ
        (
          have HWs := Lib.hid (HWr.out.fr HF.out (fun e => by have := HSb.out; omega))
          obtain ⟨s0, s1, s2⟩ := HW.out.three
          (
            obtain ⟨e0, e1, e2⟩ := HWs.out.three
            have z0 := HWs.out.frozen 0
            have z1 := HWs.out.frozen 1
            have z2 := HWs.out.frozen 2)
          go_wp2_with fail
          refine bodyPost_ret (v := .tuple #[.agg #[.int .i64 X, .int .i64 Y, .slice Av LQ cv], .int .i64 0]) (results_cell_slot (p := 4) (u := 5) rfl _ _ _ _ _ _ rfl (setScr_whole HWs.out) Try.underlying34 rfl (by kernel_rfl)) rfl ?_
          have fset := setScr_fr wr w.heap.size (.int .i64 X) (.int .i64 Y) (.slice Av LQ cv)
          obtain ⟨A9, c9, hv9, sc9, -⟩ := (HQx.out.frS fset (fun j e => by have := HSb.out; omega)).slice
          rw [HLx.out] at hv9
          injection hv9 with q1 q2 q3
          subst q1; subst q3
          exact ⟨Av, cv, qs, by rw [HLx.out], sc9, HE.out, ((HFw.out.mono (T := fun j => w.heap.size ≤ j) (fun j _ e => by have := HSb.out; omega)).trans fset (fun i hi e => by omega)).below (fun i hi e => by omega)⟩)
      · have hF1 : (0 : Int) < FL := by omega
        have HfN := Lib.hid (show fr ≠ [] from fun e => hF0 (by rw [← HFL.out, e]; rfl))
        have HE := Lib.hid (show opsO (qs ++ [⟨newO fr, Af, cf⟩]) = makeO xs ys from by
          have h7 := HD.out
          rw [flushO, if_neg HfN.out] at h7
          rw [opsO_append]
          exact h7)
        have HSrF : Hid (∀ w : World, Src Try.prog 4 32 (.slice (some ⟨w.heap.size, 0, none⟩) 1 1) 1 [.bool false, .int .i64 0, .int .i64 0, .slice Af FL cf] (w.alloc (.cells #[.bool false, .int .i64 0, .int .i64 0, .slice Af FL cf] 66))) := Lib.hid (fun w => by
          have := src_op w 32 66 Try.underlying32 ⟨newO fr, Af, cf⟩
          simpa only [POp.cells, newO, HFL.out] using this)
        have HOf := Lib.hid (show wr.ownsRow w2.heap.size 66 4 (.slice Av LQ cv) LQ (flatP qs) from by have := HM.out.mq.own; rwa [HLQ.out] at this)
        have HSx := Lib.hid (show w2.heap.size ≤ wr.heap.size from HF.out.size)
        obtain ⟨c0, c1, c2⟩ := HW.out.three
        go_upto_region 25 with (first
          | (at_builtin; refine wpList_append_row _ rfl (.tmp 83) (.tmp 86) 32 32 rfl w2.heap.size 66 i0 (.agg zeroO) 4 48 Try.underlying32 gi gz0 gz1 gz2 rfl _ LQ _ rfl (HOf.out.alloc _) _ 1 _ rfl (HSrF.out _) (by unfold maxLen; omega) (by omega) (by have := HSx.out; simp; omega) ?_
             intro v12 w12 o12 g12 at12
             have HO12 := Lib.hid o12
             have HF12 := Lib.hid (show Fr (fun j => Value.ownBlock (.slice Av LQ cv) = some j) wr w12 from ((Fr.refl _ wr).alloc _).grown g12 (fun j hj _ => hj))
             have HA12 := Lib.hid (show v12.ownBlock = Value.ownBlock (.slice Av LQ cv) ∨ ∃ j, v12.ownBlock = some j ∧ wr.heap.size ≤ j from at12.imp id (fun e => ⟨_, e, by simp⟩))
             obtain ⟨A12, k12, hv12, _, _⟩ := own_slice o12
             subst hv12
             have HW12 := Lib.hid (HW.out.fr HF12.out (fun e => by have := (World.ownsRow.lt HOf.out _ e).1; have := HSb.out; omega))
             have e12 : w12.cell? ⟨sb, 2, none⟩ = some (.slice Av LQ cv) := by { rw [HW12.out.cell]; rfl }
             have z12 : w12.frozen? ⟨sb, 2, none⟩ = false := HW12.out.frozen 2
             clear o12 g12 at12))
        obtain ⟨w13, hw13⟩ : ∃ w13, w12.setCell ⟨sb, 2, none⟩ (.slice A12 (LQ + 1) k12) = w13 := ⟨_, rfl⟩
        rw [hw13]
        have HF13 := Lib.hid (show Fr (fun j => j = sb) w12 w13 by subst hw13; exact Fr.setCell (S := fun j => j = sb) (p := ⟨sb, 2, none⟩) (Fr.refl _ w12) (fun _ => rfl) _)
        have HW13 := Lib.hid (show Whole w13 sb 34 #[.int .i64 X, .int .i64 Y, .slice A12 (LQ + 1) k12] by subst hw13; exact HW12.out.set 2 _)
        have HQ13 := Lib.hid ((MkQ.flush (v6 := .slice A12 (LQ + 1) k12) (by rw [HFL.out]; exact HM.out) (by rw [HLQ.out]; simpa only [POp.cells, newO, HFL.out] using HO12.out) HF12.out HA12.out).frS HF13.out (fun j e => by have := HSb.out; omega)).mq
        have HFX13 := Lib.hid ((HF.out.trans HF12.out (fun i hi e => by have := (World.ownsRow.lt HOf.out _ e).1; omega)).trans HF13.out (fun i hi e => e))
        have HFw13 := Lib.hid (show Fr (fun j => j = sb) w w13 from (HF02.out.mono (T := fun j => j = sb) (fun _ _ e => e.elim)).trans HFX13.out (fun _ _ e => e))
        have HLQ1 := Lib.hid (show (qs ++ [(⟨newO fr, Af, cf⟩ : POp)]).length = LQ + 1 by simp [HLQ.out])
        clear hw13 c0 c1 c2 e12 z12
        have HQx := HQ13
        have HLx := HLQ1
        (
          have HWs := Lib.hid (HWr.out.fr HFX13.out (fun e => by have := HSb.out; omega))
          obtain ⟨s0, s1, s2⟩ := HW13.out.three
          (
            obtain ⟨e0, e1, e2⟩ := HWs.out.three
            have z0 := HWs.out.frozen 0
            have z1 := HWs.out.frozen 1
            have z2 := HWs.out.frozen 2)
          go_wp2_with fail
          refine bodyPost_ret (v := .tuple #[.agg #[.int .i64 X, .int .i64 Y, .slice A12 (LQ + 1) k12], .int .i64 0]) (results_cell_slot (p := 4) (u := 5) rfl _ _ _ _ _ _ rfl (setScr_whole HWs.out) Try.underlying34 rfl (by kernel_rfl)) rfl ?_
          have fset := setScr_fr w13 w.heap.size (.int .i64 X) (.int .i64 Y) (.slice A12 (LQ + 1) k12)
          obtain ⟨A9, c9, hv9, sc9, -⟩ := (HQx.out.frS fset (fun j e => by have := HSb.out; omega)).slice
          rw [HLx.out] at hv9
          injection hv9 with q1 q2 q3
          subst q1; subst q3
          exact ⟨A12, k12, (qs ++ [(⟨newO fr, Af, cf⟩ : POp)]), by rw [HLx.out], sc9, HE.out, ((HFw13.out.mono (T := fun j => w.heap.size ≤ j) (fun j _ e => by have := HSb.out; omega)).trans fset (fun i hi e => by omega)).below (fun i hi e => by omega)⟩)
end Go.Proofs.Ythjfkeploofblaa

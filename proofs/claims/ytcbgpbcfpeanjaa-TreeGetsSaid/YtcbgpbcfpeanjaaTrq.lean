/- What is proved: a list put in order by the document: one after another into its place. Conditions: the list's cells are there. -/
import Derived.Test.YtcbgpbcfpeanjaaTrp
namespace Go.Proofs.Ytcbgpbcfpeanjaa
open Go.RowKit Go.Sort Go.Shelf
set_option linter.unusedVariables false

theorem insPos_next {lt : Ent → Ent → Bool} {x : Ent} {out : List Ent} (a : Nat) : insPos lt x out (a + 1) = if lt x out[a]! then insPos lt x out a else a + 1 := rfl

set_option maxHeartbeats 6400000 in
theorem QtSorted_any (A : Option Addr) (cap : Nat) (es : List Ent) (hn : es.length ≤ 1000) (w : World) (h : Lies w A (flatE es)) :
    Calls Try.prog 13 #[.slice A es.length cap] w fun e w' => ∃ v, e = .returned v ∧ OwnE w w' v (srt (ltOf keyCmp) es) := by
  obtain ⟨i0, hi, hz0, hz1, hz2⟩ := info_parts info_ent
  have hz3 := zeroE_cells
  obtain ⟨Z, hZ⟩ : ∃ Z, (entV default).toArray = Z := ⟨_, rfl⟩
  rw [hZ] at hz0 hz3
  have HL := Lib.hid h
  obtain ⟨L, hL⟩ : ∃ L, es.length = L := ⟨_, rfl⟩
  have HLn := Lib.hid hL
  obtain ⟨T, hT⟩ : ∃ T : TypeId, T = 45 := ⟨_, rfl⟩
  obtain ⟨n34, h34⟩ : ∃ n : Nat, n = 34 := ⟨_, rfl⟩
  have ag34 : ∀ w, (isAgg T).run Try.prog w = .ok true w := by rw [hT]; exact fun _ => by kernel_rfl
  have sz34 : ∀ w, (sizeOf T).run Try.prog w = .ok n34 w := by rw [hT, h34]; exact fun _ => by kernel_rfl
  have HN := Lib.hid h34
  rw [hL] at hn ⊢
  clear h hL h34 hZ
  go_enter Try.func13, Try.ntmps13
  rw [show Op.load 45 (.tmp 20) = Op.load T (.tmp 20) by rw [hT], show Op.load 45 (.tmp 26) = Op.load T (.tmp 26) by rw [hT]]
  clear hT
  go_wp2
  go_loopg [3, 4] L (fun kx v s4 wr => ∃ k : Nat, k ≤ L ∧ s4 = .int .i64 k ∧ L - k ≤ kx ∧ OwnE w wr v (srt (ltOf keyCmp) (es.take k)))
  case atStart => exact ⟨0, by omega, rfl, by omega, OwnE.nil (Fr.refl _ w)⟩
  case round =>
    obtain ⟨k, hk, rfl, hkx, ho⟩ := hrel
    obtain ⟨wo, rfl⟩ : ∃ wo, wo = wr := ⟨wr, rfl⟩
    by_cases hlt : k < L
    · obtain ⟨out, hout⟩ : ∃ out, srt (ltOf keyCmp) (es.take k) = out := ⟨_, rfl⟩
      have hnext : srt (ltOf keyCmp) (es.take (k + 1)) = insB (ltOf keyCmp) out es[k]! := by rw [ents_snoc es k (by rw [HLn.out]; exact hlt), srt_snoc, hout]
      have hol : out.length = k := by rw [← hout, srt_len, List.length_take, HLn.out]; omega
      rw [hout] at ho
      obtain ⟨Ao, co, rfl, hoc, hom, hoA, holies⟩ := ho.shape
      obtain ⟨b, o, hA⟩ := HL.out.someE (by rw [HLn.out]; omega)
      subst hA
      have HGK := Lib.hid (some_of_mem (es := es) (i := k) (by rw [HLn.out]; exact hlt))
      obtain ⟨x, hx⟩ : ∃ x, es[k]! = x := ⟨_, rfl⟩
      rw [hx] at hnext HGK
      have HMl := Lib.hid hol
      have HO := Lib.hid ho
      have HOL := Lib.hid holies
      have hO1 := ho.1
      rw [hol] at hoc hO1 ⊢
      have HO1 := Lib.hid hO1
      obtain ⟨p, hp⟩ : ∃ p, insPos (ltOf keyCmp) x out k = p := ⟨_, rfl⟩
      have hpk : p ≤ k := by rw [← hp]; exact (insPos_spec (ltOf keyCmp) x out k).1
      have HIN : Hid (srt (ltOf keyCmp) (es.take (k + 1)) = out.take p ++ [x] ++ out.drop p) := Lib.hid (by rw [hnext, insB, hol, hp]; simp)
      have HP := Lib.hid hp
      have hs1 := fun w => slice_hdE Ao hoA k co p (by omega) w
      have hs2 := fun w => slice_tlE Ao k co p hpk w
      have HS1 := Lib.hid hs1
      have HS2 := Lib.hid hs2
      obtain ⟨cx, hcx⟩ : ∃ c, (entV x).toArray = c := ⟨_, rfl⟩
      have HCX := Lib.hid hcx
      have hk0 : (k : Int) < L := by omega
      have wk := wrap_nat k (by omega)
      clear hnext hx ho holies hol hO1 hout hs1 hs2 hoA hp hcx
      go_upto_block 2 with fail
      go_cut [5] (fun s5 wc => s5 = .int .i64 p ∧ Fr (fun _ => False) wo wc)
      case first =>
        go_wp2_with fail
        go_loopg [5] k (fun kx s5 wr => ∃ a : Nat, a ≤ k ∧ s5 = .int .i64 a ∧ a ≤ kx ∧ Hid (insPos (ltOf keyCmp) x out a = p) ∧ Fr (fun _ => False) wo wr)
        case atStart => exact ⟨k, Nat.le_refl _, rfl, Nat.le_refl _, HP, Fr.refl _ _⟩
        case round =>
          obtain ⟨a, ha, rfl, hax, HI, hf⟩ := hrel
          have HFr := Lib.hid hf
          have HFa := Lib.hid (HO.out.2.trans hf (fun _ _ e => e))
          clear hf
          by_cases ha0 : a = 0
          · subst ha0
            have hp0 : p = 0 := HI.out.symm
            subst hp0
            go_wp2_with fail
            go_region
            go_wp2_with fail
            go_meet
            case rel => exact ⟨rfl, HFr.out.drew⟩
          · obtain ⟨a, rfl⟩ : ∃ a', a = a' + 1 := ⟨a - 1, by omega⟩
            obtain ⟨bo, oo, hAo⟩ := HOL.out.someE (by rw [HMl.out]; omega)
            subst hAo
            have HIa := Lib.hid ((insPos_next a).symm.trans HI.out)
            have l1 : ∀ q : Later wr, (loadCellsFrom ⟨b, o + k * 34, none⟩ 0 n34 #[]).run Try.prog q.w' = .ok (entV x).toArray q.w' := fun q => load_ent HL.out HGK.out (HFa.out.trans q.fr (fun _ _ e => e)) n34 HN.out
            have l2 : ∀ q : Later wr, (loadCellsFrom ⟨bo, oo + a * 34, none⟩ 0 n34 #[]).run Try.prog q.w' = .ok (entV out[a]!).toArray q.w' := fun q => load_ent HOL.out (some_of_mem (by rw [HMl.out]; omega)) (HFr.out.trans q.fr (fun _ _ e => e)) n34 HN.out
            have kk1 := fun w => QtKey_any x w
            have kk2 := fun w => QtKey_any out[a]! w
            have hls := lt_str (keyE x) (keyE out[a]!)
            rw [← ltOf_key] at hls
            obtain ⟨bq, hbq⟩ : ∃ b, ltOf keyCmp x out[a]! = b := ⟨_, rfl⟩
            obtain ⟨c2, hc2⟩ : ∃ c, (entV out[a]!).toArray = c := ⟨_, rfl⟩
            obtain ⟨S1, hS1⟩ : ∃ S, strB (keyE x) = S := ⟨_, rfl⟩
            obtain ⟨S2, hS2⟩ : ∃ S, strB (keyE out[a]!) = S := ⟨_, rfl⟩
            rw [HCX.out] at l1 kk1
            rw [hc2] at l2 kk2
            rw [hS1] at kk1 hls
            rw [hS2] at kk2 hls
            rw [hbq] at hls HIa
            have k1 := Lib.hid kk1
            have k2 := Lib.hid kk2
            clear hc2 hS1 hS2 hbq kk1 kk2
            have ha1 : (0 : Int) < (a : Int) + 1 := by omega
            have hd0 : decide ((0 : Int) < (a : Int) + 1) = true := decide_eq_true ha1
            have hap : (a : Int) < k := by omega
            have wa := wrap_nat a (by omega)
            have wa1 := wrap_nat1 a (by omega)
            have hcast : ((a + 1 : Nat) : Int) = (a : Int) + 1 := by omega
            rw [hcast]
            clear hcast
            cases bq
            · go_wp2_with fail
              refine wp_region_later (w0 := wr) (Fr.refl _ _) (by kernel_rfl) (by kernel_rfl) ?_
              repeat (quiet_step (first | (go_at_call_of 30 (Value.agg cx); refine Calls.later_of (k1.out _)) | (go_at_call_of 30 (Value.agg c2); refine Calls.later_of (k2.out _))))
              refine wpQuiet_nil ?_
              intro _ hw'
              obtain ⟨q, hw''⟩ := hw'
              subst hw''
              go_wp2_with fail
              go_meet
              case rel => exact ⟨by rw [← HIa.out]; simp, HFr.out.trans q.fr (fun _ _ e => e)⟩
            · go_wp2_with fail
              refine wp_region_later (w0 := wr) (Fr.refl _ _) (by kernel_rfl) (by kernel_rfl) ?_
              repeat (quiet_step (first | (go_at_call_of 30 (Value.agg cx); refine Calls.later_of (k1.out _)) | (go_at_call_of 30 (Value.agg c2); refine Calls.later_of (k2.out _))))
              refine wpQuiet_nil ?_
              intro _ hw'
              obtain ⟨q, hw''⟩ := hw'
              subst hw''
              go_wp2_with fail
              go_roundg a
              case measure => omega
              case rel => exact ⟨a, by omega, by go_num, Nat.le_refl _, Lib.hid (by have := HIa.out; simpa using this), HFr.out.trans q.fr (fun _ _ e => e)⟩
      case rest =>
        obtain ⟨rfl, hfc⟩ := hcut
        have FW := HO.out.2.trans hfc (fun _ _ e => e)
        have HFW := Lib.hid FW
        have HT1 := Lib.hid (show Lies wc Ao (flatE (out.take p)) from by rw [flatE_take]; exact (HOL.out.fr hfc (fun _ _ e => e)).take _)
        have hlt1 : (out.take p).length = p := by rw [List.length_take, HMl.out]; omega
        have hld1 : (out.drop p).length = k - p := by rw [List.length_drop, HMl.out]
        have HLT1 := Lib.hid hlt1
        have HLD1 := Lib.hid hld1
        have HTL := Lib.hid (show Lies wc (tlE Ao co p) (flatE (out.drop p)) from (HOL.out.fr hfc (fun _ _ e => e)).tlE co p (by rw [HMl.out]; omega))
        have hs1 := HS1.out
        have hs2 := HS2.out
        clear FW hlt1 hld1 hfc
        go_step
        go_wp2_with (first
          | (have _ := M2
             at_builtin; refine wpList_append_row _ rfl (.tmp 45) (.tmp 48) 22 22 rfl w.heap.size 45 i0 (.agg Z) 34 56 Try.underlying22 hi hz0 hz1 hz2 hz3 _ (p + 1) _ rfl N2.out.1.1 _ (k - p) (flatE (out.drop p)) rfl (Lies.src34 N2.out.2 HLD1.out (co - p)) (by unfold maxLen; omega) (by omega) N2.out.1.2.size ?_
             intro v3 w6 o3 g3 at3)
          | (refine wpList_build_cx rfl (.tmp 42) rfl x cx HCX.out rfl ?_)
          | (have _ := M1
             at_builtin; refine wpList_append_row _ rfl (.tmp 38) (.tmp 43) 22 22 rfl w.heap.size 45 i0 (.agg Z) 34 56 Try.underlying22 hi hz0 hz1 hz2 hz3 _ p _ rfl (N1.out.1.1.alloc _) _ 1 (flatE [x]) rfl (src_cx34 _ x cx HCX.out) (by unfold maxLen; omega) (by omega) (by have := N1.out.1.2.size; simp; omega) ?_
             intro v2 w5 o2 g2 at2
             have M2 := True.intro
             have N2 := Lib.hid (second_facts w wc w4 w5 v1 v2 x p (out.take p) Ao co (out.drop p) N1.out HTL.out o2 cx g2)
             clear o2 g2 at2)
          | (refine wpList_load_cx rfl (.tmp 41) rfl b (o + k * 34) rfl cx (by rw [← HCX.out, entV_size]) (range_cx cx HCX.out HL.out HGK.out N1.out.1.2) ?_)
          | (at_builtin; refine wpList_append_row _ rfl (.tmp 33) (.tmp 36) 22 22 rfl w.heap.size 45 i0 (.agg Z) 34 56 Try.underlying22 hi hz0 hz1 hz2 hz3 (.slice none 0 0) 0 [] rfl (World.ownsRow_nil _ _ _ _) (.slice Ao p co) p (flatE (out.take p)) rfl (Lies.src34 HT1.out HLT1.out co) (by unfold maxLen; omega) (by omega) HFW.out.size ?_
             intro v1 w4 o1 g1 at1
             have M1 := True.intro
             have N1 := Lib.hid (first_facts w wc w4 v1 p (flatE (out.take p)) HFW.out o1 g1 at1)
             clear o1 g1 at1))
        have n3 : OwnE w w6 v3 (srt (ltOf keyCmp) (es.take (k + 1))) := by
          rw [HIN.out]
          refine ⟨?_, fr_append N2.out.1.1 N2.out.1.2 g3⟩
          rw [flatE_append, List.length_append, List.length_append, HLT1.out, HLD1.out]
          exact o3
        have N3 := Lib.hid n3
        clear n3 o3 g3 at3
        go_roundg (L - (k + 1))
        case measure => omega
        case rel => exact ⟨k + 1, by omega, by go_num, Nat.le_refl _, N3.out⟩
    · obtain rfl : k = L := by omega
      have hall : es.take k = es := List.take_of_length_le (by rw [HLn.out]; exact Nat.le_refl _)
      rw [hall] at ho
      have HO := Lib.hid ho
      clear ho hall
      go_wp2_with fail
      go_ret
      exact ⟨_, rfl, HO.out⟩
end Go.Proofs.Ytcbgpbcfpeanjaa

/- What is proved: the walk of the law BloomMakes, for every list of texts. Conditions: the list's cells are there. -/
import Derived.Test.YtgmohgofcjemkaaNw
namespace Go.Proofs.Ytgmohgofcjemkaa
open Go.RowKit Go.Shelf Go.Sort
set_option linter.unusedVariables false

theorem rev_step (l : List (List UInt8)) (k : Nat) (h : k < l.length) : (l.drop k).reverse = (l.drop (k + 1)).reverse ++ [l.getD k []] := by
  rw [List.drop_eq_getElem_cons h, List.reverse_cons, List.getD_eq_getElem?_getD, List.getElem?_eq_getElem h]
  rfl
set_option maxHeartbeats 3200000 in
set_option maxRecDepth 100000 in
theorem bloomMakes_walk (A : Option Addr) (c : Nat) (l : List (List UInt8)) (hb : l.length ≤ 9223372036854775807) (w : World) (hA : Lies w A (strM l)) :
    Calls Try.prog 4 #[.slice A l.length c] w fun e w' => e = .returned (.bool true) ∧ Below w.heap.size w w' := by
  obtain ⟨j0, hj, hy0, hy1, hy2⟩ := info_parts infoM
  have HW := Lib.hid works16_any
  have HLa := Lib.hid (large16_any A c l hb w hA)
  by_cases hfit : Fit16 l
  · rw [decide_eq_true hfit] at HLa
    have hl260 := hfit.1
    have HLt := Lib.hid (fun (p : List UInt8) hp => show p.length ≤ 4611686018427387904 from by have := hfit.2 p hp; omega)
    have HQ := Lib.hid (fun w' (f : Fr (fun _ => False) w w') => QbMake_any A c l (by omega) HLt.out w' (hA.fr f (fun _ _ e => e)))
    have HM := Lib.hid (fun w' (f : Fr (fun _ => False) w w') => Make_any A c l (by omega) HLt.out w' (hA.fr f (fun _ _ e => e)))
    have HR := Lib.hid (fun A' c' w' (h : Lies w' A' (strM l.reverse)) => show Calls Try.prog 13 #[.slice A' l.length c'] w' fun e w2 => ∃ v, e = .returned v ∧ OwnB w' w2 v (mkF l) from by
      have := Make_any A' c' l.reverse (by rw [List.length_reverse]; omega) (fun p hp => HLt.out p (List.mem_reverse.1 hp)) w' h
      rwa [List.length_reverse, mkF_rev] at this)
    have HSm := Lib.hid (fun A1 A2 c1 c2 w' (h1 : Lies w' A1 (bytesV (mkF l))) (h2 : Lies w' A2 (bytesV (mkF l))) => show Calls Try.prog 12 #[.slice A1 (mkF l).length c1, .slice A2 (mkF l).length c2] w' fun e w2 => e = .returned (.bool true) ∧ w' = w2 from by
      have := Same_any A1 A2 c1 c2 (mkF l) (mkF l) w' h1 h2
      rwa [beq_self_eq_true] at this)
    have HLs := Lib.hid (fun (h0 : 0 < l.length) => lies_nameM hA (Fr.refl _ w) h0)
    have HRs := Lib.hid (fun k h => rev_step l k h)
    have HD0 : Hid (l.drop 0 = l) := Lib.hid rfl
    have HDn : Hid ((l.drop l.length).reverse = []) := Lib.hid (by rw [List.drop_length]; rfl)
    have HLr := Lib.hid (fun k (hk : k ≤ l.length) => show ((l.drop k).reverse).length = l.length - k from by simp)
    obtain ⟨F, hF⟩ : ∃ F, mkF l = F := ⟨_, rfl⟩
    rw [hF] at HQ HM HR HSm
    obtain ⟨m, hm⟩ : ∃ m, F.length = m := ⟨_, rfl⟩
    rw [hm] at HSm
    have HMl := Lib.hid hm
    obtain ⟨n, hn⟩ : ∃ n, l.length = n := ⟨_, rfl⟩
    rw [hn] at hb HLa hl260 HQ HM HR HLs HRs HDn HLr ⊢
    have HF0 := Lib.hid (Fr.refl (fun _ => False) w)
    clear hn hF hm hA hfit HLt
    have wn : IntKind.i64.wrap ((n : Int) - 1) = (n : Int) - 1 := by rw [IntKind.wrap_i64]; omega
    go_enter Try.func4, Try.ntmps4
    go_wp2_with (go_at_call 10; refine HLa.out.mono ?_; rintro e w1 ⟨rfl, rfl⟩)
    go_loopg [3, 4] (n + 1) (fun kx s3 s4 wr => ∃ (k : Nat) (v : Value), s4 = .int .i64 ((k : Int) - 1) ∧ v = s3 ∧ k ≤ n ∧ k + 1 ≤ kx ∧ Hid (OwnS w wr v (l.drop k).reverse))
    case atStart => exact ⟨n, .slice none 0 0, rfl, rfl, by omega, by omega, Lib.hid (by rw [HDn.out]; exact OwnS.nil (Fr.refl _ _))⟩
    case round =>
      obtain ⟨k, v, rfl, rfl, hk, hkx, HO⟩ := hrel
      obtain ⟨wo, rfl⟩ : ∃ wo, wo = wr := ⟨wr, rfl⟩
      cases k with
      | zero =>
        have hz : ((0 : Nat) : Int) - 1 = -1 := by omega
        rw [hz]
        have HLk := Lib.hid (HLr.out 0 (by omega))
        rw [HD0.out] at HLk HO
        obtain ⟨A3, c3, hv3, _, _, _, hl3⟩ := HO.out.slice
        rw [HLk.out, Nat.sub_zero] at hv3
        subst hv3
        have HL3 := Lib.hid hl3
        have HFo := Lib.hid HO.out.2
        have HQ2 := Lib.hid (HQ.out wo HFo.out)
        have M0 := True.intro
        clear hl3 hz HO
        go_wp2_with (first
          | (go_at_call 11; refine HQ2.out.mono ?_; rintro e w2 ⟨v1, rfl, ho⟩
             obtain ⟨A1, c1, hv1, _, hli⟩ := ho.slice
             rw [HMl.out] at hv1
             subst hv1
             have HF2 := Lib.hid (show Fr (fun _ => False) w w2 from HFo.out.trans ho.2 (fun _ _ e => e))
             have HF2o := Lib.hid ho.2
             have HL1 := Lib.hid hli
             have HM2 := Lib.hid (HM.out w2 HF2.out)
             clear ho hli)
          | (go_at_call 13; have _ := M0; refine HM2.out.mono ?_; rintro e w3 ⟨v2, rfl, ho⟩
             obtain ⟨A2, c2, hv2, _, hli⟩ := ho.slice
             rw [HMl.out] at hv2
             subst hv2
             have HF3 := Lib.hid (show Fr (fun _ => False) w w3 from HF2.out.trans ho.2 (fun _ _ e => e))
             have HF23 := Lib.hid ho.2
             have HS3 := Lib.hid (HSm.out A2 A1 c2 c1 w3 hli (HL1.out.fr ho.2 (fun _ _ e => e)))
             have HR3 := Lib.hid (HR.out A3 c3 w3 ((HL3.out.fr HF2o.out (fun _ _ e => e)).fr ho.2 (fun _ _ e => e)))
             clear ho hli)
          | (go_at_call 12; have _ := M0; refine HS3.out.mono ?_; rintro e w9 ⟨rfl, rfl⟩; clear M0)
          | (go_at_call 13; refine HR3.out.mono ?_; rintro e w4 ⟨v4, rfl, ho⟩
             obtain ⟨A4, c4, hv4, _, hli⟩ := ho.slice
             rw [HMl.out] at hv4
             subst hv4
             have HF4 := Lib.hid (show Fr (fun _ => False) w w4 from HF3.out.trans ho.2 (fun _ _ e => e))
             have HS4 := Lib.hid (HSm.out A4 A1 c4 c1 w4 hli ((HL1.out.fr HF23.out (fun _ _ e => e)).fr ho.2 (fun _ _ e => e)))
             clear ho hli)
          | (go_at_call 12; refine HS4.out.mono ?_; rintro e w9 ⟨rfl, rfl⟩)
          | (go_at_call 7; refine (HW.out _).mono ?_; rintro e w5 ⟨rfl, hf⟩; have HF5 := Lib.hid hf; clear hf))
        go_ret
        exact ⟨rfl, (HF4.out.trans HF5.out (fun _ _ e => e)).below (fun _ _ e => e)⟩
      | succ k =>
        have hz : ((k + 1 : Nat) : Int) - 1 = (k : Int) := by omega
        rw [hz]
        have hk0 : (k : Int) ≥ 0 := by omega
        have hk0' : (0 : Int) ≤ (k : Int) := by omega
        have hkn : (k : Int) < (n : Int) := by omega
        have wk : IntKind.i64.wrap ((k : Int) - 1) = (k : Int) - 1 := by rw [IntKind.wrap_i64]; omega
        obtain ⟨b, o, hA, hc⟩ := HLs.out (by omega)
        subst hA
        have cx := HO.out.2.cell (hc k hk) (fun e => e)
        have HRk := Lib.hid (HRs.out k hk)
        have HLk := Lib.hid (HLr.out (k + 1) hk)
        obtain ⟨out, hout⟩ : ∃ out, (l.drop (k + 1)).reverse = out := ⟨_, rfl⟩
        rw [hout] at HO HRk HLk
        obtain ⟨x, hx⟩ : ∃ x, l.getD k [] = x := ⟨_, rfl⟩
        rw [hx] at cx HRk
        obtain ⟨S, hS⟩ : ∃ S, strB x = S := ⟨_, rfl⟩
        rw [hS] at cx
        have HSX := Lib.hid (show strM [x] = [.string S] from by rw [← hS]; rfl)
        obtain ⟨p, hp⟩ : ∃ p, out.length = p := ⟨_, rfl⟩
        have HPl := Lib.hid hp
        have hp260 : p ≤ 260 := by have := HLk.out; rw [hp] at this; omega
        have HO1 := Lib.hid (show wo.ownsRow w.heap.size 9 1 v p (strM out) from by rw [← hp]; exact HO.out.1)
        clear hc hout hx hS hp hz
        go_wp2_with (at_builtin; refine wpList_append_row _ rfl (.tmp 16) (.tmp 21) 26 26 rfl w.heap.size 9 j0 (.string (strB [])) 1 16 Try.underlying26 hj hy0 hy1 hy2 rfl _ p _ rfl (HO1.out.alloc _) _ 1 (strM [x]) rfl (by rw [HSX.out]; exact src_one Try.underlying26 _ _ rfl) (by unfold maxLen; omega) (by omega) (by have := HO.out.2.size; simp; omega) ?_
                     intro v5 w5 o2 g2 at2
                     have HO5 := Lib.hid o2
                     have HG5 := Lib.hid g2
                     clear o2 g2 at2)
        have HN := Lib.hid (show OwnS w w5 v5 (l.drop k).reverse from by
          rw [HRk.out]
          refine ⟨?_, fr_append (HO1.out.alloc _) (HO.out.2.alloc _) HG5.out⟩
          rw [strM_append, List.length_append, HPl.out]
          exact HO5.out)
        go_roundg (k + 1)
        case measure => omega
        case rel => exact ⟨k, v5, by go_num, rfl, by omega, Nat.le_refl _, HN⟩
  · rw [decide_eq_false hfit] at HLa
    clear hfit hA
    go_enter Try.func4, Try.ntmps4
    go_wp2_with (first
      | (go_at_call 10; refine HLa.out.mono ?_; rintro e w1 ⟨rfl, rfl⟩)
      | (go_at_call 7; refine (HW.out _).mono ?_; rintro e w2 ⟨rfl, hf⟩; have HF := Lib.hid hf; clear hf))
    go_ret
    exact ⟨rfl, HF.out.below (fun _ _ e => e)⟩
end Go.Proofs.Ytgmohgofcjemkaa

/- What is proved: entries out of bytes, by the program. Conditions: the bytes' cells are there. -/
import Derived.Test.YtcbgpbcfpeanjaaTsd
namespace Go.Proofs.Ytcbgpbcfpeanjaa
open Go.RowKit Go.Sort Go.Shelf
set_option linter.unusedVariables false

set_option maxHeartbeats 6400000 in
set_option maxRecDepth 100000 in
theorem TGet_any (A : Option Addr) (hA : Plain A) (c : Nat) (l0 : List UInt8) (hl : l0.length ≤ 100000) (hcap : l0.length ≤ c) (w : World) (h : Lies w A (bytesV l0)) :
    Calls Try.prog 17 #[.slice A l0.length c] w fun e w' => ∃ v, e = .returned (.tuple #[v, .int .i64 (getW l0 []).2]) ∧ OwnE w w' v (getW l0 []).1 := by
  obtain ⟨i0, hi, hz0, hz1, hz2⟩ := info_parts info_ent
  have hz3 := zeroE_cells
  obtain ⟨Z, hZ⟩ : ∃ Z, (entV default).toArray = Z := ⟨_, rfl⟩
  rw [hZ] at hz0 hz3
  have HL := Lib.hid h
  have HA := Lib.hid hA
  have HC := Lib.hid hcap
  obtain ⟨G, hG⟩ : ∃ G, getW l0 [] = G := ⟨_, rfl⟩
  have HG := Lib.hid hG
  obtain ⟨L, hL⟩ : ∃ L, l0.length = L := ⟨_, rfl⟩
  have HLn := Lib.hid hL
  rw [hL] at hl ⊢
  rw [hG]
  clear h hL hZ hA hcap hG
  go_enter Try.func17, Try.ntmps17
  go_wp2_with fail
  go_loopg [0, 4] L (fun kx s0 s4 wr => ∃ (l : List UInt8) (es : List Ent) (A2 : Option Addr) (c2 : Nat), s0 = .slice A2 l.length c2 ∧ Plain A2 ∧ l.length ≤ c2 ∧ Lies w A2 (bytesV l) ∧ l.length ≤ kx ∧ es.length + l.length ≤ L ∧ OwnE w wr s4 es ∧ Hid (getW l es = G))
  case atStart => exact ⟨l0, [], A, c, by rw [HLn.out], HA.out, HC.out, HL.out, by rw [HLn.out]; exact Nat.le_refl _, by rw [HLn.out]; simp, OwnE.nil (Fr.refl _ w), HG⟩
  case round =>
    obtain ⟨l, es, A2, c2, rfl, hp2, hk2, hl2, hlx, hsum, ho, HGW⟩ := hrel
    obtain ⟨wo, rfl⟩ : ∃ wo, wo = wr := ⟨wr, rfl⟩
    have HO := Lib.hid ho
    have HFo := Lib.hid ho.2
    by_cases hn0 : l = []
    · subst hn0
      obtain ⟨Ae, ce, rfl, hce, hcem, hAe, hle⟩ := HO.out.shape
      have HGN := Lib.hid ((getW_nil es).symm.trans HGW.out)
      have hm6 : es.length ≤ 100000 := by omega
      have cc := Lib.hid (TCheck_any Ae ce es hm6 wo hle)
      obtain ⟨r, hr⟩ : ∃ r, chk es = r := ⟨_, rfl⟩
      obtain ⟨m, hm⟩ : ∃ m, es.length = m := ⟨_, rfl⟩
      rw [hr] at HGN cc
      rw [hm] at cc HO ⊢
      clear hp2 hk2 hl2 hlx hsum ho hr hm hce hcem hAe hle hm6
      have hz : ¬ (0 : Int) < ((0 : Nat) : Int) := by omega
      by_cases hr0 : r = 0
      · subst hr0
        go_wp2_with (go_at_call 10; refine cc.out.mono ?_; rintro e w1 ⟨rfl, bb⟩; have HF0 := Lib.hid ((Fr.refl (fun _ => False) wo).then_below bb); clear bb)
        go_ret2
        exact ⟨_, by rw [← HGN.out]; rfl, by rw [← HGN.out]; exact HO.out.fr HF0.out⟩
      · have hrz : (r == 0) = false := by simp [hr0]
        go_wp2_with (go_at_call 10; refine cc.out.mono ?_; rintro e w1 ⟨rfl, bb⟩; have HF0 := Lib.hid ((Fr.refl (fun _ => False) wo).then_below bb); clear bb)
        go_ret2
        exact ⟨.slice none 0 0, by rw [← HGN.out]; rfl, by rw [← HGN.out, if_neg hr0]; exact OwnE.nil (HFo.out.trans HF0.out (fun _ _ e => e))⟩
    · have hpos : 0 < l.length := List.length_pos_iff.2 hn0
      have HTk := Lib.hid (fun w2 (f : Fr (fun _ => False) w w2) => Ttake_any A2 hp2 c2 l (by omega) hk2 hpos w2 (hl2.fr f (fun _ _ e => e)) w hl2)
      have hcs := entV_size (entT l)
      have HCA := Lib.hid (entV_all (entT l))
      obtain ⟨cx, hcx⟩ : ∃ cx, (entV (entT l)).toArray = cx := ⟨_, rfl⟩
      have HCX := Lib.hid hcx
      obtain ⟨n, hn⟩ : ∃ n, l.length = n := ⟨_, rfl⟩
      rw [hcx] at hcs HCA HTk
      by_cases he : errT l = 0
      · have HG1 := Lib.hid ((getW_step es hn0 he).symm.trans HGW.out)
        have hlt := restT_lt hn0 he
        rw [he] at HTk
        obtain ⟨m, hm⟩ : ∃ m, es.length = m := ⟨_, rfl⟩
        have HMn := Lib.hid hm
        have hO1 := ho.1
        rw [hm] at hO1
        obtain ⟨d, hd⟩ : ∃ d, (restT l).length = d := ⟨_, rfl⟩
        have HD := Lib.hid hd
        have hnp : (0 : Int) < n := by omega
        rw [hd] at HTk hlt
        rw [hn] at HTk hlt hlx hsum ⊢
        rw [hm] at hsum
        clear hcx hp2 hk2 hl2 ho hn hn0 hpos hm hd he hO1
        go_wp2_with (first
          | (refine wpList_build_cx rfl (.tmp 22) rfl (entT l) cx HCX.out rfl ?_)
          | (at_builtin; refine wpList_append_row _ rfl (.tmp 21) (.tmp 23) 22 22 rfl w.heap.size 45 i0 (.agg Z) 34 56 Try.underlying22 hi hz0 hz1 hz2 hz3 _ m _ rfl ((by have := N0.out.1; rw [HMn.out] at this; exact this : w5.ownsRow w.heap.size 45 34 u4 m (flatE es)).alloc _) _ 1 (flatE [entT l]) rfl (src_cx34 _ (entT l) cx HCX.out) (by unfold maxLen; omega) (by omega) (by have := N0.out.2.size; simp; omega) ?_
             intro v2 w7 o2 g2 at2
             have N2 := Lib.hid (show OwnE w w7 v2 (es ++ [entT l]) from ⟨(by rw [flatE_append, List.length_append, HMn.out]; exact o2), fr_append (N0.out.1.alloc _) (N0.out.2.alloc _) g2⟩)
             clear o2 g2 at2)
          | (refine wpList_load_cx rfl (.tmp 5) rfl w3.heap.size 0 rfl cx hcs (fun j u hu => (by rw [Nat.zero_add, HW5.out.cell, ← Array.getElem?_toList]; exact hu)) ?_)
          | (
            (go_at_call 31
             refine (HTk.out _ HFo.out).mono ?_
             rintro e w3 ⟨⟨A3, c3, rfl, hp3, hk3, hl3⟩, bb⟩
             have HF3 := Lib.hid ((Fr.refl (fun _ => False) wo).then_below bb)
             have HP3 := Lib.hid hp3
             have HK3 := Lib.hid hk3
             have HL3 := Lib.hid hl3
             obtain ⟨w4, hw4⟩ : ∃ w4, w3.alloc (.cells zeroE 45) = w4 := ⟨_, rfl⟩
             have HZ := Lib.hid (show Whole w4 w3.heap.size 45 zeroE from (by subst hw4; exact Whole.new w3 45 zeroE))
             have HF4 := Lib.hid (show Fr (fun _ => False) w3 w4 from (by subst hw4; exact (Fr.refl _ w3).alloc _))
             unfold zeroE at hw4
             simp [List.replicate] at hw4
             clear hp3 hk3 hl3 bb)) | (
               (refine wpList_store_at rfl 45 _ _ rfl w3.heap.size 0 45 zeroE cx rfl rfl HZ.out (by rw [zeroE_size, hcs]; exact Nat.le_refl _) (by rw [hcs]; exact size_ent) HCA.out ?_
                intro w5 hw5 hf5
                rw [laidAt_all _ _ (by rw [zeroE_size, hcs])] at hw5
                have HW5 := Lib.hid hw5
                have HF5 := Lib.hid (show Fr (fun _ => False) wo w5 from (HF3.out.trans HF4.out (fun _ _ e => e)).trans hf5 (fun i hi e => by have := HF3.out.size; omega))
                have N0 := Lib.hid (HO.out.fr HF5.out)
                clear hw5 hf5)))
        go_roundg d
        case measure => omega
        case rel => exact ⟨restT l, es ++ [entT l], A3, c3, by rw [HD.out], HP3.out, by rw [HD.out]; exact HK3.out, HL3.out, by rw [HD.out]; exact Nat.le_refl _, by rw [List.length_append, HD.out, HMn.out, List.length_singleton]; omega, N2.out, HG1⟩
      · have HG1 := Lib.hid ((getW_bad es hn0 he).symm.trans HGW.out)
        obtain ⟨x, hx⟩ : ∃ x, errT l = x := ⟨_, rfl⟩
        rw [hx] at HG1 HTk he
        have hxz : (x == 0) = false := by simp [he]
        have hnp : (0 : Int) < n := by omega
        rw [hn] at HTk ⊢
        clear hx hcx hp2 hk2 hl2 ho hn hn0 hpos hlx
        go_wp2_with (first | (
          (go_at_call 31
           refine (HTk.out _ HFo.out).mono ?_
           rintro e w3 ⟨⟨A3, c3, rfl, hp3, hk3, hl3⟩, bb⟩
           have HF3 := Lib.hid ((Fr.refl (fun _ => False) wo).then_below bb)
           have HP3 := Lib.hid hp3
           have HK3 := Lib.hid hk3
           have HL3 := Lib.hid hl3
           obtain ⟨w4, hw4⟩ : ∃ w4, w3.alloc (.cells zeroE 45) = w4 := ⟨_, rfl⟩
           have HZ := Lib.hid (show Whole w4 w3.heap.size 45 zeroE from (by subst hw4; exact Whole.new w3 45 zeroE))
           have HF4 := Lib.hid (show Fr (fun _ => False) w3 w4 from (by subst hw4; exact (Fr.refl _ w3).alloc _))
           unfold zeroE at hw4
           simp [List.replicate] at hw4
           clear hp3 hk3 hl3 bb)) | (
             (refine wpList_store_at rfl 45 _ _ rfl w3.heap.size 0 45 zeroE cx rfl rfl HZ.out (by rw [zeroE_size, hcs]; exact Nat.le_refl _) (by rw [hcs]; exact size_ent) HCA.out ?_
              intro w5 hw5 hf5
              rw [laidAt_all _ _ (by rw [zeroE_size, hcs])] at hw5
              have HW5 := Lib.hid hw5
              have HF5 := Lib.hid (show Fr (fun _ => False) wo w5 from (HF3.out.trans HF4.out (fun _ _ e => e)).trans hf5 (fun i hi e => by have := HF3.out.size; omega))
              have N0 := Lib.hid (HO.out.fr HF5.out)
              clear hw5 hf5)))
        go_ret2
        exact ⟨.slice none 0 0, by rw [← HG1.out]; rfl, by rw [← HG1.out]; exact OwnE.nil (HFo.out.trans HF5.out (fun _ _ e => e))⟩
end Go.Proofs.Ytcbgpbcfpeanjaa

/- What is proved: a commit as bytes, by the document. Conditions: the parents' cells are there, nothing is too long for any machine. -/
import Derived.Test.YtppddpbacpeadaaDoorRvk
namespace Go.Proofs.YtppddpbacpeadaaDoor
open Go.RowKit Go.Sort Go.Shelf
open Ids (idC dgt big idC_size idC_get idC_one cellD zero32 size32 dgt_lt hexB)
set_option linter.unusedVariables false

theorem digS_len (n : Int) (hn : n ≤ 9223372036854775807) : (digS n).length ≤ 21 := by
  unfold digS
  split
  · exact Nat.zero_le _
  · have := Lib.itoa_length_le n (by omega) hn
    rwa [Lib.itoa, if_neg (by omega)] at this
theorem head_as {n : Nat} {X : List UInt8} (hX : X.length ≤ n) : [116, 114, 101, 101, 32] ++ X ++ [10] = lineB wTree X := by simp [lineB, wTree]
set_option maxHeartbeats 6400000 in
set_option maxRecDepth 100000 in
theorem QvPut_any (T : Nat) (A : Option Addr) (c : Nat) (ps : List Nat) (a : List UInt8) (n : Int) (t : List UInt8) (hb : ∀ n ∈ ps, n < big) (ha : a.length ≤ 9223372036854775806) (ht : t.length ≤ 9223372036854775806) (w : World) (h1 : Lies w A (flatI ps)) :
    Calls Tryd.prog 9 #[.agg (revC T (.slice A ps.length c) a n t)] w fun e w' => ∃ A2 c2, e = .returned (.tuple #[.slice A2 (putR T ps a n t).length c2, .int .i64 (chkE ps a n t)]) ∧ Lies w' A2 (bytesV (putR T ps a n t)) ∧ Below w.heap.size w w' := by
  obtain ⟨w1, hw1⟩ : ∃ w1, w.alloc (.cells (revC T (.slice A ps.length c) a n t) 26) = w1 := ⟨_, rfl⟩
  have hF : Fr (fun _ => False) w w1 := by subst hw1; exact (Fr.refl _ w).alloc _
  have hS : RevAt w1 w.heap.size T (.slice A ps.length c) a n t := by subst hw1; exact RevAt.new w
  have HF := Lib.hid hF
  have HLI := Lib.hid (h1.fr hF (fun _ _ e => e))
  have HC := Lib.hid (QvCheck_any T A c ps a n t hb ha ht w1 (h1.fr hF (fun _ _ e => e)))
  have HP1 : Hid (chkE ps a n t ≠ 0 → putR T ps a n t = []) := Lib.hid (fun e => by rw [putR, if_neg e])
  have HP2 : Hid (chkE ps a n t = 0 → putR T ps a n t = revB T ps a n t) := Lib.hid (fun e => by rw [putR, if_pos e])
  have HOK := Lib.hid (fun e => chkE_ok (ps := ps) (a := a) (n := n) (t := t) e)
  have HCS := Lib.hid (revC_size T (.slice A ps.length c) a n t)
  have HCV : Hid (∀ w', Fr (fun _ => False) w1 w' → w'.cell? ⟨w.heap.size, 32, none⟩ = some (.slice A ps.length c)) := Lib.hid (fun w' f => (hS.fr f).cv)
  have HCA : Hid (∀ w', Fr (fun _ => False) w1 w' → w'.cell? ⟨w.heap.size, 33, none⟩ = some (.string (strB a))) := Lib.hid (fun w' f => (hS.fr f).ca)
  have HCN : Hid (∀ w', Fr (fun _ => False) w1 w' → w'.cell? ⟨w.heap.size, 34, none⟩ = some (.int .i64 n)) := Lib.hid (fun w' f => (hS.fr f).cn)
  have HCT : Hid (∀ w', Fr (fun _ => False) w1 w' → w'.cell? ⟨w.heap.size, 35, none⟩ = some (.string (strB t))) := Lib.hid (fun w' f => (hS.fr f).ct)
  have HID : Hid (∀ w', Fr (fun _ => False) w1 w' → w'.rangeAt w.heap.size 0 (idC (dgt T)).toList) := Lib.hid (fun w' f => (hS.fr f).id)
  obtain ⟨r, hr⟩ : ∃ r, chkE ps a n t = r := ⟨_, rfl⟩
  rw [hr] at HC HP1 HP2 HOK ⊢
  obtain ⟨cs, hcs⟩ : ∃ cs, revC T (.slice A ps.length c) a n t = cs := ⟨_, rfl⟩
  rw [hcs] at hw1 HC HCS ⊢
  have HW : Hid (∀ w', Fr (fun _ => False) w1 w' → Whole w' w.heap.size 26 cs) := Lib.hid (fun w' f => by rw [← hcs]; exact hS.fr f)
  obtain ⟨L, hL⟩ : ∃ L, ps.length = L := ⟨_, rfl⟩
  have HLn := Lib.hid hL
  have HB := Lib.hid hb
  rw [hL] at HCV HOK
  clear hr hcs hS hF h1 hb ha ht hL
  have HX1 := Lib.hid (fun (w : World) => Ids.QHex_any (dgt T) (dgt_lt T) w)
  have HXS : Ids.hexS (dgt T) = strB (hexI T) := rfl
  rw [HXS] at HX1
  have HHL := hexI_len T
  clear HXS
  by_cases hr0 : r = 0
  · subst hr0
    obtain ⟨hp6, ht4, _, hna, hn0, hn1⟩ := HOK.out rfl
    have ha32 := name_small hna
    have hd21 := digS_len n (by omega)
    have HXP := Lib.hid (fun (p : Nat) (w : World) => Ids.QHex_any (dgt p) (dgt_lt p) w)
    have HBL := Lib.hid (fun (k : Nat) => parB_len (ps.take k))
    have HHT : Hid ((lineB wTree (hexI T)).length = 70) := Lib.hid (by rw [lineB_len, HHL]; rfl)
    have a1 : ∀ w, (Op.stringOp .add (ByteArray.mk #[116, 114, 101, 101, 32]) (strB (hexI T))).run Tryd.prog w = .ok (.string (strB ([116, 114, 101, 101, 32] ++ hexI T))) w := fun w => add_str [116, 114, 101, 101, 32] (hexI T) (by rw [HHL]; decide) w
    have a2 : ∀ w, (Op.stringOp .add (strB ([116, 114, 101, 101, 32] ++ hexI T)) (ByteArray.mk #[10])).run Tryd.prog w = .ok (.string (strB (lineB wTree (hexI T)))) w := fun w => by
      have := add_str (P := Tryd.prog) ([116, 114, 101, 101, 32] ++ hexI T) [10] (by rw [List.length_append, HHL]; decide) w
      rw [head_as (Nat.le_refl _)] at this
      exact this
    have HAD := Lib.hid (fun (x y : List UInt8) (hx : x.length ≤ 10000) (hy : y.length ≤ 10000) (w : World) => add_str (P := Tryd.prog) x y (by omega) w)
    obtain ⟨ct, hct⟩ : ∃ c, idC (dgt T) = c := ⟨_, rfl⟩
    have hcts : ct.size = 32 := by rw [← hct]; exact idC_size _
    rw [hct] at HID HX1
    obtain ⟨Sx, hSx⟩ : ∃ S, strB (hexI T) = S := ⟨_, rfl⟩
    rw [hSx] at HX1 a1
    obtain ⟨Sy, hSy⟩ : ∃ S, strB ([116, 114, 101, 101, 32] ++ hexI T) = S := ⟨_, rfl⟩
    rw [hSy] at a1 a2
    obtain ⟨X0, hX0⟩ : ∃ X, lineB wTree (hexI T) = X := ⟨_, rfl⟩
    have HX0 := Lib.hid hX0
    rw [hX0] at a2 HHT
    obtain ⟨S0, hS0⟩ : ∃ S, strB X0 = S := ⟨_, rfl⟩
    have HS0 := Lib.hid hS0
    rw [hS0] at a2
    clear hct hSx hSy HHL hna hX0 hS0
    go_enter Tryd.func9, Tryd.ntmps9
    go_wp2_with (first
      | (refine wpList_load_row rfl 26 _ rfl _ rfl 26 _ _ _ (HW.out _ (Fr.refl _ _)) Tryd.underlying26 rfl (by rw [HCS.out]; exact size36) ?_)
      | (go_at_call 14; refine HC.out.mono ?_; rintro e w2 ⟨rfl, bb⟩; have F2 := Lib.hid (Fr.of_below (S := fun _ => False) bb); clear bb)
      | (refine wpList_load_mid rfl 23 _ rfl w.heap.size 0 rfl _ _ (HID.out _ F2.out) Tryd.underlying23 rfl (by rw [Array.length_toList, hcts]; exact size32) ?_)
      | (go_at_call 31; refine (HX1.out _).mono ?_; rintro e w3 ⟨rfl, b3⟩; have F3 := Lib.hid (F2.out.then_below b3); clear b3))
    have HN0 : Hid (X0 ++ parB (ps.take 0) = X0) := Lib.hid (by simp [parB])
    clear a1 a2
    go_loopg [5, 6] L (fun kx s5 s6 wr => ∃ k : Nat, s6 = .int .i64 k ∧ k ≤ L ∧ L - k ≤ kx ∧ s5 = .string (strB (X0 ++ parB (ps.take k))) ∧ Fr (fun _ => False) w1 wr)
    case atStart => exact ⟨0, rfl, by omega, by omega, by rw [HN0.out, HS0.out], F3.out⟩
    case round =>
      obtain ⟨k, rfl, hk, hkx, rfl, hf⟩ := hrel
      obtain ⟨wo, rfl⟩ : ∃ wo, wo = wr := ⟨wr, rfl⟩
      have wk1 := wrap_k1 k (by omega)
      have hlen : (X0 ++ parB (ps.take k)).length ≤ 502 := by rw [List.length_append, HHT.out, HBL.out, List.length_take]; omega
      have hv := HCV.out _ hf
      have HFr := Lib.hid hf
      by_cases hlt : k < L
      · have hltz : (k : Int) < L := by omega
        obtain ⟨b, o, hB⟩ := HLI.out.some_of (by rw [HLn.out]; omega)
        subst hB
        have hka := gt_some ps k (by rw [HLn.out]; exact hlt)
        have HNX := Lib.hid (show X0 ++ parB (ps.take (k + 1)) = (X0 ++ parB (ps.take k)) ++ [112, 97, 114, 101, 110, 116, 32] ++ hexI (gt ps k) ++ [10] by rw [take_snocN ps k (by rw [HLn.out]; exact hlt), parB_snoc]; simp [lineB, wParent])
        obtain ⟨xs, hxe⟩ : ∃ xs, X0 ++ parB (ps.take k) = xs := ⟨_, rfl⟩
        rw [hxe] at hlen HNX ⊢
        have hXp := Lib.hid (HXP.out (gt ps k))
        have hXs : Ids.hexS (dgt (gt ps k)) = strB (hexI (gt ps k)) := rfl
        rw [hXs] at hXp
        have hhl := hexI_len (gt ps k)
        have hrg : Hid (wo.rangeAt b (o + k * 32) (idC (dgt (gt ps k))).toList) := Lib.hid (range_at HLI.out hka hf)
        have hcs := idC_size (dgt (gt ps k))
        obtain ⟨H, hH⟩ : ∃ H, hexI (gt ps k) = H := ⟨_, rfl⟩
        rw [hH] at hXp hhl HNX
        have a1 : ∀ w, (Op.stringOp .add (strB xs) (ByteArray.mk #[112, 97, 114, 101, 110, 116, 32])).run Tryd.prog w = .ok (.string (strB (xs ++ [112, 97, 114, 101, 110, 116, 32]))) w := fun w => HAD.out xs [112, 97, 114, 101, 110, 116, 32] (by omega) (by decide) w
        have a2 := fun w => HAD.out (xs ++ [112, 97, 114, 101, 110, 116, 32]) (H) (by rw [List.length_append]; simp; omega) (by omega) w
        have a3 : ∀ w, (Op.stringOp .add (strB (xs ++ [112, 97, 114, 101, 110, 116, 32] ++ H)) (ByteArray.mk #[10])).run Tryd.prog w = .ok (.string (strB (xs ++ [112, 97, 114, 101, 110, 116, 32] ++ H ++ [10]))) w := fun w => HAD.out (xs ++ [112, 97, 114, 101, 110, 116, 32] ++ H) [10] (by rw [List.length_append, List.length_append]; simp; omega) (by decide) w
        rw [← HNX.out] at a3
        obtain ⟨cx, hcx⟩ : ∃ c, idC (dgt (gt ps k)) = c := ⟨_, rfl⟩
        rw [hcx] at hrg hXp hcs
        obtain ⟨S, hS⟩ : ∃ S, strB (H) = S := ⟨_, rfl⟩
        rw [hS] at hXp a2
        obtain ⟨S1, hS1⟩ : ∃ S, strB xs = S := ⟨_, rfl⟩
        obtain ⟨S2, hS2⟩ : ∃ S, strB (xs ++ [112, 97, 114, 101, 110, 116, 32]) = S := ⟨_, rfl⟩
        obtain ⟨S3, hS3⟩ : ∃ S, strB (xs ++ [112, 97, 114, 101, 110, 116, 32] ++ H) = S := ⟨_, rfl⟩
        obtain ⟨S4, hS4⟩ : ∃ S, strB (X0 ++ parB (ps.take (k + 1))) = S := ⟨_, rfl⟩
        have HS4 := Lib.hid hS4
        rw [hS1, hS2] at a1
        rw [hS2, hS3] at a2
        rw [hS3, hS4] at a3
        rw [hS1]
        clear hka hcx hXs hS hS1 hS2 hS3 hS4 hxe hf hhl hH
        go_wp2_with (first
          | (refine wpList_load_mid rfl 23 _ rfl b (o + k * 32) rfl _ _ hrg.out Tryd.underlying23 rfl (by rw [Array.length_toList, hcs]; exact size32) ?_)
          | (go_at_call 31; refine (hXp.out _).mono ?_; rintro e w6 ⟨rfl, b6⟩; have F6 := Lib.hid (HFr.out.then_below b6); clear b6))
        go_roundg (L - (k + 1))
        case measure => omega
        case rel => exact ⟨k + 1, by go_num, by omega, Nat.le_refl _, by rw [HS4.out], F6.out⟩
      · obtain rfl : k = L := by omega
        have hall : ps.take k = ps := List.take_of_length_le (by rw [HLn.out]; exact Nat.le_refl _)
        rw [hall] at hlen ⊢
        have HPU : Hid (putR T ps a n t = (X0 ++ parB ps) ++ [97, 117, 116, 104, 111, 114, 32] ++ a ++ [10, 116, 105, 109, 101, 32] ++ digS n ++ [10, 10] ++ t) := Lib.hid (by rw [HP2.out (by first | rfl | trivial), revB, HX0.out]; simp [lineB, wAuthor, wTime])
        obtain ⟨xs, hxe⟩ : ∃ xs, X0 ++ parB ps = xs := ⟨_, rfl⟩
        rw [hxe] at hlen HPU ⊢
        have a1 : ∀ w, (Op.stringOp .add (strB xs) (ByteArray.mk #[97, 117, 116, 104, 111, 114, 32])).run Tryd.prog w = .ok (.string (strB (xs ++ [97, 117, 116, 104, 111, 114, 32]))) w := fun w => HAD.out xs [97, 117, 116, 104, 111, 114, 32] (by omega) (by decide) w
        obtain ⟨y1, hy1⟩ : ∃ y, xs ++ [97, 117, 116, 104, 111, 114, 32] = y := ⟨_, rfl⟩
        have hl1 : y1.length ≤ 510 := by rw [← hy1, List.length_append]; simp; omega
        rw [hy1] at a1 HPU
        have a2 := fun w => HAD.out y1 a (by omega) (by omega) w
        obtain ⟨y2, hy2⟩ : ∃ y, y1 ++ a = y := ⟨_, rfl⟩
        have hl2 : y2.length ≤ 550 := by rw [← hy2, List.length_append]; omega
        rw [hy2] at a2 HPU
        have a3 : ∀ w, (Op.stringOp .add (strB y2) (ByteArray.mk #[10, 116, 105, 109, 101, 32])).run Tryd.prog w = .ok (.string (strB (y2 ++ [10, 116, 105, 109, 101, 32]))) w := fun w => HAD.out y2 [10, 116, 105, 109, 101, 32] (by omega) (by decide) w
        obtain ⟨y3, hy3⟩ : ∃ y, y2 ++ [10, 116, 105, 109, 101, 32] = y := ⟨_, rfl⟩
        have hl3 : y3.length ≤ 560 := by rw [← hy3, List.length_append]; simp; omega
        rw [hy3] at a3 HPU
        have a4 := fun w => HAD.out y3 (digS n) (by omega) (by omega) w
        obtain ⟨y4, hy4⟩ : ∃ y, y3 ++ digS n = y := ⟨_, rfl⟩
        have hl4 : y4.length ≤ 590 := by rw [← hy4, List.length_append]; omega
        rw [hy4] at a4 HPU
        have a5 : ∀ w, (Op.stringOp .add (strB y4) (ByteArray.mk #[10, 10])).run Tryd.prog w = .ok (.string (strB (y4 ++ [10, 10]))) w := fun w => HAD.out y4 [10, 10] (by omega) (by decide) w
        obtain ⟨y5, hy5⟩ : ∃ y, y4 ++ [10, 10] = y := ⟨_, rfl⟩
        have hl5 : y5.length ≤ 600 := by rw [← hy5, List.length_append]; simp; omega
        rw [hy5] at a5 HPU
        have a6 := fun w => HAD.out y5 t (by omega) (by omega) w
        obtain ⟨y6, hy6⟩ : ∃ y, y5 ++ t = y := ⟨_, rfl⟩
        rw [hy6] at a6 HPU
        have HCO := Lib.hid (fun w => conv_str w y6)
        have HSZ := Lib.hid (strB_size y6)
        have HDG := Lib.hid (fun (w : World) => QvDigits_any n (by omega) w)
        obtain ⟨Sa, hSa⟩ : ∃ S, strB a = S := ⟨_, rfl⟩
        obtain ⟨St, hSt⟩ : ∃ S, strB t = S := ⟨_, rfl⟩
        obtain ⟨Sd, hSd⟩ : ∃ S, strB (digS n) = S := ⟨_, rfl⟩
        obtain ⟨Z0, hZ0⟩ : ∃ S, strB xs = S := ⟨_, rfl⟩
        obtain ⟨Z1, hZ1⟩ : ∃ S, strB y1 = S := ⟨_, rfl⟩
        obtain ⟨Z2, hZ2⟩ : ∃ S, strB y2 = S := ⟨_, rfl⟩
        obtain ⟨Z3, hZ3⟩ : ∃ S, strB y3 = S := ⟨_, rfl⟩
        obtain ⟨Z4, hZ4⟩ : ∃ S, strB y4 = S := ⟨_, rfl⟩
        obtain ⟨Z5, hZ5⟩ : ∃ S, strB y5 = S := ⟨_, rfl⟩
        obtain ⟨Z6, hZ6⟩ : ∃ S, strB y6 = S := ⟨_, rfl⟩
        have c1 : ∀ q : Later wo, q.w'.cell? ⟨w.heap.size, 33, none⟩ = some (.string (strB a)) := fun q => HCA.out _ (HFr.out.trans q.fr (fun _ _ e => e))
        have c2 : ∀ q : Later wo, q.w'.cell? ⟨w.heap.size, 34, none⟩ = some (.int .i64 n) := fun q => HCN.out _ (HFr.out.trans q.fr (fun _ _ e => e))
        have c3 : ∀ q : Later wo, q.w'.cell? ⟨w.heap.size, 35, none⟩ = some (.string (strB t)) := fun q => HCT.out _ (HFr.out.trans q.fr (fun _ _ e => e))
        rw [hSa] at c1 a2
        rw [hSt] at c3 a6
        rw [hSd] at a4 HDG
        rw [hZ0, hZ1] at a1
        rw [hZ1, hZ2] at a2
        rw [hZ2, hZ3] at a3
        rw [hZ3, hZ4] at a4
        rw [hZ4, hZ5] at a5
        rw [hZ5, hZ6] at a6
        rw [hZ6] at HCO HSZ
        rw [hZ0]
        have hltz : ¬ ((k : Int) < (k : Int)) := by omega
        obtain ⟨B1, hB1⟩ : ∃ S, ByteArray.mk #[97, 117, 116, 104, 111, 114, 32] = S := ⟨_, rfl⟩
        obtain ⟨B2, hB2⟩ : ∃ S, ByteArray.mk #[10, 116, 105, 109, 101, 32] = S := ⟨_, rfl⟩
        obtain ⟨B3, hB3⟩ : ∃ S, ByteArray.mk #[10, 10] = S := ⟨_, rfl⟩
        rw [hB1] at a1
        rw [hB2] at a3
        rw [hB3] at a5
        clear hall hxe hlen hy1 hy2 hy3 hy4 hy5 hy6 hSa hSt hSd hZ0 hZ1 hZ2 hZ3 hZ4 hZ5 hZ6 hf hl1 hl2 hl3 hl4 hl5
        go_wp2_with fail
        refine wp_region_later (w0 := wo) (Fr.refl _ _) (by kernel_rfl) (by kernel_rfl) ?_
        repeat (quiet_step ((go_at_call 16; refine Calls.later_of (HDG.out _))))
        refine wpQuiet_nil ?_
        intro _ hw'
        obtain ⟨q, hw''⟩ := hw'
        subst hw''
        obtain ⟨c6, w6, hcv, hf6, hl6⟩ := HCO.out q.w'
        go_wp2_with fail
        go_ret2
        refine ⟨_, c6, by rw [HPU.out, ← HSZ.out]; rfl, ?_, ?_⟩
        · rw [HPU.out]; exact hl6
        · exact (((HF.out.trans HFr.out (fun _ _ e => e)).trans q.fr (fun _ _ e => e)).trans hf6 (fun _ _ e => e)).below (fun _ _ e => e)
  · have hrz : (r == 0) = false := by simp [hr0]
    go_enter Tryd.func9, Tryd.ntmps9
    go_wp2_with (first
      | (refine wpList_load_row rfl 26 _ rfl _ rfl 26 _ _ _ (HW.out _ (Fr.refl _ _)) Tryd.underlying26 rfl (by rw [HCS.out]; exact size36) ?_)
      | (go_at_call 14; refine HC.out.mono ?_; rintro e w2 ⟨rfl, bb⟩))
    go_ret2
    refine ⟨none, 0, ?_, ?_, (HF.out.then_below bb).below (fun _ _ e => e)⟩
    · rw [HP1.out hr0]; rfl
    · rw [HP1.out hr0]; exact .inl rfl
end Go.Proofs.YtppddpbacpeadaaDoor

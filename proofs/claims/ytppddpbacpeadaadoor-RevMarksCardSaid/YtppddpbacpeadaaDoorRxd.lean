/- What is proved: a tag as bytes, by the document. Conditions: nothing is too long for any machine. -/
import Derived.Test.YtppddpbacpeadaaDoorRxb
import Derived.Test.YtppddpbacpeadaaDoorRxc
namespace Go.Proofs.YtppddpbacpeadaaDoor
open Go.RowKit Go.Sort Go.Shelf
open Ids (idC dgt big idC_size idC_get idC_one cellD zero32 size32 dgt_lt hexB)
set_option linter.unusedVariables false

set_option maxHeartbeats 6400000 in
set_option maxRecDepth 100000 in
theorem QvPutMark_any (T : Nat) (k : Int) (a : List UInt8) (n : Int) (t : List UInt8) (ha : a.length ≤ 9223372036854775806) (ht : t.length ≤ 9223372036854775806) (w : World) :
    Calls Tryd.prog 23 #[.agg (markC T k a n t)] w fun e w' => ∃ A2 c2, e = .returned (.tuple #[.slice A2 (putM T k a n t).length c2, .int .i64 (mchkE k a n t)]) ∧ Lies w' A2 (bytesV (putM T k a n t)) ∧ Below w.heap.size w w' := by
  obtain ⟨w1, hw1⟩ : ∃ w1, w.alloc (.cells (markC T k a n t) 51) = w1 := ⟨_, rfl⟩
  have hF : Fr (fun _ => False) w w1 := by subst hw1; exact (Fr.refl _ w).alloc _
  have hS : MarkAt w1 w.heap.size T k a n t := by subst hw1; exact MarkAt.new w
  have HF := Lib.hid hF
  have HC := Lib.hid (QvCheckMark_any T k a n t ha ht w1)
  have HP1 : Hid (mchkE k a n t ≠ 0 → putM T k a n t = []) := Lib.hid (fun e => by rw [putM, if_neg e])
  have HP2 : Hid (mchkE k a n t = 0 → putM T k a n t = markB T k a n t) := Lib.hid (fun e => by rw [putM, if_pos e])
  have HOK := Lib.hid (fun e => mchkE_ok (k := k) (a := a) (n := n) (t := t) e)
  have HCS := Lib.hid (markC_size T k a n t)
  have HCK : Hid (∀ w', Fr (fun _ => False) w1 w' → w'.cell? ⟨w.heap.size, 32, none⟩ = some (.int .i64 k)) := Lib.hid (fun w' f => (hS.fr f).ck)
  have HCA : Hid (∀ w', Fr (fun _ => False) w1 w' → w'.cell? ⟨w.heap.size, 33, none⟩ = some (.string (strB a))) := Lib.hid (fun w' f => (hS.fr f).ca)
  have HCN : Hid (∀ w', Fr (fun _ => False) w1 w' → w'.cell? ⟨w.heap.size, 34, none⟩ = some (.int .i64 n)) := Lib.hid (fun w' f => (hS.fr f).cn)
  have HCT : Hid (∀ w', Fr (fun _ => False) w1 w' → w'.cell? ⟨w.heap.size, 35, none⟩ = some (.string (strB t))) := Lib.hid (fun w' f => (hS.fr f).ct)
  have HID : Hid (∀ w', Fr (fun _ => False) w1 w' → w'.rangeAt w.heap.size 0 (idC (dgt T)).toList) := Lib.hid (fun w' f => (hS.fr f).id)
  have HLD : Hid (∀ w', Fr (fun _ => False) w1 w' → Whole w' w.heap.size 51 (markC T k a n t)) := Lib.hid (fun w' f => hS.fr f)
  obtain ⟨r, hr⟩ : ∃ r, mchkE k a n t = r := ⟨_, rfl⟩
  rw [hr] at HC HP1 HP2 HOK ⊢
  obtain ⟨cs, hcs⟩ : ∃ cs, markC T k a n t = cs := ⟨_, rfl⟩
  rw [hcs] at hw1 HC HCS ⊢
  have HW : Hid (∀ w', Fr (fun _ => False) w1 w' → Whole w' w.heap.size 51 cs) := Lib.hid (fun w' f => by rw [← hcs]; exact hS.fr f)
  clear hr hcs hS hF ha ht
  by_cases hr0 : r = 0
  · subst hr0
    obtain ⟨ht4, hk1, hk4, hna, hn0, hn1⟩ := HOK.out rfl
    have ha32 := name_small hna
    have hdk := digS_len k (by omega)
    have hdn := digS_len n (by omega)
    have HX1 := Lib.hid (fun (w : World) => Ids.QHex_any (dgt T) (dgt_lt T) w)
    have HXS : Ids.hexS (dgt T) = strB (hexI T) := rfl
    rw [HXS] at HX1
    have hxl := hexI_len T
    have HDK := Lib.hid (fun (w : World) => QvDigits_any k (by omega) w)
    have HDN := Lib.hid (fun (w : World) => QvDigits_any n (by omega) w)
    have HAD := Lib.hid (fun (x y : List UInt8) (hx : x.length ≤ 10000) (hy : y.length ≤ 10000) (w : World) => add_str (P := Tryd.prog) x y (by omega) w)
    have HPU : Hid (putM T k a n t = [111, 98, 106, 101, 99, 116, 32] ++ hexI T ++ [10, 107, 105, 110, 100, 32] ++ digS k ++ [10, 110, 97, 109, 101, 32] ++ a ++ [10, 116, 105, 109, 101, 32] ++ digS n ++ [10, 10] ++ t) := Lib.hid (by rw [HP2.out (by first | rfl | trivial), markB]; simp [lineB, wObject, wKind, wName, wTime])
    obtain ⟨X, hX⟩ : ∃ X, hexI T = X := ⟨_, rfl⟩
    obtain ⟨DK, hDK⟩ : ∃ X, digS k = X := ⟨_, rfl⟩
    obtain ⟨DN, hDN⟩ : ∃ X, digS n = X := ⟨_, rfl⟩
    rw [hX] at HX1 hxl HPU
    rw [hDK] at hdk HDK HPU
    rw [hDN] at hdn HDN HPU
    have a0 : ∀ w, (Op.stringOp .add (ByteArray.mk #[111, 98, 106, 101, 99, 116, 32]) (strB X)).run Tryd.prog w = .ok (.string (strB ([111, 98, 106, 101, 99, 116, 32] ++ X))) w := fun w => HAD.out ([111, 98, 106, 101, 99, 116, 32]) (X) (by decide) (by omega) w
    obtain ⟨y0, hy0⟩ : ∃ y, [111, 98, 106, 101, 99, 116, 32] ++ X = y := ⟨_, rfl⟩
    have ly0 : y0.length ≤ 71 := by rw [← hy0, List.length_append]; first | omega | (simp; omega)
    rw [hy0] at a0 HPU
    have a1 : ∀ w, (Op.stringOp .add (strB y0) (ByteArray.mk #[10, 107, 105, 110, 100, 32])).run Tryd.prog w = .ok (.string (strB (y0 ++ [10, 107, 105, 110, 100, 32]))) w := fun w => HAD.out (y0) ([10, 107, 105, 110, 100, 32]) (by omega) (by decide) w
    obtain ⟨y1, hy1⟩ : ∃ y, y0 ++ [10, 107, 105, 110, 100, 32] = y := ⟨_, rfl⟩
    have ly1 : y1.length ≤ 80 := by rw [← hy1, List.length_append]; first | omega | (simp; omega)
    rw [hy1] at a1 HPU
    have a2 : ∀ w, (Op.stringOp .add (strB y1) (strB DK)).run Tryd.prog w = .ok (.string (strB (y1 ++ DK))) w := fun w => HAD.out (y1) (DK) (by omega) (by omega) w
    obtain ⟨y2, hy2⟩ : ∃ y, y1 ++ DK = y := ⟨_, rfl⟩
    have ly2 : y2.length ≤ 101 := by rw [← hy2, List.length_append]; first | omega | (simp; omega)
    rw [hy2] at a2 HPU
    have a3 : ∀ w, (Op.stringOp .add (strB y2) (ByteArray.mk #[10, 110, 97, 109, 101, 32])).run Tryd.prog w = .ok (.string (strB (y2 ++ [10, 110, 97, 109, 101, 32]))) w := fun w => HAD.out (y2) ([10, 110, 97, 109, 101, 32]) (by omega) (by decide) w
    obtain ⟨y3, hy3⟩ : ∃ y, y2 ++ [10, 110, 97, 109, 101, 32] = y := ⟨_, rfl⟩
    have ly3 : y3.length ≤ 110 := by rw [← hy3, List.length_append]; first | omega | (simp; omega)
    rw [hy3] at a3 HPU
    have a4 : ∀ w, (Op.stringOp .add (strB y3) (strB a)).run Tryd.prog w = .ok (.string (strB (y3 ++ a))) w := fun w => HAD.out (y3) (a) (by omega) (by omega) w
    obtain ⟨y4, hy4⟩ : ∃ y, y3 ++ a = y := ⟨_, rfl⟩
    have ly4 : y4.length ≤ 142 := by rw [← hy4, List.length_append]; first | omega | (simp; omega)
    rw [hy4] at a4 HPU
    have a5 : ∀ w, (Op.stringOp .add (strB y4) (ByteArray.mk #[10, 116, 105, 109, 101, 32])).run Tryd.prog w = .ok (.string (strB (y4 ++ [10, 116, 105, 109, 101, 32]))) w := fun w => HAD.out (y4) ([10, 116, 105, 109, 101, 32]) (by omega) (by decide) w
    obtain ⟨y5, hy5⟩ : ∃ y, y4 ++ [10, 116, 105, 109, 101, 32] = y := ⟨_, rfl⟩
    have ly5 : y5.length ≤ 150 := by rw [← hy5, List.length_append]; first | omega | (simp; omega)
    rw [hy5] at a5 HPU
    have a6 : ∀ w, (Op.stringOp .add (strB y5) (strB DN)).run Tryd.prog w = .ok (.string (strB (y5 ++ DN))) w := fun w => HAD.out (y5) (DN) (by omega) (by omega) w
    obtain ⟨y6, hy6⟩ : ∃ y, y5 ++ DN = y := ⟨_, rfl⟩
    have ly6 : y6.length ≤ 171 := by rw [← hy6, List.length_append]; first | omega | (simp; omega)
    rw [hy6] at a6 HPU
    have a7 : ∀ w, (Op.stringOp .add (strB y6) (ByteArray.mk #[10, 10])).run Tryd.prog w = .ok (.string (strB (y6 ++ [10, 10]))) w := fun w => HAD.out (y6) ([10, 10]) (by omega) (by decide) w
    obtain ⟨y7, hy7⟩ : ∃ y, y6 ++ [10, 10] = y := ⟨_, rfl⟩
    have ly7 : y7.length ≤ 173 := by rw [← hy7, List.length_append]; first | omega | (simp; omega)
    rw [hy7] at a7 HPU
    have a8 : ∀ w, (Op.stringOp .add (strB y7) (strB t)).run Tryd.prog w = .ok (.string (strB (y7 ++ t))) w := fun w => HAD.out (y7) (t) (by omega) (by omega) w
    obtain ⟨y8, hy8⟩ : ∃ y, y7 ++ t = y := ⟨_, rfl⟩
    have ly8 : y8.length ≤ 573 := by rw [← hy8, List.length_append]; first | omega | (simp; omega)
    rw [hy8] at a8 HPU
    have HCO := Lib.hid (fun w => conv_str w y8)
    have HSZ := Lib.hid (strB_size y8)
    obtain ⟨SX, hSX⟩ : ∃ S, strB X = S := ⟨_, rfl⟩
    rw [hSX] at HX1 a0
    obtain ⟨SK, hSK⟩ : ∃ S, strB DK = S := ⟨_, rfl⟩
    rw [hSK] at HDK a2
    obtain ⟨SN, hSN⟩ : ∃ S, strB DN = S := ⟨_, rfl⟩
    rw [hSN] at HDN a6
    obtain ⟨SA, hSA⟩ : ∃ S, strB a = S := ⟨_, rfl⟩
    rw [hSA] at HCA a4
    obtain ⟨ST, hST⟩ : ∃ S, strB t = S := ⟨_, rfl⟩
    rw [hST] at HCT a8
    obtain ⟨Z0, hZ0⟩ : ∃ S, strB y0 = S := ⟨_, rfl⟩
    rw [hZ0] at a0 a1
    obtain ⟨Z1, hZ1⟩ : ∃ S, strB y1 = S := ⟨_, rfl⟩
    rw [hZ1] at a1 a2
    obtain ⟨Z2, hZ2⟩ : ∃ S, strB y2 = S := ⟨_, rfl⟩
    rw [hZ2] at a2 a3
    obtain ⟨Z3, hZ3⟩ : ∃ S, strB y3 = S := ⟨_, rfl⟩
    rw [hZ3] at a3 a4
    obtain ⟨Z4, hZ4⟩ : ∃ S, strB y4 = S := ⟨_, rfl⟩
    rw [hZ4] at a4 a5
    obtain ⟨Z5, hZ5⟩ : ∃ S, strB y5 = S := ⟨_, rfl⟩
    rw [hZ5] at a5 a6
    obtain ⟨Z6, hZ6⟩ : ∃ S, strB y6 = S := ⟨_, rfl⟩
    rw [hZ6] at a6 a7
    obtain ⟨Z7, hZ7⟩ : ∃ S, strB y7 = S := ⟨_, rfl⟩
    rw [hZ7] at a7 a8
    obtain ⟨Z8, hZ8⟩ : ∃ S, strB y8 = S := ⟨_, rfl⟩
    rw [hZ8] at a8 HCO HSZ
    obtain ⟨B0, hB0⟩ : ∃ S, ByteArray.mk #[111, 98, 106, 101, 99, 116, 32] = S := ⟨_, rfl⟩
    rw [hB0] at a0
    obtain ⟨B1, hB1⟩ : ∃ S, ByteArray.mk #[10, 107, 105, 110, 100, 32] = S := ⟨_, rfl⟩
    rw [hB1] at a1
    obtain ⟨B2, hB2⟩ : ∃ S, ByteArray.mk #[10, 110, 97, 109, 101, 32] = S := ⟨_, rfl⟩
    rw [hB2] at a3
    obtain ⟨B3, hB3⟩ : ∃ S, ByteArray.mk #[10, 116, 105, 109, 101, 32] = S := ⟨_, rfl⟩
    rw [hB3] at a5
    obtain ⟨B4, hB4⟩ : ∃ S, ByteArray.mk #[10, 10] = S := ⟨_, rfl⟩
    rw [hB4] at a7
    obtain ⟨T32, hT32⟩ : ∃ T : TypeId, T = 23 := ⟨_, rfl⟩
    obtain ⟨n32, hn32⟩ : ∃ n : Nat, n = 32 := ⟨_, rfl⟩
    have ag32 : ∀ w, (isAgg T32).run Tryd.prog w = .ok true w := by rw [hT32]; exact fun _ => by kernel_rfl
    have sz32 : ∀ w, (sizeOf T32).run Tryd.prog w = .ok n32 w := by rw [hT32, hn32]; exact fun _ => by kernel_rfl
    have HLI : Hid (∀ w', Fr (fun _ => False) w1 w' → (loadCellsFrom ⟨w.heap.size, 0, none⟩ 0 n32 #[]).run Tryd.prog w' = .ok (idC (dgt T)) w') := Lib.hid (fun w' f => load_mid (HLD.out _ (Fr.refl _ _)) f (by rw [hn32]; exact (idC_size _).symm) (fun j v hv => by rw [Nat.zero_add]; exact markC_id T k a n t j v hv))
    obtain ⟨ct, hct⟩ : ∃ c, idC (dgt T) = c := ⟨_, rfl⟩
    rw [hct] at HLI HX1
    clear hX hDK hDN hna ha32 hdk hdn hxl ht4 hk1 hk4 hn0 hn1 hct hn32 HLD ly0 hy0 ly1 hy1 ly2 hy2 ly3 hy3 ly4 hy4 ly5 hy5 ly6 hy6 ly7 hy7 ly8 hy8 hSX hSK hSN hSA hST hZ0 hZ1 hZ2 hZ3 hZ4 hZ5 hZ6 hZ7 hZ8
    go_enter Tryd.func23, Tryd.ntmps23
    rw [show Op.load 23 (.tmp 11) = Op.load T32 (.tmp 11) by rw [hT32]]
    clear hT32
    go_wp2_with (first
      | (refine wpList_load_row rfl 51 _ rfl _ rfl 51 _ _ _ (HW.out _ (Fr.refl _ _)) Tryd.underlying51 rfl (by rw [HCS.out]; exact size36m) ?_)
      | (go_at_call 27; refine HC.out.mono ?_; rintro e w2 ⟨rfl, bb⟩; have F2 := Lib.hid (Fr.of_below (S := fun _ => False) bb); clear bb))
    have c0 : ∀ q : Later w2, (loadCellsFrom ⟨w.heap.size, 0, none⟩ 0 n32 #[]).run Tryd.prog q.w' = .ok ct q.w' := fun q => HLI.out _ (F2.out.trans q.fr (fun _ _ e => e))
    have c1 : ∀ q : Later w2, q.w'.cell? ⟨w.heap.size, 32, none⟩ = some (.int .i64 k) := fun q => HCK.out _ (F2.out.trans q.fr (fun _ _ e => e))
    have c2 : ∀ q : Later w2, q.w'.cell? ⟨w.heap.size, 33, none⟩ = some (.string SA) := fun q => HCA.out _ (F2.out.trans q.fr (fun _ _ e => e))
    have c3 : ∀ q : Later w2, q.w'.cell? ⟨w.heap.size, 34, none⟩ = some (.int .i64 n) := fun q => HCN.out _ (F2.out.trans q.fr (fun _ _ e => e))
    have c4 : ∀ q : Later w2, q.w'.cell? ⟨w.heap.size, 35, none⟩ = some (.string ST) := fun q => HCT.out _ (F2.out.trans q.fr (fun _ _ e => e))
    refine wp_region_later (w0 := w2) (Fr.refl _ _) (by kernel_rfl) (by kernel_rfl) ?_
    repeat (quiet_step ((first
      | (go_at_call 31; refine Calls.later_of (HX1.out _))
      | (go_at_call_of 16 (Value.int .i64 k); refine Calls.later_of (HDK.out _))
      | (go_at_call 16; refine Calls.later_of (HDN.out _)))))
    refine wpQuiet_nil ?_
    intro _ hw'
    obtain ⟨q, hw''⟩ := hw'
    subst hw''
    obtain ⟨c6, w6, hcv, hf6, hl6⟩ := HCO.out q.w'
    go_wp2_with fail
    go_ret2
    refine ⟨_, c6, by rw [HPU.out, ← HSZ.out]; rfl, ?_, ?_⟩
    · rw [HPU.out]; exact hl6
    · exact (((HF.out.trans F2.out (fun _ _ e => e)).trans q.fr (fun _ _ e => e)).trans hf6 (fun _ _ e => e)).below (fun _ _ e => e)
  · have hrz : (r == 0) = false := by simp [hr0]
    go_enter Tryd.func23, Tryd.ntmps23
    go_wp2_with (first
      | (refine wpList_load_row rfl 51 _ rfl _ rfl 51 _ _ _ (HW.out _ (Fr.refl _ _)) Tryd.underlying51 rfl (by rw [HCS.out]; exact size36m) ?_)
      | (go_at_call 27; refine HC.out.mono ?_; rintro e w2 ⟨rfl, bb⟩))
    go_ret2
    refine ⟨none, 0, ?_, ?_, (HF.out.then_below bb).below (fun _ _ e => e)⟩
    · rw [HP1.out hr0]; rfl
    · rw [HP1.out hr0]; exact .inl rfl
end Go.Proofs.YtppddpbacpeadaaDoor

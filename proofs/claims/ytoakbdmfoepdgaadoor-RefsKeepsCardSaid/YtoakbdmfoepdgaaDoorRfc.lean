/- What is proved: the first ref of the first of some names that there is, by the program. Conditions: the lists' cells are there. -/
import Derived.Test.YtoakbdmfoepdgaaDoorRfb
import Derived.BigQuiet
import Derived.Deep.RegionWith
namespace Go.Proofs.YtoakbdmfoepdgaaDoor
open Go.RowKit Go.Sort Go.Shelf
set_option linter.unusedVariables false

/-- What is told of a ref that there may be. -/
def optR (o : Option Rf) : Rf := o.getD default
theorem firstR_drop (l : List Rf) (ns : List (List UInt8)) (k : Nat) (hk : k < ns.length) : firstR l (ns.drop k) = match findR l (ns.getD k []) with | some r => some r | none => firstR l (ns.drop (k + 1)) := by
  rw [List.drop_eq_getElem_cons hk, firstR, List.getD, List.getElem?_eq_getElem hk]; rfl

set_option maxHeartbeats 3200000 in
set_option maxRecDepth 100000 in
theorem RfFirst_any (A : Option Addr) (cap : Nat) (l : List Rf) (hn : l.length ≤ 100000) (B : Option Addr) (c2 : Nat) (ns : List (List UInt8)) (hns : ns.length ≤ 1000) (w : World) (h : Lies w A (flatR l)) (h2 : Lies w B (strV ns)) :
    Calls Tryd.prog 44 #[.slice A l.length cap, .slice B ns.length c2] w fun e w' => e = .returned (.tuple #[.agg (refV (optR (firstR l ns))).toArray, .bool (firstR l ns).isSome]) ∧ Below w.heap.size w w' := by
  have HLI := Lib.hid h
  have HLS := Lib.hid h2
  have HD := Lib.hid (findR_drop l)
  have HD2 := Lib.hid (firstR_drop l ns)
  obtain ⟨L, hL⟩ : ∃ L, l.length = L := ⟨_, rfl⟩
  obtain ⟨M, hM⟩ : ∃ M, ns.length = M := ⟨_, rfl⟩
  have HLn := Lib.hid hL
  have HMn := Lib.hid hM
  obtain ⟨T, hT⟩ : ∃ T : TypeId, T = 50 := ⟨_, rfl⟩
  obtain ⟨n33, h33⟩ : ∃ n : Nat, n = 33 := ⟨_, rfl⟩
  have ag33 : ∀ w, (isAgg T).run Tryd.prog w = .ok true w := by rw [hT]; exact fun _ => by kernel_rfl
  have sz33 : ∀ w, (sizeOf T).run Tryd.prog w = .ok n33 w := by rw [hT, h33]; exact fun _ => by kernel_rfl
  have HN := Lib.hid h33
  have HT := Lib.hid hT
  rw [hL] at hn HD ⊢
  rw [hM] at hns HD2 ⊢
  obtain ⟨Z, hZ⟩ : ∃ Z, (refV default).toArray = Z := ⟨_, rfl⟩
  have HZ := Lib.hid hZ
  clear h h2 hL hM h33 hZ hT
  obtain ⟨w1, hw1⟩ : ∃ w1, w.alloc (.cells zeroR 50) = w1 := ⟨_, rfl⟩
  have HZ1 := Lib.hid (show Whole w1 w.heap.size 50 zeroR from by subst hw1; exact Whole.new w 50 zeroR)
  have HF1 := Lib.hid (show Fr (fun _ => False) w w1 from by subst hw1; exact (Fr.refl (fun _ => False) w).alloc _)
  unfold zeroR at hw1
  simp [List.replicate] at hw1
  have HLs := Lib.hid (fun (w' : World) (f : Fr (fun _ => False) w w') => lies_str HLS.out f)
  rw [HMn.out] at HLs
  go_enter Tryd.func44, Tryd.ntmps44
  rw [show Op.load 50 (.tmp 20) = Op.load T (.tmp 20) by rw [HT.out], show Op.load 50 (.tmp 9) = Op.load T (.tmp 9) by rw [HT.out]]
  go_wp2
  go_loopg [12] M (fun kx s12 wr => ∃ k : Nat, s12 = .int .i64 k ∧ k ≤ M ∧ M - k ≤ kx ∧ Fr (fun _ => False) w1 wr ∧ Hid (firstR l ns = firstR l (ns.drop k)))
  case atStart => exact ⟨0, rfl, by omega, by omega, Fr.refl _ _, Lib.hid rfl⟩
  case round =>
    obtain ⟨k, rfl, hk, hkx, hf, HB⟩ := hrel
    obtain ⟨wo, rfl⟩ : ∃ wo, wo = wr := ⟨wr, rfl⟩
    have HFo := Lib.hid hf
    clear hf
    have wk := wrap_nat k (by omega)
    by_cases hlt : k < M
    · have hltz : (k : Int) < M := by omega
      obtain ⟨bs, os, hBs, hcell⟩ := HLs.out wo (HF1.out.trans HFo.out (fun _ _ e => e)) k hlt
      subst hBs
      have HDk := Lib.hid (HD2.out k hlt)
      obtain ⟨x, hx⟩ : ∃ x, ns.getD k [] = x := ⟨_, rfl⟩
      rw [hx] at hcell HDk
      obtain ⟨X, hX⟩ : ∃ S, strB x = S := ⟨_, rfl⟩
      have HX := Lib.hid hX
      rw [hX] at hcell
      clear hx hX
      go_wp2_with fail
      go_loopg [18] L (fun kx s18 wr => ∃ j : Nat, s18 = .int .i64 j ∧ j ≤ L ∧ L - j ≤ kx ∧ Fr (fun _ => False) wo wr ∧ Hid (findR l x = findR (l.drop j) x))
      case atStart => exact ⟨0, rfl, by omega, by omega, Fr.refl _ _, Lib.hid rfl⟩
      case round =>
        obtain ⟨j, rfl, hj, hjx, hf, HJ⟩ := hrel
        obtain ⟨wi, rfl⟩ : ∃ wi, wi = wr := ⟨wr, rfl⟩
        have HFi := Lib.hid hf
        clear hf
        have wj := wrap_nat j (by omega)
        by_cases hjl : j < L
        · have hjz : (j : Int) < L := by omega
          obtain ⟨b, o, hB⟩ := HLI.out.someR (by rw [HLn.out]; omega)
          subst hB
          have HW := Lib.hid ((HF1.out.trans HFo.out (fun _ _ e => e)).trans HFi.out (fun _ _ e => e))
          have l1 : (loadCellsFrom ⟨b, o + j * 33, none⟩ 0 n33 #[]).run Tryd.prog wi = .ok (refV l[j]!).toArray wi := load_ref HLI.out (rf_some (by rw [HLn.out]; omega)) HW.out n33 HN.out
          have HDj := Lib.hid (HD.out x j hjl)
          obtain ⟨y, hy⟩ : ∃ y, l[j]! = y := ⟨_, rfl⟩
          rw [hy] at l1 HDj
          have hcs := refV_size y
          have HO := Lib.hid (refV_all y)
          have HN0 := Lib.hid (refV_name y)
          have heq := str_eq y.name x
          rw [HX.out] at heq
          obtain ⟨ca, hca⟩ : ∃ c, (refV y).toArray = c := ⟨_, rfl⟩
          have HCA := Lib.hid hca
          rw [hca] at l1 hcs HO HN0
          obtain ⟨S, hS⟩ : ∃ S, strB y.name = S := ⟨_, rfl⟩
          rw [hS] at HN0 heq
          clear hy hS hca
          obtain ⟨w2, hw2⟩ : ∃ w2, wi.alloc (.cells zeroR 50) = w2 := ⟨_, rfl⟩
          have HZ2 := Lib.hid (show Whole w2 wi.heap.size 50 zeroR from by subst hw2; exact Whole.new wi 50 zeroR)
          have HF2 := Lib.hid (show Fr (fun _ => False) wi w2 from by subst hw2; exact (Fr.refl (fun _ => False) wi).alloc _)
          unfold zeroR at hw2
          simp [List.replicate] at hw2
          cases hq : (y.name == x) with
          | true =>
            rw [hq] at heq
            have HQ := Lib.hid hq
            clear hq
            go_wp2_with (first
              | (have _ := M1
                 refine wpList_store_at rfl 50 _ _ rfl w.heap.size 0 50 zeroR ca rfl rfl (HZ1.out.fr HF5.out (fun e => e)) (by rw [zeroR_size, hcs]; exact Nat.le_refl _) (by rw [hcs]; exact size_ref) HO.out ?_
                 intro w4 hw4 hf4)
              | (refine wpList_store_at rfl 50 _ _ rfl wi.heap.size 0 50 zeroR ca rfl rfl HZ2.out (by rw [zeroR_size, hcs]; exact Nat.le_refl _) (by rw [hcs]; exact size_ref) HO.out ?_
                 intro w3 hw3 hf3
                 rw [laidAt_all _ _ (by rw [zeroR_size, hcs])] at hw3
                 have c0 : w3.cell? ⟨wi.heap.size, 0, none⟩ = some (.string S) := (by rw [hw3.cell]; exact HN0.out)
                 have hfr : Fr (fun _ => False) wi w3 := HF2.out.trans hf3 (fun i hi e => by omega)
                 have HF5 := Lib.hid ((HFo.out.trans HFi.out (fun _ _ e => e)).trans hfr (fun _ _ e => e))
                 have l3 : (loadCellsFrom ⟨wi.heap.size, 0, none⟩ 0 n33 #[]).run Tryd.prog w3 = .ok ca w3 := (by
                   have h2 := run_loadCells_list (P := Tryd.prog) w3 ⟨wi.heap.size, 0, none⟩ ca.toList (fun j v hv => by rw [add_off, Nat.zero_add, hw3.cell]; simpa using hv)
                   rw [Array.length_toList, hcs] at h2
                   rw [HN.out]
                   simpa [loadCells] using h2)
                 have M1 := True.intro
                 clear hw3 hf3 hfr))
            (try simp only [Exit.inBlock, Exit.then])
            rw [laidAt_all _ _ (by rw [zeroR_size, hcs])] at hw4
            refine bodyPost_ret (v := .tuple #[.agg ca, .bool true]) (results_cell_slot (p := 4) (u := 5) rfl _ _ _ _ _ _ rfl hw4 Tryd.underlying50 rfl (by rw [hcs]; exact size_ref)) rfl ?_
            have hfin : firstR l ns = some y := by rw [HB.out, HDk.out, HJ.out, HDj.out, if_pos HQ.out]
            exact ⟨by rw [hfin]; show _ = Ending.returned (.tuple #[.agg (refV y).toArray, .bool true]); rw [HCA.out], ((HF1.out.trans HF5.out (fun _ _ e => e)).trans hf4 (fun i hi e => by omega)).below (fun _ _ e => e)⟩
          | false =>
            rw [hq] at heq
            have HQ := Lib.hid hq
            clear hq
            go_wp2_with (refine wpList_store_at rfl 50 _ _ rfl wi.heap.size 0 50 zeroR ca rfl rfl HZ2.out (by rw [zeroR_size, hcs]; exact Nat.le_refl _) (by rw [hcs]; exact size_ref) HO.out ?_
                         intro w3 hw3 hf3
                         rw [laidAt_all _ _ (by rw [zeroR_size, hcs])] at hw3
                         have c0 : w3.cell? ⟨wi.heap.size, 0, none⟩ = some (.string S) := (by rw [hw3.cell]; exact HN0.out)
                         have hfr : Fr (fun _ => False) wi w3 := HF2.out.trans hf3 (fun i hi e => by omega)
                         have HF5 := Lib.hid (HFi.out.trans hfr (fun _ _ e => e))
                         clear hw3 hf3 hfr)
            go_roundg (L - (j + 1))
            case measure => omega
            case rel => exact ⟨j + 1, by go_num, by omega, Nat.le_refl _, HF5.out, Lib.hid (by rw [HJ.out, HDj.out, if_neg (by rw [HQ.out]; decide)])⟩
        · have hjz : ¬ ((j : Int) < L) := by omega
          have HJ0 : Hid (findR l x = none) := Lib.hid (by rw [HJ.out, List.drop_of_length_le (by rw [HLn.out]; omega)]; rfl)
          go_wp2_with fail
          go_roundg (M - (k + 1))
          case measure => omega
          case rel => exact ⟨k + 1, by go_num, by omega, Nat.le_refl _, HFo.out.trans HFi.out (fun _ _ e => e), Lib.hid (by rw [HB.out, HDk.out, HJ0.out])⟩
    · have hltz : ¬ ((k : Int) < M) := by omega
      have hfin : firstR l ns = none := by rw [HB.out, List.drop_of_length_le (by rw [HMn.out]; omega)]; rfl
      have HFin := Lib.hid hfin
      clear hfin
      have hzs : zeroR.all (·.oneCell') = true := by rw [← zeroR_eq]; exact refV_all _
      go_wp2_with (refine wpList_store_at rfl 50 _ _ rfl w.heap.size 0 50 zeroR zeroR rfl rfl (HZ1.out.fr HFo.out (fun e => e)) (Nat.le_refl _) size_ref hzs ?_
                   intro w4 hw4 hf4)
      rw [laidAt_all _ _ rfl] at hw4
      refine bodyPost_ret (v := .tuple #[.agg zeroR, .bool false]) (results_cell_slot (p := 4) (u := 5) rfl _ _ _ _ _ _ rfl hw4 Tryd.underlying50 rfl size_ref) rfl ?_
      exact ⟨by rw [HFin.out]; show _ = Ending.returned (.tuple #[.agg (refV default).toArray, .bool false]); rw [zeroR_eq], ((HF1.out.trans HFo.out (fun _ _ e => e)).trans hf4 (fun i hi e => by omega)).below (fun _ _ e => e)⟩
end Go.Proofs.YtoakbdmfoepdgaaDoor

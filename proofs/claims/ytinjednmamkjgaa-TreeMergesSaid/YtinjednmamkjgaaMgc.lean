/- What is proved: the entry of a name, by the program and by the document; a pull is made. Conditions: the list's cells are there. -/
import Derived.Test.YtinjednmamkjgaaMgb
namespace Go.Proofs.Ytinjednmamkjgaa
open Go.RowKit Go.Sort Go.Shelf
set_option linter.unusedVariables false

/-- What is told of a name. -/
def fndC (o : Option Ent) : Array Value := (entV (o.getD default)).toArray
theorem fndC_none : fndC none = zeroE := rfl
theorem fndC_some (x : Ent) : fndC (some x) = (entV x).toArray := rfl
theorem find_drop (es : List Ent) (n : List UInt8) (k : Nat) (hk : k < es.length) : findE (es.drop k) n = if es[k]!.name = n then some es[k]! else findE (es.drop (k + 1)) n := by
  rw [List.drop_eq_getElem_cons hk, findE_cons, getElem!_pos es k hk]

set_option maxHeartbeats 3200000 in
set_option maxRecDepth 100000 in
theorem TFind_any (A : Option Addr) (c : Nat) (es : List Ent) (hn : es.length ≤ 100000) (nm : List UInt8) (w : World) (h : Lies w A (flatE es)) :
    Calls Try.prog 5 #[.slice A es.length c, .string (strB nm)] w fun e w' => e = .returned (.tuple #[.agg (fndC (findE es nm)), .bool (findE es nm).isSome]) ∧ Fr (fun _ => False) w w' := by
  (
    have HLI := Lib.hid h
    have HD := Lib.hid (find_drop es nm)
    obtain ⟨R, hR⟩ : ∃ R, findE es nm = R := ⟨_, rfl⟩
    have HR := Lib.hid hR
    obtain ⟨L, hL⟩ : ∃ L, es.length = L := ⟨_, rfl⟩
    have HLn := Lib.hid hL
    obtain ⟨w1, hw1⟩ : ∃ w1, w.alloc (.cells zeroE 27) = w1 := ⟨_, rfl⟩
    have HZ := Lib.hid (show Whole w1 w.heap.size 27 zeroE from by subst hw1; exact Whole.new w 27 zeroE)
    have HF1 := Lib.hid (show Fr (fun _ => False) w w1 from by subst hw1; exact (Fr.refl _ w).alloc _)
    have hzs := zeroE_size
    unfold zeroE at hw1
    simp [List.replicate] at hw1
    have HSn := Lib.hid (show strB nm = strB nm from rfl)
    obtain ⟨S, hS⟩ : ∃ S, strB nm = S := ⟨_, rfl⟩
    have HSS := Lib.hid hS
    rw [hL] at hn HD
    rw [hR, hL, hS]
    clear h hL hR hS)
  go_enter Try.func5, Try.ntmps5
  go_wp2
  go_loopg [10] L (fun kx s10 wr => ∃ k : Nat, s10 = .int .i64 k ∧ k ≤ L ∧ L - k ≤ kx ∧ Fr (fun _ => False) w1 wr ∧ Hid (findE (es.drop k) nm = R))
  case atStart => exact ⟨0, rfl, by omega, by omega, Fr.refl _ _, Lib.hid (by rw [List.drop_zero]; exact HR.out)⟩
  case round =>
    obtain ⟨k, rfl, hk, hkx, hf, HB⟩ := hrel
    obtain ⟨wo, rfl⟩ : ∃ wo, wo = wr := ⟨wr, rfl⟩
    have wk := wrap_nat k (by omega)
    by_cases hlt : k < L
    · have hltz : (k : Int) < L := by omega
      obtain ⟨b, o, hB⟩ := HLI.out.someE (by rw [HLn.out]; omega)
      subst hB
      have hka := some_of_mem (es := es) (i := k) (by rw [HLn.out]; omega)
      have HDk := Lib.hid (HD.out k hlt)
      obtain ⟨x, hx⟩ : ∃ x, es[k]! = x := ⟨_, rfl⟩
      rw [hx] at hka HDk
      have HL1 := Lib.hid (show wo.rangeAt b (o + k * 34) (entV x).toArray.toList from fun j v hv => cell_ent HLI.out hka (HF1.out.trans hf (fun _ _ e => e)) j v hv)
      have HZo := Lib.hid (HZ.out.fr hf (fun e => e))
      have HFo := Lib.hid hf
      have HLT := Lib.hid (Nat.lt_of_lt_of_le HZ.out.lt hf.size)
      have hcs := entV_size x
      have HCA := Lib.hid (entV_all x)
      have HCN := entV_name x
      obtain ⟨cx, hcx⟩ : ∃ cx, (entV x).toArray = cx := ⟨_, rfl⟩
      rw [hcx] at hcs HCA HCN HL1
      have HCX := Lib.hid hcx
      obtain ⟨w5, hw5⟩ : ∃ w5, wo.alloc (.cells zeroE 27) = w5 := ⟨_, rfl⟩
      have HZ5 := Lib.hid (show Whole w5 wo.heap.size 27 zeroE from by subst hw5; exact Whole.new wo 27 zeroE)
      have HF5 := Lib.hid (show Fr (fun _ => False) wo w5 from by subst hw5; exact (Fr.refl _ wo).alloc _)
      unfold zeroE at hw5
      simp [List.replicate] at hw5
      clear hx hf hka hcx
      by_cases hyx : x.name = nm
      · (
        have HGn := Lib.hid (show R = some x from by rw [← HB.out, HDk.out, if_pos hyx])
        rw [hyx, HSS.out] at HCN)
        have HCN2 := Lib.hid HCN
        clear HCN
        go_wp2_with (first
          | (refine wpList_load_cx rfl (.tmp 12) rfl b (o + k * 34) rfl cx hcs HL1.out ?_)
          | (refine wpList_store_at rfl 27 (.tmp 7) _ rfl wo.heap.size 0 27 zeroE cx rfl rfl HZ5.out (by rw [zeroE_size, hcs]; exact Nat.le_refl _) (by rw [hcs]; exact size_ent) HCA.out ?_
             intro w6 hw6 hf6
             rw [laidAt_all _ _ (by rw [zeroE_size, hcs])] at hw6
             have HW6 := Lib.hid hw6
             have HF6 := Lib.hid (show Fr (fun _ => False) wo w6 from HF5.out.trans hf6 (fun i hi e => by omega))
             have c6 : w6.cell? ⟨wo.heap.size, 0, none⟩ = some (.string S) := (by rw [hw6.cell]; exact HCN2.out)
             clear hw6 hf6)
          | (refine wpList_load_cx rfl (.tmp 7) rfl wo.heap.size 0 rfl cx hcs HW6.out.all_rangeM ?_)
          | (refine wpList_store_at rfl 27 (.tmp 4) _ rfl w.heap.size 0 27 zeroE cx rfl rfl (HZo.out.fr HF6.out (fun e => e)) (by rw [zeroE_size, hcs]; exact Nat.le_refl _) (by rw [hcs]; exact size_ent) HCA.out ?_
             intro w7 hw7 hf7
             rw [laidAt_all _ _ (by rw [zeroE_size, hcs])] at hw7
             have HW7 := Lib.hid hw7
             have HF7 := Lib.hid hf7
             clear hw7 hf7))
        (try simp only [Exit.inBlock, Exit.then])
        refine bodyPost_ret (v := .tuple #[.agg cx, .bool true]) (results_cell_slotM (p := 4) (u := 5) rfl _ _ _ _ _ _ rfl HW7.out underE rfl (by rw [hcs]; exact size_ent)) rfl ?_
        exact ⟨by rw [HGn.out, fndC_some, HCX.out]; rfl, ((HF1.out.trans HFo.out (fun _ _ e => e)).trans HF6.out (fun _ _ e => e)).trans HF7.out (fun i hi e => by omega)⟩
      · (
        have HGn := Lib.hid (show R = findE (es.drop (k + 1)) nm from by rw [← HB.out, HDk.out, if_neg hyx])
        obtain ⟨S2, hS2⟩ : ∃ S2, strB x.name = S2 := ⟨_, rfl⟩
        have hne : ¬ S2.toList = S.toList := by rw [← hS2, ← HSS.out, strB_list, strB_list]; exact hyx
        have hne2 : (S2.toList == S.toList) = false := beq_eq_false_iff_ne.2 hne
        have hne3 : ¬ S2 = S := fun e => hne (by rw [e])
        have hne4 : decide (S2 = S) = false := decide_eq_false hne3
        rw [hS2] at HCN
        clear hS2)
        have HCN2 := Lib.hid HCN
        clear HCN
        go_wp2_with (first
          | (refine wpList_load_cx rfl (.tmp 12) rfl b (o + k * 34) rfl cx hcs HL1.out ?_)
          | (refine wpList_store_at rfl 27 (.tmp 7) _ rfl wo.heap.size 0 27 zeroE cx rfl rfl HZ5.out (by rw [zeroE_size, hcs]; exact Nat.le_refl _) (by rw [hcs]; exact size_ent) HCA.out ?_
             intro w6 hw6 hf6
             rw [laidAt_all _ _ (by rw [zeroE_size, hcs])] at hw6
             have HF6 := Lib.hid (show Fr (fun _ => False) wo w6 from HF5.out.trans hf6 (fun i hi e => by omega))
             have c6 : w6.cell? ⟨wo.heap.size, 0, none⟩ = some (.string S2) := (by rw [hw6.cell]; exact HCN2.out)
             clear hw6 hf6))
        go_roundg (L - (k + 1))
        case measure => omega
        case rel => exact ⟨k + 1, by go_num, by omega, Nat.le_refl _, HFo.out.trans HF6.out (fun _ _ e => e), Lib.hid HGn.out.symm⟩
    · obtain rfl : k = L := by omega
      (
        have HZo := Lib.hid (HZ.out.fr hf (fun e => e))
        have HGn := Lib.hid (show R = none from by rw [← HB.out, List.drop_of_length_le (by rw [HLn.out]; exact Nat.le_refl _)]; rfl)
        have HF0 := Lib.hid (HF1.out.trans hf (fun _ _ e => e))
        clear hf
        go_wp2_with (refine wpList_store_at rfl 27 _ _ rfl w.heap.size 0 27 _ zeroE rfl rfl HZo.out (by decide) size_ent (entV_all default) ?_; intro w6 hw6 hf6)
        rw [laidAt_all _ _ rfl] at hw6
        refine bodyPost_ret (v := .tuple #[.agg zeroE, .bool false]) (results_cell_slotM (p := 4) (u := 5) rfl _ _ _ _ _ _ rfl hw6 underE rfl size_ent) rfl ?_
        exact ⟨by rw [HGn.out]; rfl, HF0.out.trans hf6 (fun i hi e => by omega)⟩)

set_option maxHeartbeats 3200000 in
set_option maxRecDepth 100000 in
theorem QtFind_any (A : Option Addr) (c : Nat) (es : List Ent) (hn : es.length ≤ 100000) (nm : List UInt8) (w : World) (h : Lies w A (flatE es)) :
    Calls Try.prog 6 #[.slice A es.length c, .string (strB nm)] w fun e w' => e = .returned (.tuple #[.agg (fndC (findE es nm)), .bool (findE es nm).isSome]) ∧ Fr (fun _ => False) w w' := by
  (
    have HLI := Lib.hid h
    have HD := Lib.hid (find_drop es nm)
    obtain ⟨R, hR⟩ : ∃ R, findE es nm = R := ⟨_, rfl⟩
    have HR := Lib.hid hR
    obtain ⟨L, hL⟩ : ∃ L, es.length = L := ⟨_, rfl⟩
    have HLn := Lib.hid hL
    obtain ⟨w1, hw1⟩ : ∃ w1, w.alloc (.cells zeroE 27) = w1 := ⟨_, rfl⟩
    have HZ := Lib.hid (show Whole w1 w.heap.size 27 zeroE from by subst hw1; exact Whole.new w 27 zeroE)
    have HF1 := Lib.hid (show Fr (fun _ => False) w w1 from by subst hw1; exact (Fr.refl _ w).alloc _)
    have hzs := zeroE_size
    unfold zeroE at hw1
    simp [List.replicate] at hw1
    have HSn := Lib.hid (show strB nm = strB nm from rfl)
    obtain ⟨S, hS⟩ : ∃ S, strB nm = S := ⟨_, rfl⟩
    have HSS := Lib.hid hS
    rw [hL] at hn HD
    rw [hR, hL, hS]
    clear h hL hR hS)
  go_enter Try.func6, Try.ntmps6
  go_wp2
  go_loopg [6] L (fun kx s10 wr => ∃ k : Nat, s10 = .int .i64 k ∧ k ≤ L ∧ L - k ≤ kx ∧ Fr (fun _ => False) w1 wr ∧ Hid (findE (es.drop k) nm = R))
  case atStart => exact ⟨0, rfl, by omega, by omega, Fr.refl _ _, Lib.hid (by rw [List.drop_zero]; exact HR.out)⟩
  case round =>
    obtain ⟨k, rfl, hk, hkx, hf, HB⟩ := hrel
    obtain ⟨wo, rfl⟩ : ∃ wo, wo = wr := ⟨wr, rfl⟩
    have wk := wrap_nat k (by omega)
    by_cases hlt : k < L
    · have hltz : (k : Int) < L := by omega
      obtain ⟨b, o, hB⟩ := HLI.out.someE (by rw [HLn.out]; omega)
      subst hB
      have hka := some_of_mem (es := es) (i := k) (by rw [HLn.out]; omega)
      have HDk := Lib.hid (HD.out k hlt)
      obtain ⟨x, hx⟩ : ∃ x, es[k]! = x := ⟨_, rfl⟩
      rw [hx] at hka HDk
      have HL1 := Lib.hid (show wo.rangeAt b (o + k * 34) (entV x).toArray.toList from fun j v hv => cell_ent HLI.out hka (HF1.out.trans hf (fun _ _ e => e)) j v hv)
      have HCN := name_at HLI.out hka (HF1.out.trans hf (fun _ _ e => e))
      have HZo := Lib.hid (HZ.out.fr hf (fun e => e))
      have HFo := Lib.hid hf
      have hcs := entV_size x
      have HCA := Lib.hid (entV_all x)
      obtain ⟨cx, hcx⟩ : ∃ cx, (entV x).toArray = cx := ⟨_, rfl⟩
      rw [hcx] at hcs HCA HL1
      have HCX := Lib.hid hcx
      clear hx hf hka hcx
      by_cases hyx : x.name = nm
      · (
        have HGn := Lib.hid (show R = some x from by rw [← HB.out, HDk.out, if_pos hyx])
        rw [hyx, HSS.out] at HCN)
        go_wp2_with (first
          | (refine wpList_load_cx rfl (.tmp 22) rfl b (o + k * 34) rfl cx hcs HL1.out ?_)
          | (refine wpList_store_at rfl 27 (.tmp 4) _ rfl w.heap.size 0 27 zeroE cx rfl rfl HZo.out (by rw [zeroE_size, hcs]; exact Nat.le_refl _) (by rw [hcs]; exact size_ent) HCA.out ?_
             intro w7 hw7 hf7
             rw [laidAt_all _ _ (by rw [zeroE_size, hcs])] at hw7
             have HW7 := Lib.hid hw7
             have HF7 := Lib.hid hf7
             clear hw7 hf7))
        (try simp only [Exit.inBlock, Exit.then])
        refine bodyPost_ret (v := .tuple #[.agg cx, .bool true]) (results_cell_slotM (p := 4) (u := 5) rfl _ _ _ _ _ _ rfl HW7.out underE rfl (by rw [hcs]; exact size_ent)) rfl ?_
        exact ⟨by rw [HGn.out, fndC_some, HCX.out]; rfl, (HF1.out.trans HFo.out (fun _ _ e => e)).trans HF7.out (fun i hi e => by omega)⟩
      · (
        have HGn := Lib.hid (show R = findE (es.drop (k + 1)) nm from by rw [← HB.out, HDk.out, if_neg hyx])
        obtain ⟨S2, hS2⟩ : ∃ S2, strB x.name = S2 := ⟨_, rfl⟩
        have hne : ¬ S2.toList = S.toList := by rw [← hS2, ← HSS.out, strB_list, strB_list]; exact hyx
        have hne2 : (S2.toList == S.toList) = false := beq_eq_false_iff_ne.2 hne
        have hne3 : ¬ S2 = S := fun e => hne (by rw [e])
        have hne4 : decide (S2 = S) = false := decide_eq_false hne3
        rw [hS2] at HCN
        clear hS2)
        go_wp2_with fail
        go_roundg (L - (k + 1))
        case measure => omega
        case rel => exact ⟨k + 1, by go_num, by omega, Nat.le_refl _, HFo.out, Lib.hid HGn.out.symm⟩
    · obtain rfl : k = L := by omega
      (
        have HZo := Lib.hid (HZ.out.fr hf (fun e => e))
        have HGn := Lib.hid (show R = none from by rw [← HB.out, List.drop_of_length_le (by rw [HLn.out]; exact Nat.le_refl _)]; rfl)
        have HF0 := Lib.hid (HF1.out.trans hf (fun _ _ e => e))
        clear hf
        go_wp2_with (refine wpList_store_at rfl 27 _ _ rfl w.heap.size 0 27 _ zeroE rfl rfl HZo.out (by decide) size_ent (entV_all default) ?_; intro w6 hw6 hf6)
        rw [laidAt_all _ _ rfl] at hw6
        refine bodyPost_ret (v := .tuple #[.agg zeroE, .bool false]) (results_cell_slotM (p := 4) (u := 5) rfl _ _ _ _ _ _ rfl hw6 underE rfl size_ent) rfl ?_
        exact ⟨by rw [HGn.out]; rfl, HF0.out.trans hf6 (fun i hi e => by omega)⟩)

theorem OwnE.block {w0 w : World} {A : Option Addr} {n c : Nat} {es : List Ent} (h : OwnE w0 w (.slice A n c) es) (ad : Addr) (e : A = some ad) : w0.heap.size ≤ ad.block ∧ ad.block < w.heap.size := by
  subst e
  rcases own_shape h.1 with ⟨hv, _⟩ | ⟨g, cap, hv, _, _, hb⟩
  · cases hv
  · injection hv with h1 h2 h3
    injection h1 with h1
    subst h1
    exact ⟨hb, (World.ownsRow.lt h.1 g rfl).2⟩
set_option maxHeartbeats 1600000 in
set_option maxRecDepth 100000 in
/-- A pull is made. -/
theorem Tpull_any (A : Option Addr) (c : Nat) (es : List Ent) (hn : es.length ≤ 100000) (w : World) (h : Lies w A (flatE es)) :
    Calls Try.prog 19 #[.slice A es.length c] w fun e w' => ∃ B, e = .returned (.func (.func 26) #[] #[.pointer (some ⟨B, 0, none⟩)]) ∧ PullAt w.heap.size w'.heap.size w' B (srt nlt es) ∧ Fr (fun _ => False) w w' := by
  have HN := Lib.hid (TbyName_any A c es hn w h)
  rw [nlt_eq] at HN
  obtain ⟨M, hM⟩ : ∃ M, srt nlt es = M := ⟨_, rfl⟩
  obtain ⟨L, hL⟩ : ∃ L, es.length = L := ⟨_, rfl⟩
  rw [hL, hM] at HN
  rw [hL, hM]
  clear h hL hM hn
  go_enter Try.func19, Try.ntmps19
  go_wp2_with (go_at_call 25
               refine HN.out.mono ?_
               rintro e w1 ⟨v, rfl, ho⟩
               have HO := Lib.hid ho
               obtain ⟨A1, c1, hv, h1, h2, h3, _⟩ := ho.slice
               subst hv
               have HA1 := Lib.hid (fun ad e => ho.block ad e)
               have HL1 := Lib.hid h3
               have HC1 := Lib.hid h1
               clear ho h1 h2 h3)
  go_ret
  have hw := HO.out.2.size
  have f1 : Fr (fun _ => False) w1 (w1.alloc (.cells #[.slice A1 M.length c1] 22)) := (Fr.refl _ w1).alloc _
  refine ⟨w1.heap.size, rfl, ⟨⟨hw, by rw [World.size_alloc]; omega⟩, A1, c1, Whole.new w1 _ _, HC1.out, fun ad e => ?_, HL1.out.fr f1 (fun _ _ e => e)⟩, HO.out.2.trans f1 (fun _ _ e => e)⟩
  have := HA1.out ad e
  rw [World.size_alloc]
  omega
end Go.Proofs.Ytinjednmamkjgaa

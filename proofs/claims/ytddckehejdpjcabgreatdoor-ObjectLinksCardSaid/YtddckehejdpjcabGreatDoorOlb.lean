/- What is proved: what a tree's entries name, and a commit, and a tag, by the program. Conditions: the lists' cells are there. -/
import Derived.Test.YtddckehejdpjcabGreatDoorOla
namespace Go.Proofs.YtddckehejdpjcabGreatDoor
open Go.RowKit Go.Sort Go.Shelf
open Ids (idC dgt big idC_size idC_get idC_one cellD zero32 size32 dgt_lt)
set_option linter.unusedVariables false

theorem wpList_load_id {ops : Array Oper} {rest : List Oper} {op : Oper} {a : Act} {w : World} {Q : Exit → Act → World → Prop} (hgd : op.guard = none) (x : Operand) (ho : op.op = .load 32 x)
    (b o : Nat) (hx : a.eval x = .pointer (some ⟨b, o, none⟩)) (cx : Array Value) (hs : cx.size = 32) (hc : w.rangeAt b o cx.toList)
    (h : wpList Tryz.prog ops Q rest (a.put op.dst (.agg cx)) w) : wpList Tryz.prog ops Q (op :: rest) a w :=
  wpList_load_mid hgd 32 x ho b o hx cx.toList _ hc Tryz.underlying32 rfl (by rw [Array.length_toList, hs]; exact size32) (by rw [Array.toArray_toList]; exact h)
theorem Whole.all_range {w : World} {g : Nat} {t : TypeId} {cs : Array Value} (h : Whole w g t cs) : w.rangeAt g 0 cs.toList := fun j v hv => by
  rw [Nat.zero_add, h.cell, ← Array.getElem?_toList]; exact hv
theorem ent_id_at (x : Ent) (j : Nat) (v : Value) (h : (idV (lnkE x)).toList[j]? = some v) : (entV x).toArray[2 + j]? = some v := by
  rw [idV_E] at h
  rw [Nat.add_comm, List.getElem?_toArray, entV, List.getElem?_cons_succ, List.getElem?_cons_succ]
  exact h
theorem lnkE_k3 (x : Ent) (h : x.mode = 3) : (lnkE x).k = 2 := by rw [lnkE]; simp [h]
theorem lnkE_k1 (x : Ent) (h : ¬ x.mode = 3) : (lnkE x).k = 1 := by rw [lnkE]; simp [h]
theorem idV_all (x : Lnk) : (idV x).all (·.oneCell') = true := Array.all_eq_true_iff_forall_mem.2 (fun v hv => lnkC_one x v (by rw [lnkC]; exact List.mem_append_left _ (by simpa [idV] using hv)))

set_option maxHeartbeats 3200000 in
set_option maxRecDepth 100000 in
theorem ObnamedT_any (A : Option Addr) (c : Nat) (es : List Ent) (hn : es.length ≤ 100000) (w : World) (h : Lies w A (flatE es)) :
    Calls Tryz.prog 20 #[.slice A es.length c] w fun e w' => ∃ v, e = .returned v ∧ OwnL 34 w w' v (es.map lnkE) := by
  obtain ⟨i0, hi0, hz0, hz1, hz2⟩ := info_parts info_lnk
  have hz3 := zeroL_cells
  obtain ⟨Z, hZ⟩ : ∃ Z, zeroL = Z := ⟨_, rfl⟩
  rw [hZ] at hz0 hz3
  have HLI := Lib.hid h
  obtain ⟨L, hL⟩ : ∃ L, es.length = L := ⟨_, rfl⟩
  have HLn := Lib.hid hL
  rw [hL] at hn ⊢
  clear h hL hZ
  go_enter Tryz.func20, Tryz.ntmps20
  go_wp2
  go_loopg [3, 9] L (fun kx u3 s9 wr => ∃ k : Nat, s9 = .int .i64 k ∧ k ≤ L ∧ L - k ≤ kx ∧ OwnL 34 w wr u3 ((es.take k).map lnkE))
  case atStart => exact ⟨0, rfl, by omega, by omega, OwnL.nil (Fr.refl _ w)⟩
  case round =>
    obtain ⟨k, rfl, hk, hkx, ho⟩ := hrel
    obtain ⟨wo, rfl⟩ : ∃ wo, wo = wr := ⟨wr, rfl⟩
    have wk := wrap_nat k (by omega)
    by_cases hlt : k < L
    · have hltz : (k : Int) < L := by omega
      obtain ⟨b, o, hB⟩ := HLI.out.someE (by rw [HLn.out]; omega)
      subst hB
      have hka := some_of_mem (es := es) (i := k) (by rw [HLn.out]; omega)
      obtain ⟨x, hx⟩ : ∃ x, es[k]! = x := ⟨_, rfl⟩
      rw [hx] at hka
      have HT : Hid ((es.take (k + 1)).map lnkE = (es.take k).map lnkE ++ [lnkE x]) := Lib.hid (by rw [List.take_add_one, hka]; simp)
      have HAl : Hid (((es.take k).map lnkE).length = k) := Lib.hid (by rw [List.length_map, List.length_take, HLn.out]; omega)
      obtain ⟨acc, hacc⟩ : ∃ acc, (es.take k).map lnkE = acc := ⟨_, rfl⟩
      rw [hacc] at HT HAl ho
      have HO := Lib.hid ho
      have hl1 : wo.rangeAt b (o + k * 34) (entV x).toArray.toList := fun j v hv => cell_ent HLI.out hka ho.2 j v hv
      have HL1 := Lib.hid hl1
      obtain ⟨w1, hw1⟩ : ∃ w1, wo.alloc (.cells zeroE 47) = w1 := ⟨_, rfl⟩
      have HZ := Lib.hid (show Whole w1 wo.heap.size 47 zeroE from by subst hw1; exact Whole.new wo 47 zeroE)
      have HF1 := Lib.hid (show Fr (fun _ => False) wo w1 from by subst hw1; exact (Fr.refl _ wo).alloc _)
      unfold zeroE at hw1
      simp [List.replicate] at hw1
      have hcs := entV_size x
      have HO1 := Lib.hid (entV_all x)
      have HM0 := Lib.hid (entV_mode x)
      have HIA := Lib.hid (ent_id_at x)
      have hcis := idV_size (lnkE x)
      have hk3 := lnkE_k3 x
      have hk1 := lnkE_k1 x
      obtain ⟨m, hm⟩ : ∃ m, x.mode = m := ⟨_, rfl⟩
      rw [hm] at HM0 hk3 hk1
      obtain ⟨y, hy⟩ : ∃ y, lnkE x = y := ⟨_, rfl⟩
      rw [hy] at HT HIA hcis hk3 hk1
      obtain ⟨ca, hca⟩ : ∃ c, (entV x).toArray = c := ⟨_, rfl⟩
      rw [hca] at hcs HO1 HM0 HIA HL1
      obtain ⟨ci, hci⟩ : ∃ c, idV y = c := ⟨_, rfl⟩
      have HCI := Lib.hid hci
      rw [hci] at HIA hcis
      obtain ⟨cx, hcx⟩ : ∃ c, (lnkC y).toArray = c := ⟨_, rfl⟩
      have HCX := Lib.hid hcx
      clear hx hacc ho hl1 hm hy hca hci hcx hka
      by_cases hm3 : m = 3
      · have HK := Lib.hid (hk3 hm3)
        subst hm3
        clear hk1 hk3
        go_wp2_with (first
          | (refine wpList_load_cx rfl (.tmp 11) rfl b (o + k * 34) rfl ca hcs HL1.out ?_)
          | (
            (refine wpList_store_at rfl 47 _ _ rfl wo.heap.size 0 47 zeroE ca rfl rfl HZ.out (by rw [zeroE_size, hcs]; exact Nat.le_refl _) (by rw [hcs]; exact size_ent) HO1.out ?_
             intro w2 hw2 hf2
             rw [laidAt_all _ _ (by rw [zeroE_size, hcs])] at hw2
             have c1 : w2.cell? ⟨wo.heap.size, 1, none⟩ = some (.int .i64 3) := (by rw [hw2.cell]; exact HM0.out)
             have R2 := Lib.hid (show w2.rangeAt wo.heap.size 2 ci.toList from fun j v hv => by rw [hw2.cell]; exact HIA.out j v hv)
             have N0 := Lib.hid (HO.out.fr (HF1.out.trans hf2 (fun i hi e => by omega)))
             clear hw2 hf2))
          | (refine wpList_load_id rfl (.tmp 17) rfl wo.heap.size 2 rfl ci hcis R2.out ?_)
          | (
            (refine wpList_lnk rfl 34 build_lnk _ _ rfl y cx HCX.out ci HCI.out _ HK.out rfl rfl ?_)) | (
              (refine wpList_lnks rfl 24 34 slice_lnk _ rfl y cx HCX.out rfl ?_)) | (
                (at_builtin; refine wpList_append_row _ rfl (.tmp 16) (.tmp 21) 24 24 rfl w.heap.size 34 i0 (.agg Z) 33 40 Tryz.underlying24 hi0 hz0 hz1 hz2 hz3 _ k _ rfl ((by have := N0.out.1; rw [HAl.out] at this; exact this : w2.ownsRow w.heap.size 34 33 u3 k (flatL acc)).alloc _) _ 1 (flatL [y]) rfl (src_lnk 24 34 Tryz.underlying24 _ y cx HCX.out) (by unfold maxLen; omega) (by omega) (by have := N0.out.2.size; simp; omega) ?_
                 intro v2 w7 o2 g2 at2
                 have N2 := Lib.hid (OwnL.grow (N0.out.fr ((Fr.refl _ w2).alloc (.cells cx 34))) rfl HAl.out.symm rfl o2 g2)
                 clear o2 g2 at2)))
        go_roundg (L - (k + 1))
        case measure => omega
        case rel => exact ⟨k + 1, by go_num, by omega, Nat.le_refl _, by rw [HT.out]; exact N2.out⟩
      · have HK := Lib.hid (hk1 hm3)
        clear hk1 hk3
        go_wp2_with (first
          | (refine wpList_load_cx rfl (.tmp 11) rfl b (o + k * 34) rfl ca hcs HL1.out ?_)
          | (
            (refine wpList_store_at rfl 47 _ _ rfl wo.heap.size 0 47 zeroE ca rfl rfl HZ.out (by rw [zeroE_size, hcs]; exact Nat.le_refl _) (by rw [hcs]; exact size_ent) HO1.out ?_
             intro w2 hw2 hf2
             rw [laidAt_all _ _ (by rw [zeroE_size, hcs])] at hw2
             have c1 : w2.cell? ⟨wo.heap.size, 1, none⟩ = some (.int .i64 m) := (by rw [hw2.cell]; exact HM0.out)
             have R2 := Lib.hid (show w2.rangeAt wo.heap.size 2 ci.toList from fun j v hv => by rw [hw2.cell]; exact HIA.out j v hv)
             have N0 := Lib.hid (HO.out.fr (HF1.out.trans hf2 (fun i hi e => by omega)))
             clear hw2 hf2))
          | (refine wpList_load_id rfl (.tmp 17) rfl wo.heap.size 2 rfl ci hcis R2.out ?_)
          | (
            (refine wpList_lnk rfl 34 build_lnk _ _ rfl y cx HCX.out ci HCI.out _ HK.out rfl rfl ?_)) | (
              (refine wpList_lnks rfl 24 34 slice_lnk _ rfl y cx HCX.out rfl ?_)) | (
                (at_builtin; refine wpList_append_row _ rfl (.tmp 16) (.tmp 21) 24 24 rfl w.heap.size 34 i0 (.agg Z) 33 40 Tryz.underlying24 hi0 hz0 hz1 hz2 hz3 _ k _ rfl ((by have := N0.out.1; rw [HAl.out] at this; exact this : w2.ownsRow w.heap.size 34 33 u3 k (flatL acc)).alloc _) _ 1 (flatL [y]) rfl (src_lnk 24 34 Tryz.underlying24 _ y cx HCX.out) (by unfold maxLen; omega) (by omega) (by have := N0.out.2.size; simp; omega) ?_
                 intro v2 w7 o2 g2 at2
                 have N2 := Lib.hid (OwnL.grow (N0.out.fr ((Fr.refl _ w2).alloc (.cells cx 34))) rfl HAl.out.symm rfl o2 g2)
                 clear o2 g2 at2)))
        go_roundg (L - (k + 1))
        case measure => omega
        case rel => exact ⟨k + 1, by go_num, by omega, Nat.le_refl _, by rw [HT.out]; exact N2.out⟩
    · obtain rfl : k = L := by omega
      have HO := Lib.hid (show OwnL 34 w wo u3 (es.map lnkE) from by rw [List.take_of_length_le (by rw [HLn.out]; exact Nat.le_refl _)] at ho; exact ho)
      clear ho
      go_wp2_with fail
      go_ret
      exact ⟨_, rfl, HO.out⟩
end Go.Proofs.YtddckehejdpjcabGreatDoor

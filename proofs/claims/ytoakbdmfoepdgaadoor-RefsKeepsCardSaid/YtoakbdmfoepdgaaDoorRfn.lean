/- What is proved: a table as text, by the program. Conditions: the list's cells are there. -/
import Derived.Test.YtoakbdmfoepdgaaDoorRff
namespace Go.Proofs.YtoakbdmfoepdgaaDoor
open Go.RowKit Go.Sort Go.Shelf
set_option linter.unusedVariables false

theorem byteCellsR (s : ByteArray) : byteCells s = bytesV s.data.toList := rfl
/-- A ref's line; a table's text. -/
def lineR (r : Rf) : List UInt8 := ((Ids.hexB (Ids.dgt r.id) 64 ++ [32]) ++ r.name) ++ [10]
def putR (l : List Rf) : List UInt8 := l.flatMap lineR
def putO (l : List Rf) : List UInt8 := if chkR l = 0 then putR l else []
theorem putR_snoc (l : List Rf) (k : Nat) (h : k < l.length) : putR (l.take (k + 1)) = putR (l.take k) ++ lineR l[k]! := by
  rw [rf_snoc l k h, putR, List.flatMap_append, putR]; simp
theorem lineR_len (r : Rf) : (lineR r).length = 66 + r.name.length := by simp [lineR, Ids.hexB_len]; omega
theorem right_len {n : List UInt8} (h : rightB n = true) : n.length ≤ 120 := by
  rcases Nat.lt_or_ge 120 n.length with h1 | h1
  · rw [right_long h1] at h; cases h
  · exact h1
theorem putR_len {l : List Rf} (h : TabR l) (k : Nat) : (putR (l.take k)).length ≤ 11904 := by
  have h1 : ∀ m : List Rf, (∀ r ∈ m, rightB r.name = true) → (putR m).length ≤ m.length * 186 := by
    intro m
    induction m with
    | nil => intro _; simp [putR]
    | cons r m ih =>
      intro hm
      have a := ih (fun x hx => hm x (by simp [hx]))
      have b := right_len (hm r (by simp))
      have c := lineR_len r
      rw [putR, List.flatMap_cons, List.length_append, ← putR, List.length_cons]
      omega
  have h2 := h1 (l.take k) (fun r hr => h.right r (List.mem_of_mem_take hr))
  have h3 := h.len
  rw [List.length_take] at h2
  have : min k l.length ≤ 64 := by omega
  calc _ ≤ _ := h2
    _ ≤ 64 * 186 := Nat.mul_le_mul_right _ this

set_option maxHeartbeats 3200000 in
set_option maxRecDepth 100000 in
theorem RfPut_any (A : Option Addr) (cap : Nat) (l : List Rf) (hn : l.length ≤ 100000) (hcap : l.length ≤ cap) (w : World) (h : Lies w A (flatR l)) :
    Calls Tryd.prog 9 #[.slice A l.length cap] w fun e w' => ∃ v, e = .returned (.tuple #[v, .int .i64 (chkR l)]) ∧ OwnB w w' v (putO l) := by
  obtain ⟨i1, gi, gz0, gz1, gz2⟩ := info_parts info_u8
  have HLI := Lib.hid h
  have HCk := Lib.hid (RfCheck_any A cap l hn hcap w h)
  have HT : Hid (chkR l = 0 → TabR l) := Lib.hid (chkR_tab l).1
  have HP : Hid (putO l = if chkR l = 0 then putR l else []) := Lib.hid rfl
  have HSn := Lib.hid (putR_snoc l)
  obtain ⟨L, hL⟩ : ∃ L, l.length = L := ⟨_, rfl⟩
  have HLn := Lib.hid hL
  obtain ⟨c, hc⟩ : ∃ c, chkR l = c := ⟨_, rfl⟩
  obtain ⟨T, hT⟩ : ∃ T : TypeId, T = 50 := ⟨_, rfl⟩
  obtain ⟨n33, h33⟩ : ∃ n : Nat, n = 33 := ⟨_, rfl⟩
  have ag33 : ∀ w, (isAgg T).run Tryd.prog w = .ok true w := by rw [hT]; exact fun _ => by kernel_rfl
  have sz33 : ∀ w, (sizeOf T).run Tryd.prog w = .ok n33 w := by rw [hT, h33]; exact fun _ => by kernel_rfl
  have HN := Lib.hid h33
  obtain ⟨T2, hT2⟩ : ∃ T : TypeId, T = 41 := ⟨_, rfl⟩
  obtain ⟨n32, h32⟩ : ∃ n : Nat, n = 32 := ⟨_, rfl⟩
  have ag32 : ∀ w, (isAgg T2).run Tryd.prog w = .ok true w := by rw [hT2]; exact fun _ => by kernel_rfl
  have sz32 : ∀ w, (sizeOf T2).run Tryd.prog w = .ok n32 w := by rw [hT2, h32]; exact fun _ => by kernel_rfl
  have HN2 := Lib.hid h32
  rw [hc] at HCk HT HP ⊢
  rw [hL] at hn hcap HSn HCk ⊢
  clear h hL h33 hc h32
  go_enter Tryd.func9, Tryd.ntmps9
  rw [show Op.load 50 (.tmp 17) = Op.load T (.tmp 17) by rw [hT], show Op.load 41 (.tmp 20) = Op.load T2 (.tmp 20) by rw [hT2]]
  clear hT hT2
  by_cases hc0 : c = 0
  · subst hc0
    have hTab := HT.out rfl
    have HPl := Lib.hid (putR_len hTab)
    have HRt := Lib.hid hTab.right
    clear hTab
    go_wp2_with (go_at_call 12; refine HCk.out.mono ?_; rintro e w1 ⟨rfl, b1⟩; have HF1 := Lib.hid (Fr.of_below (S := fun _ => False) b1); clear b1)
    go_loopg [5, 15] L (fun kx s5 s15 wr => ∃ (k : Nat) (v : Value), v = s5 ∧ s15 = .int .i64 k ∧ k ≤ L ∧ L - k ≤ kx ∧ Hid (OwnB w wr v (putR (l.take k))))
    case atStart => exact ⟨0, _, rfl, rfl, by omega, by omega, Lib.hid (OwnB.nil HF1.out)⟩
    case round =>
      obtain ⟨k, v, rfl, rfl, hk, hkx, HOw⟩ := hrel
      obtain ⟨wo, rfl⟩ : ∃ wo, wo = wr := ⟨wr, rfl⟩
      have HFo := Lib.hid HOw.out.2
      have wk := wrap_nat k (by omega)
      by_cases hlt : k < L
      · have hltz : (k : Int) < L := by omega
        obtain ⟨b, o, hB⟩ := HLI.out.someR (by rw [HLn.out]; omega)
        subst hB
        have l1 : (loadCellsFrom ⟨b, o + k * 33, none⟩ 0 n33 #[]).run Tryd.prog wo = .ok (refV l[k]!).toArray wo := load_ref HLI.out (rf_some (by rw [HLn.out]; omega)) HFo.out n33 HN.out
        have HSk := Lib.hid (HSn.out k hlt)
        have hpl := HPl.out k
        have hyn := right_len (HRt.out l[k]! (rf_mem (by rw [HLn.out]; omega)))
        obtain ⟨y, hy⟩ : ∃ y, l[k]! = y := ⟨_, rfl⟩
        rw [hy] at l1 HSk hyn
        have hcs := refV_size y
        have HO := Lib.hid (refV_all y)
        have HN0 := Lib.hid (refV_name y)
        have HI0 := Lib.hid (fun (w' : World) (g : Nat) (hh : Whole w' g 50 (refV y).toArray) => ref_range hh)
        have hci := Ids.idC_size (Ids.dgt y.id)
        have hHx := fun w => Ids.OHex_any (Ids.dgt y.id) (Ids.dgt_lt y.id) w
        have hll := lineR_len y
        have s1 : ∀ w, (Op.stringOp .add (Ids.hexS (Ids.dgt y.id)) { data := #[32] }).run Tryd.prog w = .ok (.string (strB (Ids.hexB (Ids.dgt y.id) 64 ++ [32]))) w := fun w => add_str (Ids.hexB (Ids.dgt y.id) 64) [32] (by rw [Ids.hexB_len]; simp) w
        have s2 : ∀ w, (Op.stringOp .add (strB (Ids.hexB (Ids.dgt y.id) 64 ++ [32])) (strB y.name)).run Tryd.prog w = .ok (.string (strB ((Ids.hexB (Ids.dgt y.id) 64 ++ [32]) ++ y.name))) w := fun w => add_str _ _ (by rw [List.length_append, Ids.hexB_len]; simp; omega) w
        have s3 : ∀ w, (Op.stringOp .add (strB ((Ids.hexB (Ids.dgt y.id) 64 ++ [32]) ++ y.name)) { data := #[10] }).run Tryd.prog w = .ok (.string (strB (lineR y))) w := fun w => add_str _ [10] (by rw [List.length_append, List.length_append, Ids.hexB_len]; simp; omega) w
        obtain ⟨pl, hple⟩ : ∃ pl, putR (l.take k) = pl := ⟨_, rfl⟩
        rw [hple] at hpl HOw HSk
        obtain ⟨m, hm⟩ : ∃ m, pl.length = m := ⟨_, rfl⟩
        have HM := Lib.hid hm
        rw [hm] at hpl
        have HSrc := Lib.hid (fun w => (Src.ofString (P := Tryd.prog) (w := w) Tryd.underlying9 (strB (lineR y))))
        rw [byteCellsR, strB_data, strB_size] at HSrc
        obtain ⟨ln, hln⟩ : ∃ ln, lineR y = ln := ⟨_, rfl⟩
        rw [hln] at s3 HSrc hll HSk
        obtain ⟨nl, hnl⟩ : ∃ nl, ln.length = nl := ⟨_, rfl⟩
        have HNL := Lib.hid hnl
        rw [hnl] at HSrc hll
        obtain ⟨ca, hca⟩ : ∃ c, (refV y).toArray = c := ⟨_, rfl⟩
        rw [hca] at l1 hcs HO HN0 HI0
        obtain ⟨ci, hcI⟩ : ∃ c, Ids.idC (Ids.dgt y.id) = c := ⟨_, rfl⟩
        rw [hcI] at hci HI0 hHx
        obtain ⟨H0, hH0⟩ : ∃ S, Ids.hexS (Ids.dgt y.id) = S := ⟨_, rfl⟩
        rw [hH0] at hHx s1
        obtain ⟨S1, hS1⟩ : ∃ S, strB (Ids.hexB (Ids.dgt y.id) 64 ++ [32]) = S := ⟨_, rfl⟩
        rw [hS1] at s1 s2
        obtain ⟨S2, hS2⟩ : ∃ S, strB ((Ids.hexB (Ids.dgt y.id) 64 ++ [32]) ++ y.name) = S := ⟨_, rfl⟩
        rw [hS2] at s2 s3
        obtain ⟨S3, hS3⟩ : ∃ S, strB ln = S := ⟨_, rfl⟩
        rw [hS3] at s3 HSrc
        obtain ⟨S, hS⟩ : ∃ S, strB y.name = S := ⟨_, rfl⟩
        rw [hS] at HN0 s2
        have HHx := Lib.hid hHx
        have hnlb : m + nl ≤ 20000 := by omega
        clear hy hS hS1 hS2 hS3 hH0 hcI hca hnl hln hm hple hHx hll hyn
        obtain ⟨w2, hw2⟩ : ∃ w2, wo.alloc (.cells zeroR 50) = w2 := ⟨_, rfl⟩
        have HZ2 := Lib.hid (show Whole w2 wo.heap.size 50 zeroR from by subst hw2; exact Whole.new wo 50 zeroR)
        have HF2 := Lib.hid (show Fr (fun _ => False) wo w2 from by subst hw2; exact (Fr.refl (fun _ => False) wo).alloc _)
        unfold zeroR at hw2
        simp [List.replicate] at hw2
        go_upto_region 8 with (first
          | (refine wpList_store_at rfl 50 _ _ rfl wo.heap.size 0 50 zeroR ca rfl rfl HZ2.out (by rw [zeroR_size, hcs]; exact Nat.le_refl _) (by rw [hcs]; exact size_ref) HO.out ?_
             intro w3 hw3 hf3
             rw [laidAt_all _ _ (by rw [zeroR_size, hcs])] at hw3
             have HW3 := Lib.hid hw3
             have HF3 := Lib.hid (show Fr (fun _ => False) wo w3 from HF2.out.trans hf3 (fun i hi e => by omega))
             clear hw3 hf3 hw2))
        obtain ⟨g, hg⟩ : ∃ g, wo.heap.size = g := ⟨_, rfl⟩
        have HOb := Lib.hid (fun j (e : v.ownBlock = some j) => (by have := (World.ownsRow.lt HOw.out.1 j e).2; omega : j < g))
        rw [hg] at HW3 ⊢
        clear hg
        have CQ : Hid (∀ wq, Fr (fun j => v.ownBlock = some j) w3 wq → wq.cell? ⟨g, 0, none⟩ = some (.string S)) := Lib.hid (fun wq hq => by rw [(HW3.out.fr hq (fun e => by have := HOb.out g e; omega)).cell]; exact HN0.out)
        have LQ : Hid (∀ wq, Fr (fun j => v.ownBlock = some j) w3 wq → (loadCellsFrom ⟨g, 1, none⟩ 0 n32 #[]).run Tryd.prog wq = .ok ci wq) := Lib.hid (fun wq hq => by
          have h2 := run_loadCells_list (P := Tryd.prog) wq ⟨g, 1, none⟩ ci.toList (fun j v hv => by rw [add_off]; exact HI0.out wq g (HW3.out.fr hq (fun e => by have := HOb.out g e; omega)) j v hv)
          rw [Array.length_toList, hci] at h2
          rw [HN2.out]
          simpa [loadCells] using h2)
        have HFc := Lib.hid (show Fr (fun _ => False) w3 w3.drew from (Fr.refl _ w3).drew)
        have HSq := Lib.hid (show Fr (fun j => v.ownBlock = some j) w3 w3.drew from HFc.out.mono (fun _ _ e => e.elim))
        refine wp_region_held (S := fun w' => Fr (fun j => v.ownBlock = some j) w3 w') (by kernel_rfl) ?_
        change wpAnyH _ _ _ _ _ _ _ _ (World.drew w3)
        obtain ⟨wc, hwc⟩ : ∃ wc, w3.drew = wc := ⟨_, rfl⟩
        rw [hwc] at HFc HSq ⊢
        clear hwc
        (
          refine wpAnyH_takeM (i := 0) (v := v) 19 rfl rfl (by kernel_rfl) (by kernel_rfl) (by kernel_rfl) (fun _ _ _ h => h) (.inl ⟨by rfl, ?_⟩) HSq.out ?_
          · intro wq hq
            have cq := CQ.out wq hq
            have lq := LQ.out wq hq
            go_simp)
        (
          refine wpAnyH_takeM (i := 1) (v := .pointer (some ⟨g, 1, none⟩)) 20 rfl rfl (by kernel_rfl) (by kernel_rfl) (by kernel_rfl) (fun _ _ _ h => h) (.inl ⟨by rfl, ?_⟩) HSq.out ?_
          · intro wq hq
            have cq := CQ.out wq hq
            have lq := LQ.out wq hq
            go_simp)
        (
          refine wpAnyH_takeM (i := 2) (v := .agg ci) 21 rfl rfl (by kernel_rfl) (by kernel_rfl) (by kernel_rfl) (fun _ _ _ h => h) (.inl ⟨by rfl, ?_⟩) HSq.out ?_
          · intro wq hq
            have cq := CQ.out wq hq
            have lq := LQ.out wq hq
            go_simp)
        (
          refine wpAnyH_takeM (i := 5) (v := .pointer (some ⟨g, 0, none⟩)) 24 rfl rfl (by kernel_rfl) (by kernel_rfl) (by kernel_rfl) (fun _ _ _ h => h) (.inl ⟨by rfl, ?_⟩) HSq.out ?_
          · intro wq hq
            have cq := CQ.out wq hq
            have lq := LQ.out wq hq
            go_simp)
        (
          refine wpAnyH_takeM (i := 6) (v := .string S) 25 rfl rfl (by kernel_rfl) (by kernel_rfl) (by kernel_rfl) (fun _ _ _ h => h) (.inl ⟨by rfl, ?_⟩) HSq.out ?_
          · intro wq hq
            have cq := CQ.out wq hq
            have lq := LQ.out wq hq
            go_simp)
        (
          try simp only [List.setIfInBounds_toArray, List.set_cons_succ, List.set_cons_zero]
          refine wpAnyH_all (rs := [3]) (by kernel_rfl) (by simp) ?_
          intro i hi
          simp only [List.mem_cons, List.not_mem_nil, or_false] at hi
          subst hi)
        refine wpOp_step rfl (fun K hK => ?_)
        go_simp
        go_wp2_with (go_at_call 27; refine (HHx.out _).mono ?_; rintro e wd ⟨rfl, b5⟩; have HFd := Lib.hid (HFc.out.then_below b5); clear b5)
        have HSd := Lib.hid (show Fr (fun j => v.ownBlock = some j) w3 wd from HFd.out.mono (fun _ _ e => e.elim))
        refine ⟨HSd.out, ?_⟩
        have HSq := HSd
        try simp only [List.setIfInBounds_toArray, List.set_cons_succ, List.set_cons_zero]
        (
          refine wpAnyH_takeM (i := 4) (v := .string S1) 23 rfl rfl (by kernel_rfl) (by kernel_rfl) (by kernel_rfl) (fun _ _ _ h => h) (.inl ⟨by rfl, ?_⟩) HSq.out ?_
          · intro wq hq
            have cq := CQ.out wq hq
            have lq := LQ.out wq hq
            go_simp)
        (
          refine wpAnyH_takeM (i := 7) (v := .string S2) 26 rfl rfl (by kernel_rfl) (by kernel_rfl) (by kernel_rfl) (fun _ _ _ h => h) (.inl ⟨by rfl, ?_⟩) HSq.out ?_
          · intro wq hq
            have cq := CQ.out wq hq
            have lq := LQ.out wq hq
            go_simp)
        (
          refine wpAnyH_takeM (i := 8) (v := .string S3) 27 rfl rfl (by kernel_rfl) (by kernel_rfl) (by kernel_rfl) (fun _ _ _ h => h) (.inl ⟨by rfl, ?_⟩) HSq.out ?_
          · intro wq hq
            have cq := CQ.out wq hq
            have lq := LQ.out wq hq
            go_simp)
        (
          try simp only [List.setIfInBounds_toArray, List.set_cons_succ, List.set_cons_zero]
          refine wpAnyH_all (rs := [9]) (by kernel_rfl) (by simp) ?_
          intro i hi
          simp only [List.mem_cons, List.not_mem_nil, or_false] at hi
          subst hi)
        refine wpOp_step rfl (fun K hK => ?_)
        refine Ids.step_append_row _ (by rfl) (.tmp 19) (.tmp 27) 24 9 (by rfl) w.heap.size 5 i1 (.int .u8 0) 1 1 Tryd.underlying24 gi gz0 gz1 gz2 (by rfl) v m (bytesV pl) (by rfl) (by have := ((HOw.out.fr HF3.out).fr HFd.out).1; rw [HM.out] at this; exact this) (.string S3) nl (bytesV ln) (by rfl) (HSrc.out wd) (by unfold maxLen; omega) (by omega) (by have h1 := HFo.out.size; have h2 := HF3.out.size; have h3 := HFd.out.size; omega) ?_
        intro v' w5 o1 g1 at1
        have HO5 := Lib.hid (((HOw.out.fr HF3.out).fr HFd.out).grow HM.out.symm HNL.out.symm o1 g1)
        have HS5 := Lib.hid (show Fr (fun j => v.ownBlock = some j) w3 w5 from HSd.out.grown g1 (fun j e _ => e))
        clear o1 g1 at1
        refine hK _ _ ⟨HS5.out, ?_⟩
        clear hK K
        (
          try simp only [List.setIfInBounds_toArray, List.set_cons_succ, List.set_cons_zero]
          refine wpAnyH_all (rs := [10]) (by kernel_rfl) (by simp) ?_
          intro i hi
          simp only [List.mem_cons, List.not_mem_nil, or_false] at hi
          subst hi)
        refine wpOp_step rfl (fun K hK => ?_)
        go_simp
        refine hK _ _ ⟨HS5.out, ?_⟩
        clear hK K
        refine wpAnyH_done (by kernel_rfl) ?_ _
        go_wp2_with fail
        go_roundg (L - (k + 1))
        case measure => omega
        case rel => exact ⟨k + 1, _, rfl, by go_num, by omega, Nat.le_refl _, Lib.hid (by rw [HSk.out]; exact HO5.out)⟩
      · have hltz : ¬ ((k : Int) < L) := by omega
        obtain rfl : k = L := by omega
        have hfin : l.take k = l := List.take_of_length_le (by rw [HLn.out]; omega)
        rw [hfin] at HOw
        clear hfin
        obtain ⟨AO, cO, hvO, -⟩ := own_slice HOw.out.1
        subst hvO
        go_wp2_with fail
        go_ret2
        exact ⟨_, rfl, by rw [HP.out, if_pos (by first | rfl | trivial)]; exact HOw.out⟩
  · go_wp2_with (go_at_call 12; refine HCk.out.mono ?_; rintro e w1 ⟨rfl, b1⟩; have HF1 := Lib.hid (Fr.of_below (S := fun _ => False) b1); clear b1)
    go_ret2
    exact ⟨_, rfl, by rw [HP.out, if_neg hc0]; exact OwnB.nil HF1.out⟩
end Go.Proofs.YtoakbdmfoepdgaaDoor

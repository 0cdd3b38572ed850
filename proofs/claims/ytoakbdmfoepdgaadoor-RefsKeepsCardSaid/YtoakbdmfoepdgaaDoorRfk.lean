/- What is proved: which ref a word means, by the document. Conditions: the list's cells are there; the word is not too long for any machine. -/
import Derived.Test.YtoakbdmfoepdgaaDoorRfi
import Derived.Test.YtoakbdmfoepdgaaDoorRfj
namespace Go.Proofs.YtoakbdmfoepdgaaDoor
open Go.RowKit Go.Sort Go.Shelf
set_option linter.unusedVariables false

theorem yieldsIf_buildR {P : Program} {ops : Array Oper} {S : World → Prop} {op : Oper} {a : Act} (hw : Region.wanted op (yielded ops a.tmps) = true) (t : TypeId) (parts : Array (Nat × Operand)) (ho : op.op = .build t parts)
    (vals : Array (Nat × Value)) (hvals : (parts.map fun (i, x) => (i, a.eval x)) = vals) (v : Value) (hv : ∀ w, (Instr.build t vals).run P w = .ok v w) : YieldsIf P ops S op v a :=
  .inl ⟨hw, fun w _ => by
    unfold execOp
    simp [ho, hvals, hv]⟩
theorem build_rf (e : Rf) (w : World) : (Instr.build 50 #[(0, .string (strB e.name)), (1, .agg (Ids.idC (Ids.dgt e.id)))]).run Tryd.prog w = .ok (.agg (refV e).toArray) w := by kernel_rfl
theorem firstR_id {l : List Rf} {x : List UInt8} {r : Rf} (h : findR l x = some r) : r.name = x := (findR_some h).2

set_option maxHeartbeats 3200000 in
set_option maxRecDepth 100000 in
theorem QfResolve_any (A : Option Addr) (cap : Nat) (l : List Rf) (hn : l.length ≤ 100000) (n : List UInt8) (hl : n.length ≤ 9223372036854775000) (w : World) (h : Lies w A (flatR l)) :
    Calls Tryd.prog 24 #[.slice A l.length cap, .string (strB n)] w fun e w' => e = .returned (.tuple #[.agg (refV (resR l n).1).toArray, .int .i64 (resR l n).2]) ∧ Below w.heap.size w w' := by
  have HFF := Lib.hid (fun (x : List UInt8) (w' : World) (f : Fr (fun _ => False) w w') => QfFind_any A cap l hn x w' (h.fr f (fun _ _ e => e)))
  have HCk := Lib.hid (fun (w' : World) (f : Fr (fun _ => False) w w') => QfCheck_any A cap l hn w' (h.fr f (fun _ _ e => e)))
  have a1 : ∀ w, (Op.stringOp .add { data := #[104, 101, 97, 100, 115, 47] } (strB n)).run Tryd.prog w = .ok (.string (strB ([104, 101, 97, 100, 115] ++ 47 :: n))) w := fun w => add_str [104, 101, 97, 100, 115, 47] n (by simp; omega) w
  have a2 : ∀ w, (Op.stringOp .add { data := #[116, 97, 103, 115, 47] } (strB n)).run Tryd.prog w = .ok (.string (strB ([116, 97, 103, 115] ++ 47 :: n))) w := fun w => add_str [116, 97, 103, 115, 47] n (by simp; omega) w
  have HR : Hid (resR l n = if chkR l = 0 then (match firstR l (wordN n) with | some r => (r, 0) | none => (default, 35)) else (default, chkR l)) := Lib.hid rfl
  have HV : Hid ((strV (wordN n)).toArray = #[.string (strB n), .string (strB ([104, 101, 97, 100, 115] ++ 47 :: n)), .string (strB ([116, 97, 103, 115] ++ 47 :: n))]) := Lib.hid rfl
  have HD2 := Lib.hid (firstR_drop l (wordN n))
  have HWl : Hid ((wordN n).length = 3) := Lib.hid rfl
  rw [HWl.out] at HD2
  obtain ⟨L, hL⟩ : ∃ L, l.length = L := ⟨_, rfl⟩
  obtain ⟨c, hc⟩ : ∃ c, chkR l = c := ⟨_, rfl⟩
  obtain ⟨S, hS⟩ : ∃ S, strB n = S := ⟨_, rfl⟩
  obtain ⟨S1, hS1⟩ : ∃ S, strB ([104, 101, 97, 100, 115] ++ 47 :: n) = S := ⟨_, rfl⟩
  obtain ⟨S2, hS2⟩ : ∃ S, strB ([116, 97, 103, 115] ++ 47 :: n) = S := ⟨_, rfl⟩
  rw [hS, hS1, hS2] at HV
  rw [hS, hS1] at a1
  rw [hS, hS2] at a2
  rw [hL] at HFF
  rw [hc, hL] at HCk
  rw [hc] at HR
  rw [hL, hS]
  clear hL hS hS1 hS2 hc h hl hn
  obtain ⟨w1, hw1⟩ : ∃ w1, w.alloc (.cells zeroR 50) = w1 := ⟨_, rfl⟩
  have HZ1 := Lib.hid (show Whole w1 w.heap.size 50 zeroR from by subst hw1; exact Whole.new w 50 zeroR)
  have HF1 := Lib.hid (show Fr (fun _ => False) w w1 from by subst hw1; exact (Fr.refl (fun _ => False) w).alloc _)
  have hza : zeroR.all (·.oneCell') = true := by rw [← zeroR_eq]; exact refV_all _
  have HZA := Lib.hid hza
  clear hza
  unfold zeroR at hw1
  simp [List.replicate] at hw1
  obtain ⟨T, hT⟩ : ∃ T : TypeId, T = 41 := ⟨_, rfl⟩
  obtain ⟨n32, h32⟩ : ∃ n : Nat, n = 32 := ⟨_, rfl⟩
  have ag32 : ∀ w, (isAgg T).run Tryd.prog w = .ok true w := by rw [hT]; exact fun _ => by kernel_rfl
  have sz32 : ∀ w, (sizeOf T).run Tryd.prog w = .ok n32 w := by rw [hT, h32]; exact fun _ => by kernel_rfl
  have HN := Lib.hid h32
  clear h32
  go_enter Tryd.func24, Tryd.ntmps24
  rw [show Op.load 41 (.tmp 9) = Op.load T (.tmp 9) by rw [hT]]
  clear hT
  by_cases hc0 : c = 0
  · subst hc0
    go_wp2_with (first
      | (go_at_call 13; refine (HCk.out w1 HF1.out).mono ?_; rintro e w2 ⟨rfl, b2⟩; have HF2 := Lib.hid (Fr.of_below (S := fun _ => False) b2); clear b2))
    obtain ⟨w3, hw3⟩ : ∃ w3, w2.alloc (.cells #[.string S, .string S1, .string S2] 9) = w3 := ⟨_, rfl⟩
    have HW3 : Hid (Lies w3 (some ⟨w2.heap.size, 0, none⟩) (strV (wordN n))) := Lib.hid (by have := Whole.new w2 9 #[.string S, .string S1, .string S2]; rw [← HV.out] at this; rw [← hw3, ← HV.out]; exact Lies.of_whole this)
    have HF3 := Lib.hid (show Fr (fun _ => False) w1 w3 from by rw [← hw3]; exact HF2.out.alloc _)
    rw [hw3]
    clear hw3
    obtain ⟨gs, hgs⟩ : ∃ g, w2.heap.size = g := ⟨_, rfl⟩
    have HGs := Lib.hid (show w.heap.size < gs from by have h1 := HZ1.out.lt; have h2 := HF2.out.size; omega)
    rw [hgs] at HW3 ⊢
    clear hgs
    go_loopg [8] 3 (fun kx s8 wr => ∃ k : Nat, s8 = .int .i64 k ∧ k ≤ 3 ∧ 3 - k ≤ kx ∧ Fr (fun _ => False) w3 wr ∧ Hid (firstR l (wordN n) = firstR l ((wordN n).drop k)))
    case atStart => exact ⟨0, rfl, by omega, by omega, Fr.refl _ _, Lib.hid rfl⟩
    case round =>
      obtain ⟨k, rfl, hk, hkx, hf, HB⟩ := hrel
      obtain ⟨wo, rfl⟩ : ∃ wo, wo = wr := ⟨wr, rfl⟩
      have HFo := Lib.hid hf
      clear hf
      have wk := wrap_nat k (by omega)
      by_cases hlt : k < 3
      · have hltz : (k : Int) < 3 := by omega
        have HLs : Hid (∀ w', Fr (fun _ => False) w3 w' → w'.cell? ⟨gs, k, none⟩ = some (.string (strB ((wordN n).getD k [])))) := Lib.hid (fun w' f => by
          obtain ⟨b', o', hA, hc⟩ := lies_str HW3.out f k hlt
          injection hA with hA
          injection hA with h1 h2
          subst h1; subst h2
          rwa [Nat.zero_add] at hc)
        have HDk := Lib.hid (HD2.out k hlt)
        obtain ⟨x, hx⟩ : ∃ x, (wordN n).getD k [] = x := ⟨_, rfl⟩
        rw [hx] at HLs HDk
        have hff := HFF.out x wo ((HF1.out.trans HF3.out (fun _ _ e => e)).trans HFo.out (fun _ _ e => e))
        obtain ⟨f, hfnd⟩ : ∃ f, findR l x = f := ⟨_, rfl⟩
        have HFn := Lib.hid hfnd
        rw [hfnd] at hff HDk
        have HIS := Lib.hid (idC_sz (optR f).id)
        have HIA := Lib.hid (idC_al (optR f).id)
        have hci := Ids.idC_size (Ids.dgt (optR f).id)
        obtain ⟨ci, hcI⟩ : ∃ c, Ids.idC (Ids.dgt (optR f).id) = c := ⟨_, rfl⟩
        have HCI := Lib.hid hcI
        rw [hcI] at hff hci HIS HIA
        obtain ⟨fb, hfb⟩ : ∃ b, f.isSome = b := ⟨_, rfl⟩
        have HFB := Lib.hid hfb
        rw [hfb] at hff
        obtain ⟨X, hX⟩ : ∃ S, strB x = S := ⟨_, rfl⟩
        have HX := Lib.hid hX
        rw [hX] at HLs hff
        have hcell := HLs.out wo HFo.out
        have HC := Lib.hid hff
        clear hx hX hfb hcI hfnd hff
        cases fb
        · go_wp2_with (first
            | (go_at_call 22; refine HC.out.mono ?_; rintro e w4 ⟨rfl, b4⟩; have HF4 := Lib.hid (HFo.out.then_below b4); clear b4)
            | (refine wpList_store_at rfl 41 _ _ rfl w4.heap.size 0 41 Ids.zero32 ci rfl rfl (Whole.new w4 41 Ids.zero32) (by rw [hci]; decide) HIS.out HIA.out ?_
               intro w5 hw5 hf5
               have HF5 := Lib.hid (HF4.out.trans (((Fr.refl (fun _ => False) w4).alloc _).trans hf5 (fun i hi e => by omega)) (fun _ _ e => e))
               clear hw5 hf5))
          go_roundg (3 - (k + 1))
          case measure => omega
          case rel => exact ⟨k + 1, by go_num, by omega, Nat.le_refl _, HF5.out, Lib.hid (by rw [HB.out, HDk.out]; cases f with | none => rfl | some r => (have := HFB.out; cases this))⟩
        · obtain ⟨r, hfr⟩ : ∃ r, f = some r := Option.isSome_iff_exists.1 HFB.out
          subst hfr
          have hrn : r.name = x := firstR_id HFn.out
          have hbr := fun w => build_rf r w
          rw [hrn, HX.out, show Ids.idC (Ids.dgt r.id) = ci from HCI.out] at hbr
          have hcs := refV_size r
          have HO := Lib.hid (refV_all r)
          obtain ⟨cr, hcr⟩ : ∃ c, (refV r).toArray = c := ⟨_, rfl⟩
          have HCR := Lib.hid hcr
          rw [hcr] at hbr hcs HO
          have HBr := Lib.hid hbr
          clear hcr hbr hrn
          go_upto_region 10 with (first
            | (go_at_call 22; refine HC.out.mono ?_; rintro e w4 ⟨rfl, b4⟩; have HF4 := Lib.hid (HFo.out.then_below b4); clear b4)
            | (refine wpList_store_at rfl 41 _ _ rfl w4.heap.size 0 41 Ids.zero32 ci rfl rfl (Whole.new w4 41 Ids.zero32) (by rw [hci]; decide) HIS.out HIA.out ?_
               intro w5 hw5 hf5
               rw [laidAt_all _ _ (by rw [hci]; rfl)] at hw5
               have HW5 := Lib.hid hw5
               have HF5 := Lib.hid (HF4.out.trans (((Fr.refl (fun _ => False) w4).alloc _).trans hf5 (fun i hi e => by omega)) (fun _ _ e => e))
               clear hw5 hf5))
          obtain ⟨gi, hgi⟩ : ∃ g, w4.heap.size = g := ⟨_, rfl⟩
          rw [hgi] at HW5 ⊢
          have HGi := Lib.hid (show w.heap.size < gi from by have h1 := HZ1.out.lt; have h2 := HF4.out.size; have h3 := HF3.out.size; omega)
          have CQ : Hid (∀ wq, Fr (fun j => j = w.heap.size) w5 wq → wq.cell? ⟨gs, k, none⟩ = some (.string X)) := Lib.hid (fun wq hq => hq.cell (HLs.out w5 HF5.out) (fun e => by have h1 := HGs.out; have h2 : gs = w.heap.size := e; omega))
          have LQ : Hid (∀ wq, Fr (fun j => j = w.heap.size) w5 wq → (loadCellsFrom ⟨gi, 0, none⟩ 0 n32 #[]).run Tryd.prog wq = .ok ci wq) := Lib.hid (fun wq hq => by
            have h2 := run_loadCells_list (P := Tryd.prog) wq ⟨gi, 0, none⟩ ci.toList (fun j v hv => by rw [add_off, Nat.zero_add, (HW5.out.fr hq (fun e => by have h1 := HGi.out; omega)).cell]; simpa using hv)
            rw [Array.length_toList, hci] at h2
            rw [HN.out]
            simpa [loadCells] using h2)
          have HFc := Lib.hid (show Fr (fun _ => False) w5 w5.drew from (Fr.refl _ w5).drew)
          have HSq := Lib.hid (show Fr (fun j => j = w.heap.size) w5 w5.drew from HFc.out.mono (fun _ _ e => e.elim))
          refine wp_region_held (S := fun w' => Fr (fun j => j = w.heap.size) w5 w') (by kernel_rfl) ?_
          change wpAnyH _ _ _ _ _ _ _ _ (World.drew w5)
          obtain ⟨wc, hwc⟩ : ∃ wc, w5.drew = wc := ⟨_, rfl⟩
          rw [hwc] at HFc HSq ⊢
          clear hwc
          (
            refine wpAnyH_takeM (i := 0) (v := .slice (some ⟨gs, 0, none⟩) 3 3) 37 rfl rfl (by kernel_rfl) (by kernel_rfl) (by kernel_rfl) (fun _ _ _ h => h) (.inl ⟨by rfl, ?_⟩) HSq.out ?_
            · intro wq hq
              have cq := CQ.out wq hq
              have lq := LQ.out wq hq
              go_simp)
          (
            refine wpAnyH_takeM (i := 1) (v := .int .i64 k) 38 rfl rfl (by kernel_rfl) (by kernel_rfl) (by kernel_rfl) (fun _ _ _ h => h) (.inl ⟨by rfl, ?_⟩) HSq.out ?_
            · intro wq hq
              have cq := CQ.out wq hq
              have lq := LQ.out wq hq
              go_simp)
          (
            refine wpAnyH_takeM (i := 2) (v := .pointer (some ⟨gs, k, none⟩)) 39 rfl rfl (by kernel_rfl) (by kernel_rfl) (by kernel_rfl) (fun _ _ _ h => h) (.inl ⟨by rfl, ?_⟩) HSq.out ?_
            · intro wq hq
              have cq := CQ.out wq hq
              have lq := LQ.out wq hq
              go_simp)
          (
            refine wpAnyH_takeM (i := 3) (v := .string X) 40 rfl rfl (by kernel_rfl) (by kernel_rfl) (by kernel_rfl) (fun _ _ _ h => h) (.inl ⟨by rfl, ?_⟩) HSq.out ?_
            · intro wq hq
              have cq := CQ.out wq hq
              have lq := LQ.out wq hq
              go_simp)
          (
            refine wpAnyH_takeM (i := 4) (v := .agg ci) 41 rfl rfl (by kernel_rfl) (by kernel_rfl) (by kernel_rfl) (fun _ _ _ h => h) (.inl ⟨by rfl, ?_⟩) HSq.out ?_
            · intro wq hq
              have cq := CQ.out wq hq
              have lq := LQ.out wq hq
              go_simp)
          refine wpAnyH_takeM (i := 5) (v := .agg cr) 42 rfl rfl (by kernel_rfl) (by kernel_rfl) (by kernel_rfl) (fun _ _ _ h => h) (yieldsIf_buildR (by kernel_rfl) 50 #[(0, .tmp 40), (1, .tmp 41)] rfl #[(0, .string X), (1, .agg ci)] (by kernel_rfl) (.agg cr) HBr.out) HSq.out ?_
          (
            try simp only [List.setIfInBounds_toArray, List.set_cons_succ, List.set_cons_zero]
            refine wpAnyH_all (rs := [6]) (by kernel_rfl) (by simp) ?_
            intro i hi
            simp only [List.mem_cons, List.not_mem_nil, or_false] at hi
            subst hi)
          refine wpOp_step rfl (fun K hK => ?_)
          refine wp_store_at 50 (.tmp 4) (.tmp 42) rfl w.heap.size 0 50 zeroR cr rfl rfl (HZ1.out.fr ((HF3.out.trans HF5.out (fun _ _ e => e)).trans HFc.out (fun _ _ e => e)) (fun e => e)) (by rw [zeroR_size, hcs]; exact Nat.le_refl _) (by rw [hcs]; exact size_ref) HO.out ?_
          intro ws hws hf5
          rw [laidAt_all _ _ (by rw [zeroR_size, hcs])] at hws
          have HWs := Lib.hid hws
          have HFz := Lib.hid (show Fr (fun _ => False) w ws from (HF1.out.trans ((HF3.out.trans HF5.out (fun _ _ e => e)).trans HFc.out (fun _ _ e => e)) (fun _ _ e => e)).trans hf5 (fun i hi e => by omega))
          have HSz := Lib.hid (show Fr (fun j => j = w.heap.size) w5 ws from HSq.out.trans hf5 (fun _ _ e => e))
          clear hws hf5
          refine hK _ _ ⟨HSz.out, ?_⟩
          clear hK K
          (
            try simp only [List.setIfInBounds_toArray, List.set_cons_succ, List.set_cons_zero]
            refine wpAnyH_all (rs := [7]) (by kernel_rfl) (by simp) ?_
            intro i hi
            simp only [List.mem_cons, List.not_mem_nil, or_false] at hi
            subst hi)
          refine wpOp_step rfl (fun K hK => ?_)
          go_simp
          refine hK _ _ ⟨HSz.out, ?_⟩
          clear hK K
          refine wpAnyH_done (by kernel_rfl) ?_ _
          go_wp2_with fail
          (try simp only [Exit.inBlock, Exit.then])
          refine bodyPost_ret (v := .tuple #[.agg cr, .int .i64 0]) (results_cell_slot (p := 4) (u := 5) rfl _ _ _ _ _ _ rfl HWs.out Tryd.underlying50 rfl (by rw [hcs]; exact size_ref)) rfl ?_
          exact ⟨by rw [HR.out, if_pos (by first | rfl | trivial), HB.out, HDk.out, ← HCR.out], HFz.out.below (fun _ _ e => e)⟩
      · have hltz : ¬ ((k : Int) < 3) := by omega
        have HFin : Hid (firstR l (wordN n) = none) := Lib.hid (by rw [HB.out, List.drop_of_length_le (by rw [HWl.out]; omega)]; rfl)
        go_wp2_with (first
          | (refine wpList_store_at rfl 50 _ _ rfl w.heap.size 0 50 zeroR zeroR rfl rfl (HZ1.out.fr (HF3.out.trans HFo.out (fun _ _ e => e)) (fun e => e)) (Nat.le_refl _) size_ref HZA.out ?_
             intro w5 hw5 hf5))
        rw [laidAt_all _ _ rfl] at hw5
        refine bodyPost_ret (v := .tuple #[.agg zeroR, .int .i64 35]) (results_cell_slot (p := 4) (u := 5) rfl _ _ _ _ _ _ rfl hw5 Tryd.underlying50 rfl size_ref) rfl ?_
        exact ⟨by rw [HR.out, if_pos (by first | rfl | trivial), HFin.out, ← zeroR_eq], ((HF1.out.trans (HF3.out.trans HFo.out (fun _ _ e => e)) (fun _ _ e => e)).trans hf5 (fun i hi e => by omega)).below (fun _ _ e => e)⟩
  · go_wp2_with (first
      | (go_at_call 13; refine (HCk.out w1 HF1.out).mono ?_; rintro e w2 ⟨rfl, b2⟩; have HF2 := Lib.hid (Fr.of_below (S := fun _ => False) b2); clear b2)
      | (refine wpList_store_at rfl 50 _ _ rfl w.heap.size 0 50 zeroR zeroR rfl rfl (HZ1.out.fr HF2.out (fun e => e)) (Nat.le_refl _) size_ref HZA.out ?_
         intro w5 hw5 hf5))
    rw [laidAt_all _ _ rfl] at hw5
    refine bodyPost_ret (v := .tuple #[.agg zeroR, .int .i64 c]) (results_cell_slot (p := 4) (u := 5) rfl _ _ _ _ _ _ rfl hw5 Tryd.underlying50 rfl size_ref) rfl ?_
    exact ⟨by rw [HR.out, if_neg hc0, ← zeroR_eq], ((HF1.out.trans HF2.out (fun _ _ e => e)).trans hf5 (fun i hi e => by omega)).below (fun _ _ e => e)⟩
end Go.Proofs.YtoakbdmfoepdgaaDoor

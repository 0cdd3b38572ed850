/- What is proved: whether two of some refs have one name, by the program. Conditions: the list's cells are there. -/
import Derived.Test.YtoakbdmfoepdgaaDoorRfc
import Derived.OwnWalk
import Derived.OrdersHeld
import Derived.Deep.CutBlock
namespace Go.Proofs.YtoakbdmfoepdgaaDoor
open Go.RowKit Go.Sort Go.Shelf
set_option linter.unusedVariables false

theorem wpAnyH_takeM {P : Program} {ops : Array Oper} {Q : Exit → Act → World → Prop} {md : Region.Mode} {S : World → Prop} {i : Nat} {oi : Oper} {v : Value} {fuel : Nat} {listed : Array Bool} {t : Array Value} {df : List Deferred} {w : World} (d : Tmp) (hi : ops[i]? = some oi) (hd : oi.dst = some d)
    (hs : Region.noSelect ops = true) (hf : Region.free md ops listed i = true) (hr : (Region.ready md ops listed).contains i = true)
    (hQ : ∀ c a w, Q (.panic c) (a.put oi.dst v) w → Q (.panic c) a w) (hy : YieldsIf P ops S oi v { tmps := t, defers := df }) (hS : S w)
    (h : wpAnyH P md ops Q S fuel (listed.setIfInBounds i true) { tmps := t.setIfInBounds d v, defers := df } w) : wpAnyH P md ops Q S (fuel + 1) listed { tmps := t, defers := df } w :=
  wpAnyH_take hi hs hf hr hQ hy hS (by rw [hd]; exact h)

set_option maxHeartbeats 3200000 in
set_option maxRecDepth 100000 in
theorem RfTwice_any (A : Option Addr) (cap : Nat) (l : List Rf) (hn : l.length ≤ 100000) (hcap : l.length ≤ cap) (w : World) (h : Lies w A (flatR l)) :
    Calls Tryd.prog 32 #[.slice A l.length cap] w fun e w' => e = .returned (.bool (twR l)) ∧ Below w.heap.size w w' := by
  have HLI := Lib.hid h
  have HX := Lib.hid (fun k (hk : k < l.length) r => twR_found l k hk r)
  have HY := Lib.hid (twR_take l)
  obtain ⟨R, hR⟩ : ∃ b, twR l = b := ⟨_, rfl⟩
  rw [hR] at HX HY ⊢
  obtain ⟨L, hL⟩ : ∃ L, l.length = L := ⟨_, rfl⟩
  have HLn := Lib.hid hL
  obtain ⟨T, hT⟩ : ∃ T : TypeId, T = 50 := ⟨_, rfl⟩
  obtain ⟨n33, h33⟩ : ∃ n : Nat, n = 33 := ⟨_, rfl⟩
  have ag33 : ∀ w, (isAgg T).run Tryd.prog w = .ok true w := by rw [hT]; exact fun _ => by kernel_rfl
  have sz33 : ∀ w, (sizeOf T).run Tryd.prog w = .ok n33 w := by rw [hT, h33]; exact fun _ => by kernel_rfl
  have HN := Lib.hid h33
  have HT := Lib.hid hT
  rw [hL] at hn hcap HX HY ⊢
  clear h hL h33 hT hR
  go_enter Tryd.func32, Tryd.ntmps32
  rw [show Op.load 50 (.tmp 12) = Op.load T (.tmp 12) by rw [HT.out]]
  go_wp2
  go_loopg [9] L (fun kx s9 wr => ∃ k : Nat, s9 = .int .i64 k ∧ k ≤ L ∧ L - k ≤ kx ∧ Fr (fun _ => False) w wr ∧ Hid (∀ j, j < k → findR (l.take j) l[j]!.name = none))
  case atStart => exact ⟨0, rfl, by omega, by omega, Fr.refl _ _, Lib.hid (fun j hj => by omega)⟩
  case round =>
    obtain ⟨k, rfl, hk, hkx, hf, HB⟩ := hrel
    obtain ⟨wo, rfl⟩ : ∃ wo, wo = wr := ⟨wr, rfl⟩
    have HFo := Lib.hid hf
    clear hf
    have wk := wrap_nat k (by omega)
    by_cases hlt : k < L
    · have hltz : (k : Int) < L := by omega
      obtain ⟨b, o, hB⟩ := HLI.out.someR (by rw [HLn.out]; omega)
      subst hB
      have l1 : (loadCellsFrom ⟨b, o + k * 33, none⟩ 0 n33 #[]).run Tryd.prog wo = .ok (refV l[k]!).toArray wo := load_ref HLI.out (rf_some (by rw [HLn.out]; omega)) HFo.out n33 HN.out
      have HXk := Lib.hid (HX.out k hlt)
      have HYk : Hid (findR (l.take k) l[k]!.name = none → ∀ j, j < k + 1 → findR (l.take j) l[j]!.name = none) := Lib.hid (fun e j hj => by
        by_cases h : j = k
        · subst h; exact e
        · exact HB.out j (by omega))
      obtain ⟨y, hy⟩ : ∃ y, l[k]! = y := ⟨_, rfl⟩
      rw [hy] at l1 HXk HYk
      have hcs := refV_size y
      have HO := Lib.hid (refV_all y)
      have HN0 := Lib.hid (refV_name y)
      obtain ⟨ca, hca⟩ : ∃ c, (refV y).toArray = c := ⟨_, rfl⟩
      rw [hca] at l1 hcs HO HN0
      have HFF := Lib.hid (fun (w' : World) (f : Fr (fun _ => False) w w') (B : Option Addr) (h2 : Lies w' B (strV [y.name])) => RfFirst_any (some ⟨b, o, none⟩) cap (l.take k) (by rw [List.length_take]; omega) B 1 [y.name] (by simp) w' ((HLI.out.takeR k).fr f (fun _ _ e => e)) h2)
      rw [firstR_one, show (l.take k).length = k from by rw [List.length_take, HLn.out]; omega] at HFF
      obtain ⟨S, hS⟩ : ∃ S, strB y.name = S := ⟨_, rfl⟩
      have HSS := Lib.hid hS
      rw [hS] at HN0
      clear hy hS hca
      obtain ⟨f, hfnd⟩ : ∃ f, findR (l.take k) y.name = f := ⟨_, rfl⟩
      rw [hfnd] at HXk HYk HFF
      clear hfnd
      have hfs := refV_size (optR f)
      have HFO := Lib.hid (refV_all (optR f))
      obtain ⟨cf, hcf⟩ : ∃ c, (refV (optR f)).toArray = c := ⟨_, rfl⟩
      obtain ⟨fb, hfb⟩ : ∃ b, f.isSome = b := ⟨_, rfl⟩
      rw [hcf, hfb] at HFF
      rw [hcf] at hfs HFO
      have HFB := Lib.hid hfb
      clear hcf hfb
      obtain ⟨w2, hw2⟩ : ∃ w2, wo.alloc (.cells zeroR 50) = w2 := ⟨_, rfl⟩
      have HZ2 := Lib.hid (show Whole w2 wo.heap.size 50 zeroR from by subst hw2; exact Whole.new wo 50 zeroR)
      have HF2 := Lib.hid (show Fr (fun _ => False) wo w2 from by subst hw2; exact (Fr.refl (fun _ => False) wo).alloc _)
      unfold zeroR at hw2
      simp [List.replicate] at hw2
      go_upto_region 4 with (first
        | (refine wpList_store_at rfl 50 _ _ rfl wo.heap.size 0 50 zeroR ca rfl rfl HZ2.out (by rw [zeroR_size, hcs]; exact Nat.le_refl _) (by rw [hcs]; exact size_ref) HO.out ?_
           intro w3 hw3 hf3
           rw [laidAt_all _ _ (by rw [zeroR_size, hcs])] at hw3
           have hfr : Fr (fun _ => False) wo w3 := HF2.out.trans hf3 (fun i hi e => by omega)
           have HF3 := Lib.hid hfr
           have HW3 := Lib.hid hw3
           clear hw3 hf3 hfr hw2))
      have cq : ∀ q : Later w3, q.w'.cell? ⟨wo.heap.size, 0, none⟩ = some (.string S) := fun q => by rw [(HW3.out.fr q.fr (fun e => e)).cell]; exact HN0.out
      have sq : ∀ q : Later w3, (Instr.slice 22 (.slice (some ⟨b, o, none⟩) L cap) none (some (.int .i64 k)) none).run Tryd.prog q.w' = .ok (.slice (some ⟨b, o, none⟩) k cap) q.w' := fun q => slice_hdR _ (.inr ⟨_, _, rfl⟩) L cap k (by omega) _
      have HF0 := Lib.hid (HFo.out.trans HF3.out (fun _ _ e => e))
      have HFc := Lib.hid (show Fr (fun _ => False) w3 w3.drew from (Fr.refl _ w3).drew)
      have HSq := Lib.hid (show ∃ q : Later w3, w3.drew = q.w' from ⟨⟨_, HFc.out⟩, rfl⟩)
      refine wp_region_held (S := fun w' => ∃ q : Later w3, w' = q.w') (by kernel_rfl) ?_
      change wpAnyH _ _ _ _ _ _ _ _ (World.drew w3)
      obtain ⟨wc, hwc⟩ : ∃ wc, w3.drew = wc := ⟨_, rfl⟩
      rw [hwc] at HFc HSq ⊢
      clear hwc
      (
        refine wpAnyH_takeM (i := 0) (v := .slice (some ⟨b, o, none⟩) L cap) 15 rfl rfl (by kernel_rfl) (by kernel_rfl) (by kernel_rfl) (fun _ _ _ h => h) (.inl ⟨by rfl, ?_⟩) HSq.out ?_
        · rintro _ ⟨q, rfl⟩
          go_simp)
      (
        refine wpAnyH_takeM (i := 1) (v := .int .i64 k) 16 rfl rfl (by kernel_rfl) (by kernel_rfl) (by kernel_rfl) (fun _ _ _ h => h) (.inl ⟨by rfl, ?_⟩) HSq.out ?_
        · rintro _ ⟨q, rfl⟩
          go_simp)
      (
        refine wpAnyH_takeM (i := 2) (v := .slice (some ⟨b, o, none⟩) k cap) 17 rfl rfl (by kernel_rfl) (by kernel_rfl) (by kernel_rfl) (fun _ _ _ h => h) (.inl ⟨by rfl, ?_⟩) HSq.out ?_
        · rintro _ ⟨q, rfl⟩
          go_simp)
      (
        refine wpAnyH_takeM (i := 3) (v := .pointer (some ⟨wo.heap.size, 0, none⟩)) 18 rfl rfl (by kernel_rfl) (by kernel_rfl) (by kernel_rfl) (fun _ _ _ h => h) (.inl ⟨by rfl, ?_⟩) HSq.out ?_
        · rintro _ ⟨q, rfl⟩
          go_simp)
      (
        refine wpAnyH_takeM (i := 4) (v := .string S) 19 rfl rfl (by kernel_rfl) (by kernel_rfl) (by kernel_rfl) (fun _ _ _ h => h) (.inl ⟨by rfl, ?_⟩) HSq.out ?_
        · rintro _ ⟨q, rfl⟩
          go_simp)
      (
        try simp only [List.setIfInBounds_toArray, List.set_cons_succ, List.set_cons_zero]
        refine wpAnyH_all (rs := [5, 10]) (by kernel_rfl) (by simp) ?_
        intro i hi
        simp only [List.mem_cons, List.not_mem_nil, or_false] at hi
        rcases hi with rfl | rfl)
      · (
        refine wpOp_step rfl (fun K hK => ?_)
        obtain ⟨wold, hwold⟩ : ∃ wold, wold = wc := ⟨_, rfl⟩
        subst hwold
        obtain ⟨wc, hwa⟩ : ∃ wc, wold.alloc (.cells #[.string S] 9) = wc := ⟨_, rfl⟩
        have HWb := Lib.hid (show Whole wc wold.heap.size 9 #[.string S] from by rw [← hwa]; exact Whole.new _ _ _)
        have HFa := Lib.hid (show Fr (fun _ => False) wold wc from by rw [← hwa]; exact (Fr.refl (fun _ => False) wold).alloc _)
        have HFc := Lib.hid (HFc.out.trans HFa.out (fun _ _ e => e))
        have HSq := Lib.hid (show ∃ q : Later w3, wc = q.w' from ⟨⟨_, HFc.out⟩, rfl⟩)
        obtain ⟨gb, hgb⟩ : ∃ gb, wold.heap.size = gb := ⟨_, rfl⟩
        rw [hgb] at HWb
        skip
        go_simp
        refine hK _ _ ⟨HSq.out, ?_⟩
        clear hK K hwa hgb)
        (
          try simp only [List.setIfInBounds_toArray, List.set_cons_succ, List.set_cons_zero]
          refine wpAnyH_all (rs := [6, 10]) (by kernel_rfl) (by simp) ?_
          intro i hi
          simp only [List.mem_cons, List.not_mem_nil, or_false] at hi
          rcases hi with rfl | rfl)
        · (
          refine wpOp_step rfl (fun K hK => ?_)
          go_simp
          go_wp2_with (go_at_call 44; refine (HFF.out wc (HF0.out.trans HFc.out (fun _ _ e => e)) (some ⟨gb, 0, none⟩) (by have := Lies.of_whole (xs := strV [y.name]) (w := wc) (g := gb) (t := 9) (by rw [strV, List.map_cons, List.map_nil, HSS.out]; exact HWb.out); exact this)).mono ?_; rintro e wc ⟨rfl, b5⟩; have HFa := Lib.hid (Fr.of_below (S := fun _ => False) b5); skip; have HFc := Lib.hid (HFc.out.then_below b5); clear b5)
          have HSq := Lib.hid (show ∃ q : Later w3, wc = q.w' from ⟨⟨_, HFc.out⟩, rfl⟩)
          refine ⟨HSq.out, ?_⟩
          (
            try simp only [List.setIfInBounds_toArray, List.set_cons_succ, List.set_cons_zero])
          (
            refine wpAnyH_takeM (i := 7) (v := .tuple #[.agg cf, .bool fb]) 14 rfl rfl (by kernel_rfl) (by kernel_rfl) (by kernel_rfl) (fun _ _ _ h => h) (.inl ⟨by rfl, ?_⟩) HSq.out ?_
            · rintro _ ⟨q, rfl⟩
              go_simp)
          (
            refine wpAnyH_takeM (i := 8) (v := .agg cf) 22 rfl rfl (by kernel_rfl) (by kernel_rfl) (by kernel_rfl) (fun _ _ _ h => h) (.inl ⟨by rfl, ?_⟩) HSq.out ?_
            · rintro _ ⟨q, rfl⟩
              go_simp)
          (
            refine wpAnyH_takeM (i := 9) (v := .bool fb) 23 rfl rfl (by kernel_rfl) (by kernel_rfl) (by kernel_rfl) (fun _ _ _ h => h) (.inl ⟨by rfl, ?_⟩) HSq.out ?_
            · rintro _ ⟨q, rfl⟩
              go_simp))
          (
            try simp only [List.setIfInBounds_toArray, List.set_cons_succ, List.set_cons_zero]
            refine wpAnyH_all (rs := [10]) (by kernel_rfl) (by simp) ?_
            intro i hi
            simp only [List.mem_cons, List.not_mem_nil, or_false] at hi
            subst hi)
          (
            refine wpOp_step rfl (fun K hK => ?_)
            obtain ⟨wold, hwold⟩ : ∃ wold, wold = wc := ⟨_, rfl⟩
            subst hwold
            obtain ⟨wc, hwa⟩ : ∃ wc, wold.alloc (.cells zeroR 50) = wc := ⟨_, rfl⟩
            have HWa := Lib.hid (show Whole wc wold.heap.size 50 zeroR from by rw [← hwa]; exact Whole.new _ _ _)
            have HFa := Lib.hid (show Fr (fun _ => False) wold wc from by rw [← hwa]; exact (Fr.refl (fun _ => False) wold).alloc _)
            have HGa := Lib.hid (show w3.heap.size ≤ wold.heap.size from HFc.out.size)
            have HFc := Lib.hid (HFc.out.trans HFa.out (fun _ _ e => e))
            unfold zeroR at hwa
            simp [List.replicate] at hwa
            have HSq := Lib.hid (show ∃ q : Later w3, wc = q.w' from ⟨⟨_, HFc.out⟩, rfl⟩)
            obtain ⟨ga, hga⟩ : ∃ ga, wold.heap.size = ga := ⟨_, rfl⟩
            rw [hga] at HWa HGa
            skip
            go_simp
            refine hK _ _ ⟨HSq.out, ?_⟩
            clear hK K hwa hga)
          (
            (
              try simp only [List.setIfInBounds_toArray, List.set_cons_succ, List.set_cons_zero]
              refine wpAnyH_all (rs := [11]) (by kernel_rfl) (by simp) ?_
              intro i hi
              simp only [List.mem_cons, List.not_mem_nil, or_false] at hi
              subst hi)
            refine wpOp_step rfl (fun K hK => ?_)
            refine wp_store_at 50 (.tmp 5) (.tmp 22) rfl ga 0 50 zeroR cf rfl rfl HWa.out (by rw [zeroR_size, hfs]; exact Nat.le_refl _) (by rw [hfs]; exact size_ref) HFO.out ?_
            intro ws hws hf5
            have HFs := Lib.hid (HFc.out.trans hf5 (fun i hi e => by have := HGa.out; omega))
            clear hws hf5
            refine hK _ _ ⟨⟨⟨_, HFs.out⟩, rfl⟩, ?_⟩
            clear hK K
            (
              try simp only [List.setIfInBounds_toArray, List.set_cons_succ, List.set_cons_zero]
              refine wpAnyH_all (rs := [12]) (by kernel_rfl) (by simp) ?_
              intro i hi
              simp only [List.mem_cons, List.not_mem_nil, or_false] at hi
              subst hi)
            refine wpOp_step rfl (fun K hK => ?_)
            go_simp
            refine hK _ _ ⟨⟨⟨_, HFs.out⟩, rfl⟩, ?_⟩
            clear hK K
            refine wpAnyH_done (by kernel_rfl) ?_ _
            have HFe := Lib.hid ((HFo.out.trans HF3.out (fun _ _ e => e)).trans HFs.out (fun _ _ e => e))
            cases fb
            · go_wp2_with fail
              go_roundg (L - (k + 1))
              case measure => omega
              case rel => exact ⟨k + 1, by go_num, by omega, Nat.le_refl _, HFe.out, Lib.hid (HYk.out (by cases f with | none => rfl | some r => have := HFB.out; cases this))⟩
            · go_wp2_with fail
              (try simp only [Exit.inBlock, Exit.then])
              go_ret
              exact ⟨by obtain ⟨r, hr⟩ := Option.isSome_iff_exists.1 HFB.out; rw [HXk.out r hr]; rfl, HFe.out.below (fun _ _ e => e)⟩)
        · (
          refine wpOp_step rfl (fun K hK => ?_)
          obtain ⟨wold, hwold⟩ : ∃ wold, wold = wc := ⟨_, rfl⟩
          subst hwold
          obtain ⟨wc, hwa⟩ : ∃ wc, wold.alloc (.cells zeroR 50) = wc := ⟨_, rfl⟩
          have HWa := Lib.hid (show Whole wc wold.heap.size 50 zeroR from by rw [← hwa]; exact Whole.new _ _ _)
          have HFa := Lib.hid (show Fr (fun _ => False) wold wc from by rw [← hwa]; exact (Fr.refl (fun _ => False) wold).alloc _)
          have HGa := Lib.hid (show w3.heap.size ≤ wold.heap.size from HFc.out.size)
          have HFc := Lib.hid (HFc.out.trans HFa.out (fun _ _ e => e))
          unfold zeroR at hwa
          simp [List.replicate] at hwa
          have HSq := Lib.hid (show ∃ q : Later w3, wc = q.w' from ⟨⟨_, HFc.out⟩, rfl⟩)
          obtain ⟨ga, hga⟩ : ∃ ga, wold.heap.size = ga := ⟨_, rfl⟩
          rw [hga] at HWa HGa
          have HWb := Lib.hid (HWb.out.fr HFa.out (fun e => e))
          go_simp
          refine hK _ _ ⟨HSq.out, ?_⟩
          clear hK K hwa hga)
          (
            try simp only [List.setIfInBounds_toArray, List.set_cons_succ, List.set_cons_zero]
            refine wpAnyH_all (rs := [6]) (by kernel_rfl) (by simp) ?_
            intro i hi
            simp only [List.mem_cons, List.not_mem_nil, or_false] at hi
            subst hi)
          (
            refine wpOp_step rfl (fun K hK => ?_)
            go_simp
            go_wp2_with (go_at_call 44; refine (HFF.out wc (HF0.out.trans HFc.out (fun _ _ e => e)) (some ⟨gb, 0, none⟩) (by have := Lies.of_whole (xs := strV [y.name]) (w := wc) (g := gb) (t := 9) (by rw [strV, List.map_cons, List.map_nil, HSS.out]; exact HWb.out); exact this)).mono ?_; rintro e wc ⟨rfl, b5⟩; have HFa := Lib.hid (Fr.of_below (S := fun _ => False) b5); have HWa := Lib.hid (HWa.out.fr HFa.out (fun e => e)); have HFc := Lib.hid (HFc.out.then_below b5); clear b5)
            have HSq := Lib.hid (show ∃ q : Later w3, wc = q.w' from ⟨⟨_, HFc.out⟩, rfl⟩)
            refine ⟨HSq.out, ?_⟩
            (
              try simp only [List.setIfInBounds_toArray, List.set_cons_succ, List.set_cons_zero])
            (
              refine wpAnyH_takeM (i := 7) (v := .tuple #[.agg cf, .bool fb]) 14 rfl rfl (by kernel_rfl) (by kernel_rfl) (by kernel_rfl) (fun _ _ _ h => h) (.inl ⟨by rfl, ?_⟩) HSq.out ?_
              · rintro _ ⟨q, rfl⟩
                go_simp)
            (
              refine wpAnyH_takeM (i := 8) (v := .agg cf) 22 rfl rfl (by kernel_rfl) (by kernel_rfl) (by kernel_rfl) (fun _ _ _ h => h) (.inl ⟨by rfl, ?_⟩) HSq.out ?_
              · rintro _ ⟨q, rfl⟩
                go_simp)
            (
              refine wpAnyH_takeM (i := 9) (v := .bool fb) 23 rfl rfl (by kernel_rfl) (by kernel_rfl) (by kernel_rfl) (fun _ _ _ h => h) (.inl ⟨by rfl, ?_⟩) HSq.out ?_
              · rintro _ ⟨q, rfl⟩
                go_simp))
          (
            (
              try simp only [List.setIfInBounds_toArray, List.set_cons_succ, List.set_cons_zero]
              refine wpAnyH_all (rs := [11]) (by kernel_rfl) (by simp) ?_
              intro i hi
              simp only [List.mem_cons, List.not_mem_nil, or_false] at hi
              subst hi)
            refine wpOp_step rfl (fun K hK => ?_)
            refine wp_store_at 50 (.tmp 5) (.tmp 22) rfl ga 0 50 zeroR cf rfl rfl HWa.out (by rw [zeroR_size, hfs]; exact Nat.le_refl _) (by rw [hfs]; exact size_ref) HFO.out ?_
            intro ws hws hf5
            have HFs := Lib.hid (HFc.out.trans hf5 (fun i hi e => by have := HGa.out; omega))
            clear hws hf5
            refine hK _ _ ⟨⟨⟨_, HFs.out⟩, rfl⟩, ?_⟩
            clear hK K
            (
              try simp only [List.setIfInBounds_toArray, List.set_cons_succ, List.set_cons_zero]
              refine wpAnyH_all (rs := [12]) (by kernel_rfl) (by simp) ?_
              intro i hi
              simp only [List.mem_cons, List.not_mem_nil, or_false] at hi
              subst hi)
            refine wpOp_step rfl (fun K hK => ?_)
            go_simp
            refine hK _ _ ⟨⟨⟨_, HFs.out⟩, rfl⟩, ?_⟩
            clear hK K
            refine wpAnyH_done (by kernel_rfl) ?_ _
            have HFe := Lib.hid ((HFo.out.trans HF3.out (fun _ _ e => e)).trans HFs.out (fun _ _ e => e))
            cases fb
            · go_wp2_with fail
              go_roundg (L - (k + 1))
              case measure => omega
              case rel => exact ⟨k + 1, by go_num, by omega, Nat.le_refl _, HFe.out, Lib.hid (HYk.out (by cases f with | none => rfl | some r => have := HFB.out; cases this))⟩
            · go_wp2_with fail
              (try simp only [Exit.inBlock, Exit.then])
              go_ret
              exact ⟨by obtain ⟨r, hr⟩ := Option.isSome_iff_exists.1 HFB.out; rw [HXk.out r hr]; rfl, HFe.out.below (fun _ _ e => e)⟩)
      · (
        refine wpOp_step rfl (fun K hK => ?_)
        obtain ⟨wold, hwold⟩ : ∃ wold, wold = wc := ⟨_, rfl⟩
        subst hwold
        obtain ⟨wc, hwa⟩ : ∃ wc, wold.alloc (.cells zeroR 50) = wc := ⟨_, rfl⟩
        have HWa := Lib.hid (show Whole wc wold.heap.size 50 zeroR from by rw [← hwa]; exact Whole.new _ _ _)
        have HFa := Lib.hid (show Fr (fun _ => False) wold wc from by rw [← hwa]; exact (Fr.refl (fun _ => False) wold).alloc _)
        have HGa := Lib.hid (show w3.heap.size ≤ wold.heap.size from HFc.out.size)
        have HFc := Lib.hid (HFc.out.trans HFa.out (fun _ _ e => e))
        unfold zeroR at hwa
        simp [List.replicate] at hwa
        have HSq := Lib.hid (show ∃ q : Later w3, wc = q.w' from ⟨⟨_, HFc.out⟩, rfl⟩)
        obtain ⟨ga, hga⟩ : ∃ ga, wold.heap.size = ga := ⟨_, rfl⟩
        rw [hga] at HWa HGa
        skip
        go_simp
        refine hK _ _ ⟨HSq.out, ?_⟩
        clear hK K hwa hga)
        (
          try simp only [List.setIfInBounds_toArray, List.set_cons_succ, List.set_cons_zero]
          refine wpAnyH_all (rs := [5]) (by kernel_rfl) (by simp) ?_
          intro i hi
          simp only [List.mem_cons, List.not_mem_nil, or_false] at hi
          subst hi)
        (
          refine wpOp_step rfl (fun K hK => ?_)
          obtain ⟨wold, hwold⟩ : ∃ wold, wold = wc := ⟨_, rfl⟩
          subst hwold
          obtain ⟨wc, hwa⟩ : ∃ wc, wold.alloc (.cells #[.string S] 9) = wc := ⟨_, rfl⟩
          have HWb := Lib.hid (show Whole wc wold.heap.size 9 #[.string S] from by rw [← hwa]; exact Whole.new _ _ _)
          have HFa := Lib.hid (show Fr (fun _ => False) wold wc from by rw [← hwa]; exact (Fr.refl (fun _ => False) wold).alloc _)
          have HFc := Lib.hid (HFc.out.trans HFa.out (fun _ _ e => e))
          have HSq := Lib.hid (show ∃ q : Later w3, wc = q.w' from ⟨⟨_, HFc.out⟩, rfl⟩)
          obtain ⟨gb, hgb⟩ : ∃ gb, wold.heap.size = gb := ⟨_, rfl⟩
          rw [hgb] at HWb
          have HWa := Lib.hid (HWa.out.fr HFa.out (fun e => e))
          go_simp
          refine hK _ _ ⟨HSq.out, ?_⟩
          clear hK K hwa hgb)
        (
          try simp only [List.setIfInBounds_toArray, List.set_cons_succ, List.set_cons_zero]
          refine wpAnyH_all (rs := [6]) (by kernel_rfl) (by simp) ?_
          intro i hi
          simp only [List.mem_cons, List.not_mem_nil, or_false] at hi
          subst hi)
        (
          refine wpOp_step rfl (fun K hK => ?_)
          go_simp
          go_wp2_with (go_at_call 44; refine (HFF.out wc (HF0.out.trans HFc.out (fun _ _ e => e)) (some ⟨gb, 0, none⟩) (by have := Lies.of_whole (xs := strV [y.name]) (w := wc) (g := gb) (t := 9) (by rw [strV, List.map_cons, List.map_nil, HSS.out]; exact HWb.out); exact this)).mono ?_; rintro e wc ⟨rfl, b5⟩; have HFa := Lib.hid (Fr.of_below (S := fun _ => False) b5); have HWa := Lib.hid (HWa.out.fr HFa.out (fun e => e)); have HFc := Lib.hid (HFc.out.then_below b5); clear b5)
          have HSq := Lib.hid (show ∃ q : Later w3, wc = q.w' from ⟨⟨_, HFc.out⟩, rfl⟩)
          refine ⟨HSq.out, ?_⟩
          (
            try simp only [List.setIfInBounds_toArray, List.set_cons_succ, List.set_cons_zero])
          (
            refine wpAnyH_takeM (i := 7) (v := .tuple #[.agg cf, .bool fb]) 14 rfl rfl (by kernel_rfl) (by kernel_rfl) (by kernel_rfl) (fun _ _ _ h => h) (.inl ⟨by rfl, ?_⟩) HSq.out ?_
            · rintro _ ⟨q, rfl⟩
              go_simp)
          (
            refine wpAnyH_takeM (i := 8) (v := .agg cf) 22 rfl rfl (by kernel_rfl) (by kernel_rfl) (by kernel_rfl) (fun _ _ _ h => h) (.inl ⟨by rfl, ?_⟩) HSq.out ?_
            · rintro _ ⟨q, rfl⟩
              go_simp)
          (
            refine wpAnyH_takeM (i := 9) (v := .bool fb) 23 rfl rfl (by kernel_rfl) (by kernel_rfl) (by kernel_rfl) (fun _ _ _ h => h) (.inl ⟨by rfl, ?_⟩) HSq.out ?_
            · rintro _ ⟨q, rfl⟩
              go_simp))
        (
          (
            try simp only [List.setIfInBounds_toArray, List.set_cons_succ, List.set_cons_zero]
            refine wpAnyH_all (rs := [11]) (by kernel_rfl) (by simp) ?_
            intro i hi
            simp only [List.mem_cons, List.not_mem_nil, or_false] at hi
            subst hi)
          refine wpOp_step rfl (fun K hK => ?_)
          refine wp_store_at 50 (.tmp 5) (.tmp 22) rfl ga 0 50 zeroR cf rfl rfl HWa.out (by rw [zeroR_size, hfs]; exact Nat.le_refl _) (by rw [hfs]; exact size_ref) HFO.out ?_
          intro ws hws hf5
          have HFs := Lib.hid (HFc.out.trans hf5 (fun i hi e => by have := HGa.out; omega))
          clear hws hf5
          refine hK _ _ ⟨⟨⟨_, HFs.out⟩, rfl⟩, ?_⟩
          clear hK K
          (
            try simp only [List.setIfInBounds_toArray, List.set_cons_succ, List.set_cons_zero]
            refine wpAnyH_all (rs := [12]) (by kernel_rfl) (by simp) ?_
            intro i hi
            simp only [List.mem_cons, List.not_mem_nil, or_false] at hi
            subst hi)
          refine wpOp_step rfl (fun K hK => ?_)
          go_simp
          refine hK _ _ ⟨⟨⟨_, HFs.out⟩, rfl⟩, ?_⟩
          clear hK K
          refine wpAnyH_done (by kernel_rfl) ?_ _
          have HFe := Lib.hid ((HFo.out.trans HF3.out (fun _ _ e => e)).trans HFs.out (fun _ _ e => e))
          cases fb
          · go_wp2_with fail
            go_roundg (L - (k + 1))
            case measure => omega
            case rel => exact ⟨k + 1, by go_num, by omega, Nat.le_refl _, HFe.out, Lib.hid (HYk.out (by cases f with | none => rfl | some r => have := HFB.out; cases this))⟩
          · go_wp2_with fail
            (try simp only [Exit.inBlock, Exit.then])
            go_ret
            exact ⟨by obtain ⟨r, hr⟩ := Option.isSome_iff_exists.1 HFB.out; rw [HXk.out r hr]; rfl, HFe.out.below (fun _ _ e => e)⟩)
    · have hltz : ¬ ((k : Int) < L) := by omega
      go_wp2_with fail
      go_ret
      exact ⟨by rw [HY.out (fun j hj => HB.out j (by omega))]; rfl, HFo.out.below (fun _ _ e => e)⟩
end Go.Proofs.YtoakbdmfoepdgaaDoor

/- What is proved: Make by the program: the index of places, or the error. Conditions: at most 600 places, whose cells are there; the table of the sums lies as its text lays it. -/
import Derived.Test.YtgbhdjncccmabaaGreatDoorIxg
import Derived.Test.YtgbhdjncccmabaaGreatDoorDas
namespace Go.Proofs.YtgbhdjncccmabaaGreatDoor
open Go.RowKit
set_option linter.unusedVariables false

def MkPost (w : World) (ps : List Pl) (of : Nat) (e : Ending) (w' : World) : Prop :=
  ∃ v, e = .returned (.tuple #[v, .int .i64 (mkE ps)]) ∧ w'.ownsRow w.heap.size 5 1 v (mkB ps of).length (bytesV (mkB ps of)) ∧ Fr (fun _ => False) w w'
theorem mkB_bad {ps : List Pl} {of : Nat} (h : mkE ps ≠ 0) : mkB ps of = [] := if_neg h

set_option maxHeartbeats 6400000 in
set_option maxRecDepth 100000 in
theorem IMake_any (A : Option Addr) (cap : Nat) (ps : List Pl) (of : Nat) (hn : ps.length ≤ 600) (hok : ∀ p ∈ ps, p.Ok) (w : World) (h : Lies w A (flatP ps)) (ht : Tab w) :
    Calls Tryz.prog 15 #[.slice A ps.length cap, .agg (idC (dgt of))] w (MkPost w ps of) := by
  unfold MkPost
  obtain ⟨w0, hw0⟩ : ∃ w0, w.alloc (.cells (idC (dgt of)) 24) = w0 := ⟨_, rfl⟩
  have hF0 : Fr (fun _ => False) w w0 := by subst hw0; exact (Fr.refl _ w).alloc _
  have hO : Whole w0 w.heap.size 24 (idC (dgt of)) := by subst hw0; exact Whole.new w 24 _
  have HF0 := Lib.hid hF0
  have HO := Lib.hid hO
  have HT0 := Lib.hid (ht.fr hF0 (fun e => e))
  have HLI := Lib.hid (h.fr hF0 (fun _ _ e => e))
  have HOK := Lib.hid hok
  have HCL := Lib.hid (ICloneP_any A cap ps (by omega) w0 HLI.out)
  have HSO := Lib.hid (fun w1 B c (ho : OwnP w0 w1 (.slice B ps.length c) ps) => SortP_own w0 w1 B c ps (fun p hp => (hok p hp).id) (by omega) ho)
  have HLA := Lib.hid (fun w1 (f : Fr (fun _ => False) w0 w1) B c (s : List Pl) (hs : s.length ≤ 600) (h1 : ∀ p ∈ s, 0 ≤ p.sm ∧ p.sm < 4294967296) (h2 : ∀ p ∈ s, 0 ≤ p.pos ∧ p.pos ≤ 1048576) (hl : Lies w1 B (flatP s)) => Ilaid_any B c s of hs h1 h2 w1 hl (HT0.out.fr f (fun e => e)))
  unfold OwnPost at HLA
  obtain ⟨L, hL⟩ : ∃ L, ps.length = L := ⟨_, rfl⟩
  have HLn := Lib.hid hL
  obtain ⟨T32, hT32⟩ : ∃ T : TypeId, T = 24 := ⟨_, rfl⟩
  obtain ⟨n32, hn32⟩ : ∃ n : Nat, n = 32 := ⟨_, rfl⟩
  have ag32 : ∀ w, (isAgg T32).run Tryz.prog w = .ok true w := by rw [hT32]; exact fun _ => by kernel_rfl
  have sz32 : ∀ w, (sizeOf T32).run Tryz.prog w = .ok n32 w := by rw [hT32, hn32]; exact fun _ => by kernel_rfl
  have HN32 := Lib.hid hn32
  obtain ⟨T34, hT34⟩ : ∃ T : TypeId, T = 43 := ⟨_, rfl⟩
  obtain ⟨n34, hn34⟩ : ∃ n : Nat, n = 34 := ⟨_, rfl⟩
  have ag34 : ∀ w, (isAgg T34).run Tryz.prog w = .ok true w := by rw [hT34]; exact fun _ => by kernel_rfl
  have sz34 : ∀ w, (sizeOf T34).run Tryz.prog w = .ok n34 w := by rw [hT34, hn34]; exact fun _ => by kernel_rfl
  have HN34 := Lib.hid hn34
  rw [hL] at hn HCL HSO ⊢
  obtain ⟨co, hco⟩ : ∃ c, idC (dgt of) = c := ⟨_, rfl⟩
  have HOS := idC_size (dgt of)
  rw [hco] at hw0 HO HOS HLA ⊢
  have hLz : ¬ ((600 : Int) < (L : Int)) := by omega
  clear h hL hn32 hn34 hF0 hO ht hok hco
  go_enter Tryz.func15, Tryz.ntmps15
  rw [show Op.load 43 (.tmp 39) = Op.load T34 (.tmp 39) by rw [hT34], show Op.load 24 (.tmp 26) = Op.load T32 (.tmp 26) by rw [hT32], show Op.load 24 (.tmp 32) = Op.load T32 (.tmp 32) by rw [hT32], show Op.load 24 (.tmp 3) = Op.load T32 (.tmp 3) by rw [hT32]]
  clear hT32 hT34
  go_wp2_with (first
    | (go_at_call 40; refine HCL.out.mono ?_; rintro e w1 ⟨v, rfl, o1⟩; obtain ⟨B, c, hv, -, -, -⟩ := o1.slice; rw [HLn.out] at hv; subst hv; have HOC := Lib.hid o1; clear o1)
    | (go_at_call 41; refine (HSO.out _ _ _ HOC.out).mono ?_; rintro e w2 ⟨rfl, s, hp, hs, o2⟩; have hl2 := hp.length_eq; rw [HLn.out] at hl2; rw [hl2] at o2; have HSN := Lib.hid hl2; have HPM := Lib.hid hp; have HST := Lib.hid (sorted_at hs); have HSL := Lib.hid o2.lies; have HFS := Lib.hid o2.2; clear hp hs o2 hl2))
  have HGE := Lib.hid (fun i (hi : i < L) => some_pl (ps := s) (by rw [HSN.out]; exact hi))
  have HSI := Lib.hid (fun i (hi : i < L) => (HOK.out (s[i]!) (HPM.out.mem_iff.1 (by rw [getElem!_pos s i (by rw [HSN.out]; exact hi)]; exact List.getElem_mem _))))
  go_loopw [7] (fun i wr => ∃ k : Nat, (k = 0 ∨ k < L) ∧ i = .int .i64 ((k : Int) + 1) ∧ Hid (∀ j, j < k → (s[j]!).id ≠ (s[j + 1]!).id) ∧ Fr (fun _ => False) w2 wr) (fun i _ => L + 1 - (intOf i).toNat)
  case atStart => exact ⟨0, by omega, rfl, Lib.hid (fun j hj => by omega), Fr.refl _ _⟩
  case round =>
    obtain ⟨k, hk, rfl, hz, hf⟩ := hrel
    have HFr := Lib.hid hf
    by_cases hlt : k + 1 < L
    · obtain ⟨b, o, hA⟩ := HSL.out.someP (by rw [HSN.out]; omega)
      subst hA
      have ik := (HSI.out k (by omega)).id
      have ik1 := (HSI.out (k + 1) hlt).id
      have l1 : ∀ q : Later wr, (loadCellsFrom ⟨b, o + k * 34, none⟩ 0 n32 #[]).run Tryz.prog q.w' = .ok (idC (dgt (s[k]!).id)) q.w' := fun q => load_plid HSL.out (HGE.out k (by omega)) (hf.trans q.fr (fun _ _ e => e)) n32 HN32.out
      have l2 : ∀ q : Later wr, (loadCellsFrom ⟨b, o + (k + 1) * 34, none⟩ 0 n32 #[]).run Tryz.prog q.w' = .ok (idC (dgt (s[k + 1]!).id)) q.w' := fun q => load_plid HSL.out (HGE.out (k + 1) hlt) (hf.trans q.fr (fun _ _ e => e)) n32 HN32.out
      have cc := fun w => eq_nums (s[k + 1]!).id (s[k]!).id ik1 ik w
      obtain ⟨ca, hca⟩ : ∃ c, idC (dgt (s[k]!).id) = c := ⟨_, rfl⟩
      obtain ⟨cb, hcb⟩ : ∃ c, idC (dgt (s[k + 1]!).id) = c := ⟨_, rfl⟩
      obtain ⟨x, hx⟩ : ∃ x, (s[k]!).id = x := ⟨_, rfl⟩
      obtain ⟨y, hy⟩ : ∃ y, (s[k + 1]!).id = y := ⟨_, rfl⟩
      rw [hca] at l1 cc
      rw [hcb] at l2 cc
      rw [hx, hy] at cc
      have HX := Lib.hid hx
      have HY := Lib.hid hy
      have hk1 : (k : Int) + 1 < L := by omega
      have hk0 : (k : Int) < L := by omega
      have wk := wrap_nat k (by omega)
      have wk1 := wrap_nat1 k (by omega)
      have tn1 := toNat_nat1 k
      have nn1 := nonneg_nat1 k
      clear hca hcb hx hy hf hk ik ik1
      by_cases hge : y = x
      · subst hge
        have hyy : (y == y) = true := by simp
        rw [hyy] at cc
        have HDD : Hid (dupS s = true) := Lib.hid ((dupS_iff s).2 ⟨k, by rw [HSN.out]; exact hlt, by rw [HX.out, HY.out]⟩)
        have HMK := Lib.hid (mk_dup HPM.out HST.out HDD.out)
        clear hyy
        go_wp2_with fail
        refine wp_region_later (w0 := wr) (Fr.refl _ _) (by kernel_rfl) (by kernel_rfl) ?_
        repeat (quiet_step (fail))
        refine wpQuiet_nil ?_
        intro _ hw'
        obtain ⟨q, hw''⟩ := hw'
        subst hw''
        go_wp2_with fail
        go_ret2
        refine ⟨_, by rw [HMK.out]; rfl, ?_, ((HF0.out.trans HFS.out (fun _ _ e => e)).trans HFr.out (fun _ _ e => e)).trans q.fr (fun _ _ e => e)⟩
        rw [mkB_bad (by rw [HMK.out]; decide)]
        exact World.ownsRow_nil _ _ _ _
      · have hyy : (y == x) = false := by simpa using hge
        rw [hyy] at cc
        have HNE := Lib.hid hge
        clear hyy hge
        go_wp2_with fail
        refine wp_region_later (w0 := wr) (Fr.refl _ _) (by kernel_rfl) (by kernel_rfl) ?_
        repeat (quiet_step (fail))
        refine wpQuiet_nil ?_
        intro _ hw'
        obtain ⟨q, hw''⟩ := hw'
        subst hw''
        go_wp2_with fail
        go_roundw
        case rel => exact ⟨k + 1, by omega, by go_num, Lib.hid (fun j hj => (by omega : j < k ∨ j = k).elim (hz.out j) (fun e => by subst e; rw [HX.out, HY.out]; exact fun e => HNE.out e.symm)), HFr.out.trans q.fr (fun _ _ e => e)⟩
        case measure => simp [intOf]; omega
    · have HND : Hid (dupS s = false) := Lib.hid (by
        cases hd : dupS s with
        | false => rfl
        | true =>
          obtain ⟨j, hj, e⟩ := (dupS_iff s).1 hd
          rw [HSN.out] at hj
          exact absurd e (hz.out j (by omega)))
      have hk1 : ¬ ((k : Int) + 1 < L) := by omega
      have wk1 := wrap_nat1 k (by omega)
      clear hk hf hz
      go_wp2_with fail
      go_loopg [37] L (fun kx i wq => ∃ m : Nat, i = .int .i64 m ∧ m ≤ L ∧ L - m ≤ kx ∧ Hid (∀ j, j < m → 0 ≤ (s[j]!).pos ∧ (s[j]!).pos ≤ 1048576) ∧ Fr (fun _ => False) w2 wq)
      case atStart => exact ⟨0, rfl, by omega, by omega, Lib.hid (fun j hj => by omega), HFr.out⟩
      case round =>
        obtain ⟨m, rfl, hm, hmx, hz2, hf2⟩ := hrel
        obtain ⟨wo, rfl⟩ : ∃ wo, wo = wr := ⟨wr, rfl⟩
        have HF2 := Lib.hid hf2
        clear hf2
        have wm := wrap_nat m (by omega)
        by_cases hlt : m < L
        · have hltz : (m : Int) < L := by omega
          obtain ⟨b, o, hB⟩ := HSL.out.someP (by rw [HSN.out]; omega)
          subst hB
          have l1 : (loadCellsFrom ⟨b, o + m * 34, none⟩ 0 n34 #[]).run Tryz.prog wo = .ok (s[m]!).cells wo := load_pl HSL.out (HGE.out m hlt) HF2.out n34 HN34.out
          have hmem : s[m]! ∈ s := by rw [getElem!_pos s m (by rw [HSN.out]; exact hlt)]; exact List.getElem_mem _
          have hpk := HSI.out m hlt
          obtain ⟨p, hp⟩ : ∃ p, s[m]! = p := ⟨_, rfl⟩
          rw [hp] at l1 hmem hpk
          have HP := Lib.hid hp
          have HMEM := Lib.hid hmem
          have HPS := Lib.hid (plC_size p)
          have HPO1 := Lib.hid (plC_one p)
          have HPX := Lib.hid (plC_pos p)
          have hlo := hpk.lo
          have hhi := hpk.hi
          obtain ⟨pc, hpc⟩ : ∃ c, p.cells = c := ⟨_, rfl⟩
          obtain ⟨S, hS⟩ : ∃ S, p.pos = S := ⟨_, rfl⟩
          rw [hpc] at l1 HPS HPO1 HPX
          rw [hS] at HPX hlo hhi
          have HSd := Lib.hid hS
          (
            obtain ⟨w1, hw1⟩ : ∃ w1, wo.alloc (.cells zeroPl 43) = w1 := ⟨_, rfl⟩
            have HZ := Lib.hid (show Whole w1 wo.heap.size 43 zeroPl from by subst hw1; exact Whole.new wo 43 zeroPl)
            have HF1 := Lib.hid (show Fr (fun _ => False) wo w1 from by subst hw1; exact (Fr.refl _ wo).alloc _)
            unfold zeroPl at hw1
            simp [List.replicate] at hw1)
          have HST3 := Lib.hid (fun (w3 : World) (c : w3.cell? ⟨wo.heap.size, 32, none⟩ = some (.int .i64 S)) => c)
          clear hp hmem hpk hpc hS
          by_cases hneg : S < 0
          · have HBD : Hid (badS s = true) := Lib.hid (List.any_eq_true.2 ⟨p, HMEM.out, by rw [HSd.out]; exact decide_eq_true (.inl hneg)⟩)
            have HMK := Lib.hid (mk_bad HPM.out HST.out HND.out HBD.out)
            go_wp2_with (refine wpList_store_at rfl 43 _ _ rfl wo.heap.size 0 43 zeroPl pc rfl rfl HZ.out (by rw [HPS.out]; decide) (by rw [HPS.out]; exact size_pl) HPO1.out ?_; intro w3 hw3 hf3; rw [laidAt_all _ _ (by rw [HPS.out]; rfl)] at hw3; have c32 : w3.cell? ⟨wo.heap.size, 32, none⟩ = some (.int .i64 S) := (by rw [hw3.cell]; exact HPX.out); have HF3 := Lib.hid (HF1.out.trans hf3 (fun i hi e => by omega)); clear hw3 hf3)
            (try simp only [Exit.inBlock, Exit.then])
            go_ret2
            refine ⟨_, by rw [HMK.out]; rfl, ?_, ((HF0.out.trans HFS.out (fun _ _ e => e)).trans HF2.out (fun _ _ e => e)).trans HF3.out (fun _ _ e => e)⟩
            rw [mkB_bad (by rw [HMK.out]; decide)]
            exact World.ownsRow_nil _ _ _ _
          · by_cases hbig : (1048576 : Int) < S
            · have HBD : Hid (badS s = true) := Lib.hid (List.any_eq_true.2 ⟨p, HMEM.out, by rw [HSd.out]; exact decide_eq_true (.inr hbig)⟩)
              have HMK := Lib.hid (mk_bad HPM.out HST.out HND.out HBD.out)
              go_wp2_with (refine wpList_store_at rfl 43 _ _ rfl wo.heap.size 0 43 zeroPl pc rfl rfl HZ.out (by rw [HPS.out]; decide) (by rw [HPS.out]; exact size_pl) HPO1.out ?_; intro w3 hw3 hf3; rw [laidAt_all _ _ (by rw [HPS.out]; rfl)] at hw3; have c32 : w3.cell? ⟨wo.heap.size, 32, none⟩ = some (.int .i64 S) := (by rw [hw3.cell]; exact HPX.out); have HF3 := Lib.hid (HF1.out.trans hf3 (fun i hi e => by omega)); clear hw3 hf3)
              (try simp only [Exit.inBlock, Exit.then])
              go_ret2
              refine ⟨_, by rw [HMK.out]; rfl, ?_, ((HF0.out.trans HFS.out (fun _ _ e => e)).trans HF2.out (fun _ _ e => e)).trans HF3.out (fun _ _ e => e)⟩
              rw [mkB_bad (by rw [HMK.out]; decide)]
              exact World.ownsRow_nil _ _ _ _
            · go_wp2_with (refine wpList_store_at rfl 43 _ _ rfl wo.heap.size 0 43 zeroPl pc rfl rfl HZ.out (by rw [HPS.out]; decide) (by rw [HPS.out]; exact size_pl) HPO1.out ?_; intro w3 hw3 hf3; rw [laidAt_all _ _ (by rw [HPS.out]; rfl)] at hw3; have c32 : w3.cell? ⟨wo.heap.size, 32, none⟩ = some (.int .i64 S) := (by rw [hw3.cell]; exact HPX.out); have HF3 := Lib.hid (HF1.out.trans hf3 (fun i hi e => by omega)); clear hw3 hf3)
              go_roundg (L - (m + 1))
              case measure => omega
              case rel => exact ⟨m + 1, by go_num, by omega, Nat.le_refl _, Lib.hid (fun j hj => (by omega : j < m ∨ j = m).elim (hz2.out j) (fun e => by subst e; rw [HP.out, HSd.out]; omega)), HF2.out.trans HF3.out (fun _ _ e => e)⟩
        · have hltz : ¬ ((m : Int) < L) := by omega
          obtain rfl : L = m := by omega
          have HBD : Hid (badS s = false) := Lib.hid (by
            rw [badS, List.any_eq_false]
            intro p hp
            obtain ⟨j, hj, e⟩ := List.getElem_of_mem hp
            have := hz2.out j (by rw [← HSN.out]; exact hj)
            rw [getElem!_pos s j hj, e] at this
            simp
            omega)
          have HMK := Lib.hid (mk_ok HPM.out HST.out HND.out HBD.out)
          have l3 : (loadCellsFrom ⟨w.heap.size, 0, none⟩ 0 n32 #[]).run Tryz.prog wo = .ok co wo := by
            have := load_first ((HO.out.fr HFS.out (fun e => e)).fr HF2.out (fun e => e)) (Fr.refl _ wo) (n := n32) (by rw [HOS, HN32.out]; exact Nat.le_refl _)
            rwa [HN32.out, List.take_of_length_le (by rw [Array.length_toList, HOS]; exact Nat.le_refl _), Array.toArray_toList, ← HN32.out] at this
          have HLD := HLA.out wo (HFS.out.trans HF2.out (fun _ _ e => e)) B c s (by rw [HSN.out]; exact hn) (fun p hp => by have := HOK.out p (HPM.out.mem_iff.1 hp); exact ⟨this.s0, this.s1⟩) (fun p hp => by
            obtain ⟨j, hj, e⟩ := List.getElem_of_mem hp
            have := hz2.out j (by rw [← HSN.out]; exact hj)
            rwa [getElem!_pos s j hj, e] at this) (HSL.out.fr HF2.out (fun _ _ e => e))
          rw [HSN.out] at HLD
          have HLD2 := Lib.hid HLD
          clear HLD hz2
          go_wp2_with (go_at_call 44; refine HLD2.out.mono ?_; rintro e w5 ⟨v5, rfl, o5, b5⟩; have HO5 := Lib.hid o5; have HB5 := Lib.hid b5; clear o5 b5)
          go_ret2
          have HB := HMK.out
          have hsz := HF0.out.size
          have hsz2 := HFS.out.size
          have hsz3 := HF2.out.size
          refine ⟨v5, by rw [HB.1]; rfl, ?_, (((HF0.out.trans HFS.out (fun _ _ e => e)).trans HF2.out (fun _ _ e => e)).then_below HB5.out)⟩
          have e : mkB ps of = fileI s of := by rw [mkB, if_pos HB.1, ← HB.2]
          rw [e]
          exact own_weaken HO5.out (by omega)
end Go.Proofs.YtgbhdjncccmabaaGreatDoor

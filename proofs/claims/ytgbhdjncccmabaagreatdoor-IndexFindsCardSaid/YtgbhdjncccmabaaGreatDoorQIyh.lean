/- What is proved: texts that stand one behind the other: Iyh Iyj Iyk. Conditions: each theorem names its own. -/
import Derived.Test.YtgbhdjncccmabaaGreatDoorQIyf
import Derived.Lib.SlBytesConst
import Derived.Test.YtgbhdjncccmabaaGreatDoorIxp
import Derived.Test.YtgbhdjncccmabaaGreatDoorQIxu
import Derived.Deep.CutBlock
import Derived.Deep.DeepCutAuto
/- What is proved: Make by the document: the index of places, or the error. Conditions: the list's cells are there, at most 600 places. -/
namespace Go.Proofs.YtgbhdjncccmabaaGreatDoor
open Go.RowKit
set_option linter.unusedVariables false

def BigPost (w : World) (ys : List UInt8) (e : Ending) (w' : World) : Prop := ∃ A c, e = .returned (.slice A ys.length c) ∧ ys.length ≤ c ∧ Lies w' A (bytesV ys) ∧ Below w.heap.size w w'
set_option maxHeartbeats 1600000 in
theorem refBig_cap (n : Int) (size : Nat) (w : World) (h0 : 0 ≤ n) (h1 : n < 18446744073709551616) (hs : size ≤ 8) (hs0 : 0 < size) : Calls Tryz.prog 20 #[.int .u64 n, .int .i64 size] w (BigPost w (hiB n size size)) := by
  obtain ⟨i0, hi, hz0, hz1, hz2⟩ := info_parts info_u8
  go_enter Tryz.func20, Tryz.ntmps20
  go_wp2_with (at_make; refine wpList_make_full _ rfl _ _ 28 rfl w.heap.size 5 i0 (.int .u8 0) 1 Tryz.underlying28 hi hz0 hz1 .i64 .i64 _ _ size rfl rfl rfl rfl (by rw [hz2]; omega) (by unfold maxLen; omega) (Nat.le_refl _) ?_)
  intro w1 o1 g1
  have hO1 : w1.ownsRow w.heap.size 5 1 (.slice (some ⟨w.heap.size, 0, none⟩) size size) size (bytesV (bigRow n size 0)) := by
    have e : bytesV (bigRow n size 0) = (madeCells #[.int .u8 0] size).toList := by
      rw [toList_madeCells_one]
      unfold bigRow bytesV
      rw [List.drop_of_length_le (by rw [hiB_length]; omega), List.append_nil, List.map_replicate, Nat.sub_zero]
      rfl
    rw [e]; exact o1
  have HO1 := Lib.hid hO1
  have B1 := (Below.refl w.heap.size w).grown g1 (Nat.le_refl _) (fun k hk => by cases hk)
  clear o1 g1 hO1
  go_wp2_with fail
  go_loopw [0, 6] (fun m i wr => ∃ k : Nat, k ≤ size ∧ i = .int .i64 k ∧ (∃ mm : Int, m = .int .u64 mm ∧ 0 ≤ mm ∧ mm < 18446744073709551616 ∧ mm = n / 2 ^ (8 * k)) ∧ wr.ownsRow w.heap.size 5 1 (.slice (some ⟨w.heap.size, 0, none⟩) size size) size (bytesV (bigRow n size k)) ∧ Below w.heap.size w wr) (fun _ i _ => size - (intOf i).toNat)
  case atStart => exact ⟨0, Nat.zero_le _, rfl, ⟨n, rfl, h0, h1, by simp⟩, HO1.out, B1⟩
  case round =>
    obtain ⟨k, hk, rfl, ⟨mm, rfl, hm0, hm1, hmm⟩, ho, hb⟩ := hrel
    have HM := Lib.hid hmm
    have HO := Lib.hid ho
    have HB := Lib.hid hb
    clear hmm ho hb
    by_cases hlt : k < size
    · have hcell : wr.cell? ⟨w.heap.size, size - 1 - k, none⟩ = some (.int .u8 0) := by
        rw [World.ownsRow.cellAt HO.out (size - 1 - k) (by omega)]
        unfold bytesV bigRow
        rw [List.getElem?_map, List.getElem?_append_left (by simp; omega), List.getElem?_replicate, if_pos (by omega)]
        rfl
      have hfz := World.ownsRow.frozenAt HO.out (size - 1 - k)
      have hk0 : (0 : Int) ≤ (size : Int) - 1 - k := by omega
      have hk1 : (size : Int) - 1 - k < size := by omega
      have hkn : ((size : Int) - 1 - k).toNat = size - 1 - k := by omega
      go_wp2_with fail
      have hset := row_set HO.out (size - 1 - k) (mm % 256) (by omega) (by omega)
      have hmq : mm % 256 = n / 2 ^ (8 * k) % 256 := by rw [HM.out]
      rw [hmq, bigRow_next n size k hlt] at hset
      rw [← hmq] at hset
      have hmd : mm / 256 = n / 2 ^ (8 * (k + 1)) := by
        rw [HM.out, show 8 * (k + 1) = 8 * k + 8 by omega, Int.pow_add, Int.ediv_ediv_of_nonneg (Int.le_of_lt (Int.pow_pos (by decide)))]
        rfl
      have HS := Lib.hid hset
      have HMD := Lib.hid hmd
      clear hset hmd hmq
      go_roundw
      case rel => exact ⟨k + 1, by omega, by go_num, ⟨mm / 256, rfl, by omega, by omega, HMD.out⟩, HS.out, HB.out.setCell (p := ⟨w.heap.size, size - 1 - k, none⟩) (Nat.le_refl _) _⟩
      case measure => simp [intOf]; omega
    · obtain rfl : k = size := by omega
      have hfin : bigRow n k k = hiB n k k := by unfold bigRow; simp
      have hL := Lies.of_own HO.out
      rw [hfin] at hL
      have HLI := Lib.hid hL
      clear hL hfin
      go_wp2_with fail
      go_ret
      refine ⟨some ⟨w.heap.size, 0, none⟩, k, ?_, by rw [hiB_length]; exact Nat.le_refl _, HLI.out, HB.out⟩
      rw [hiB_length]
      rfl

theorem fanN_take (ns : List Nat) (k : Nat) (h : k < ns.length) (c : Nat) : fanN (ns.take (k + 1)) c = fanN (ns.take k) c + if b0 (gt ns k) ≤ c then 1 else 0 := by
  unfold fanN
  rw [cnt_succ _ ns k h]
  simp
theorem plC_b0 (p : Pl) : p.cells[0]? = some (.int .u8 (b0 p.id : Nat)) := plC_id p 0 (by decide)
theorem b0_pl {w w' : World} {b o : Nat} {ps : List Pl} {i : Nat} {p : Pl} (h : Lies w (some ⟨b, o, none⟩) (flatP ps)) (hi : ps[i]? = some p) (f : Fr (fun _ => False) w w') : w'.cell? ⟨b, o + i * 34, none⟩ = some (.int .u8 (b0 p.id : Nat)) := cell_pl h hi f 0 _ (plC_b0 p)

theorem load_wholeQ {w : World} {g : Nat} {t : TypeId} {cs : Array Value} (h : Whole w g t cs) (n : Nat) (hn : n = cs.size) : (loadCellsFrom ⟨g, 0, none⟩ 0 n #[]).run Tryz.prog w = .ok cs w := by
  have h2 := run_loadCells_list (P := Tryz.prog) w ⟨g, 0, none⟩ cs.toList (fun j v hv => by rw [add_off, Nat.zero_add, h.cell]; simpa using hv)
  rw [Array.length_toList] at h2
  rw [hn]
  simpa [loadCells] using h2
theorem OwnB.app {w0 w w' : World} {v v' : Value} {cur news : List UInt8} {n m : Nat} (h : OwnB w0 w v cur) (hn : cur.length = n) (hm : news.length = m) (o : w'.ownsRow w0.heap.size 5 1 v' (n + m) (bytesV cur ++ bytesV news)) (g : w.grownBy w' v.ownBlock) :
    ∃ A c, v' = .slice A (n + m) c ∧ n + m ≤ c ∧ (cur ++ news).length = n + m ∧ OwnB w0 w' (.slice A (n + m) c) (cur ++ news) := by
  obtain ⟨A, c, hv, hc, -⟩ := own_slice o
  subst hv
  have hl : (cur ++ news).length = n + m := by rw [List.length_append, hn, hm]
  refine ⟨A, c, rfl, hc, hl, ?_, fr_append h.1 h.2 g⟩
  rw [hl, bytesV_append]
  exact o
theorem OwnB.at {w0 w : World} {v : Value} {cur : List UInt8} {n : Nat} (h : OwnB w0 w v cur) (hn : cur.length = n) : w.ownsRow w0.heap.size 5 1 v n (bytesV cur) := by
  subst hn
  exact h.1

set_option maxHeartbeats 12800000 in
set_option maxRecDepth 100000 in
theorem QIMake_any (A : Option Addr) (cap : Nat) (ps : List Pl) (of : Nat) (hn : ps.length ≤ 600) (hok : ∀ p ∈ ps, p.Ok) (w : World) (h : Lies w A (flatP ps)) :
    Calls Tryz.prog 5 #[.slice A ps.length cap, .agg (idC (dgt of))] w (MkPost w ps of) := by
  unfold MkPost
  obtain ⟨i0, hi, hz0, hz1, hz2⟩ := info_parts info_u8
  obtain ⟨w0, hw0⟩ : ∃ w0, w.alloc (.cells (idC (dgt of)) 24) = w0 := ⟨_, rfl⟩
  have hF0 : Fr (fun _ => False) w w0 := by subst hw0; exact (Fr.refl _ w).alloc _
  have hO : Whole w0 w.heap.size 24 (idC (dgt of)) := by subst hw0; exact Whole.new w 24 _
  have HF0 := Lib.hid hF0
  have HO := Lib.hid hO
  have HSO := Lib.hid (QIsorted_any A cap ps (by omega) (fun p hp => (hok p hp).id) w0 (h.fr hF0 (fun _ _ e => e)))
  have HE : Hid (mkE ps = if dupS (srtP ps) = true then 17 else if badS (srtP ps) = true then 2 else 0) := Lib.hid rfl
  have HB : Hid (mkE ps = 0 → mkB ps of = bodyI (srtP ps) of ++ sumL (bodyI (srtP ps) of)) := Lib.hid (fun hz => by rw [mkB, if_pos hz, fileI])
  have HNB : Hid (mkE ps ≠ 0 → mkB ps of = []) := Lib.hid (fun hz => mkB_bad hz)
  have HOKS : Hid (∀ p ∈ srtP ps, p.Ok) := Lib.hid (fun p hp => hok p ((srtP_perm ps).mem_iff.1 hp))
  have HSN : Hid ((srtP ps).length = ps.length) := Lib.hid (srtP_len ps)
  have HBY := Lib.hid (QIbytes_any of)
  have HBY2 := Lib.hid QIbytes_any
  unfold OwnPost at HBY HBY2
  have HBG := Lib.hid (fun (n : Int) (h0 : 0 ≤ n) (h1 : n < 18446744073709551616) w => refBig_cap n 4 w h0 h1 (by decide) (by decide))
  unfold BigPost at HBG
  simp only [hiB_length] at HBG
  have HCL := Lib.hid (fun w' A' c' (N : Nat) (l : List UInt8) (hN : l.length = N) (hc : N ≤ c') (hl : N ≤ 1000000) (hh : Lies w' A' (bytesV l)) => (by subst hN; exact QPClosed_any A' c' l hc hl w' hh : Calls Tryz.prog 22 #[.slice A' N c'] w' (OwnPost w' (l ++ sumL l))))
  unfold OwnPost at HCL
  have HJ := Lib.hid (fun w' (P : Option Addr) (hp : Parts w' P [[73, 78, 68, 88], hiB 1 4 4]) => refJoin_any P 2 [[73, 78, 68, 88], hiB 1 4 4] (by decide) (by decide) w' hp)
  unfold OwnPost at HJ
  rw [show ([[73, 78, 68, 88], hiB 1 4 4] : List (List UInt8)).flatten = wordI by simp [wordI], show ([[73, 78, 68, 88], hiB 1 4 4] : List (List UInt8)).length = 2 from rfl, wordI_len] at HJ
  obtain ⟨L, hL⟩ : ∃ L, ps.length = L := ⟨_, rfl⟩
  obtain ⟨s, hs⟩ : ∃ s, srtP ps = s := ⟨_, rfl⟩
  obtain ⟨E, hE⟩ : ∃ E, mkE ps = E := ⟨_, rfl⟩
  rw [hs] at HSO HE HB HOKS HSN
  rw [hE] at HE HB HNB
  rw [hL] at HSO HSN hn ⊢
  have HEd := Lib.hid hE
  have HIL : Hid ((idsP s).length = L) := Lib.hid (by rw [idsP_len, HSN.out])
  obtain ⟨co, hco⟩ : ∃ c, idC (dgt of) = c := ⟨_, rfl⟩
  have HOS := Lib.hid (idC_size (dgt of))
  rw [hco] at hw0 HO HBY HOS ⊢
  obtain ⟨T32, hT32⟩ : ∃ T : TypeId, T = 24 := ⟨_, rfl⟩
  obtain ⟨n32, hn32⟩ : ∃ n : Nat, n = 32 := ⟨_, rfl⟩
  have ag32 : ∀ w, (isAgg T32).run Tryz.prog w = .ok true w := by rw [hT32]; exact fun _ => by kernel_rfl
  have sz32 : ∀ w, (sizeOf T32).run Tryz.prog w = .ok n32 w := by rw [hT32, hn32]; exact fun _ => by kernel_rfl
  have HN32 := Lib.hid hn32
  have hLz : ¬ ((600 : Int) < (L : Int)) := by omega
  clear h hL hs hE hn32 hF0 hO hok hco
  go_enter Tryz.func5, Tryz.ntmps5
  rw [show Op.load 24 (.tmp 31) = Op.load T32 (.tmp 31) by rw [hT32], show Op.load 24 (.tmp 37) = Op.load T32 (.tmp 37) by rw [hT32], show Op.load 24 (.tmp 101) = Op.load T32 (.tmp 101) by rw [hT32], show Op.load 24 (.tmp 3) = Op.load T32 (.tmp 3) by rw [hT32]]
  clear hT32
  go_upto_block 0 with (go_at_call 18; refine HSO.out.mono ?_; rintro e w1 ⟨v6, rfl, o6⟩; obtain ⟨A6, c6, hv6, -, -, -, l6⟩ := o6.shape; rw [HSN.out] at hv6; subst hv6; have HSL := Lib.hid l6; have HF1 := Lib.hid o6.2; clear l6 o6)
  have HGE := Lib.hid (fun i (hi : i < L) => some_pl (ps := s) (by rw [HSN.out]; exact hi))
  have HSI := Lib.hid (fun i (hi : i < L) => HOKS.out (s[i]!) (by rw [getElem!_pos s i (by rw [HSN.out]; exact hi)]; exact List.getElem_mem _))
  go_cut [] (fun wc => Hid (dupS s = false) ∧ Hid (Fr (fun _ => False) w1 wc))
  case first =>
    go_wp2_with fail
    go_loopg [7] L (fun kx i wr => ∃ k : Nat, i = .int .i64 k ∧ (k = 0 ∨ k < L) ∧ L - k ≤ kx ∧ Hid (∀ j, j < k → (s[j]!).id ≠ (s[j + 1]!).id) ∧ Hid (Fr (fun _ => False) w1 wr))
    case atStart => exact ⟨0, rfl, .inl rfl, by omega, Lib.hid (fun j hj => by omega), Lib.hid (Fr.refl _ _)⟩
    case round =>
      obtain ⟨k, rfl, hk, hkx, hz, HFr⟩ := hrel
      by_cases hlt : k + 1 < L
      · obtain ⟨b, o, hA⟩ := HSL.out.someP (by rw [HSN.out]; omega)
        subst hA
        have ik := (HSI.out k (by omega)).id
        have ik1 := (HSI.out (k + 1) hlt).id
        have l1 : ∀ q : Later wr, (loadCellsFrom ⟨b, o + k * 34, none⟩ 0 n32 #[]).run Tryz.prog q.w' = .ok (idC (dgt (s[k]!).id)) q.w' := fun q => load_plid HSL.out (HGE.out k (by omega)) (HFr.out.trans q.fr (fun _ _ e => e)) n32 HN32.out
        have l2 : ∀ q : Later wr, (loadCellsFrom ⟨b, o + (k + 1) * 34, none⟩ 0 n32 #[]).run Tryz.prog q.w' = .ok (idC (dgt (s[k + 1]!).id)) q.w' := fun q => load_plid HSL.out (HGE.out (k + 1) hlt) (HFr.out.trans q.fr (fun _ _ e => e)) n32 HN32.out
        have cc := fun w => eq_nums (s[k]!).id (s[k + 1]!).id ik ik1 w
        obtain ⟨ca, hca⟩ : ∃ c, idC (dgt (s[k]!).id) = c := ⟨_, rfl⟩
        obtain ⟨cb, hcb⟩ : ∃ c, idC (dgt (s[k + 1]!).id) = c := ⟨_, rfl⟩
        obtain ⟨x, hx⟩ : ∃ x, (s[k]!).id = x := ⟨_, rfl⟩
        obtain ⟨y, hy⟩ : ∃ y, (s[k + 1]!).id = y := ⟨_, rfl⟩
        rw [hca] at l1 cc
        rw [hcb] at l2 cc
        rw [hx, hy] at cc
        have HX := Lib.hid hx
        have HY := Lib.hid hy
        have hk1 : (k : Int) + 1 < L := by omega
        have hk0 : (k : Int) < L := by omega
        have wk := wrap_nat k (by omega)
        have wk1 := wrap_nat1 k (by omega)
        have tn1 := toNat_nat1 k
        have nn1 := nonneg_nat1 k
        clear hca hcb hx hy hk ik ik1
        by_cases hge : x = y
        · subst hge
          have hyy : (x == x) = true := by simp
          rw [hyy] at cc
          have HDD : Hid (dupS s = true) := Lib.hid ((dupS_iff s).2 ⟨k, by rw [HSN.out]; exact hlt, by rw [HX.out, HY.out]⟩)
          have HMK : Hid (E = 17) := Lib.hid (by rw [HE.out, if_pos HDD.out])
          clear hyy
          go_wp2_with fail
          refine wp_region_later (w0 := wr) (Fr.refl _ _) (by kernel_rfl) (by kernel_rfl) ?_
          repeat (quiet_step (fail))
          refine wpQuiet_nil ?_
          intro _ hw'
          obtain ⟨q, hw''⟩ := hw'
          subst hw''
          go_wp2_with fail
          (try simp only [Exit.inBlock, Exit.then])
          go_ret2
          refine ⟨_, by rw [HEd.out, HMK.out]; rfl, ?_, ((HF0.out.trans HF1.out (fun _ _ e => e)).trans HFr.out (fun _ _ e => e)).trans q.fr (fun _ _ e => e)⟩
          rw [HNB.out (by rw [HMK.out]; decide)]
          exact World.ownsRow_nil _ _ _ _
        · have hyy : (x == y) = false := by simpa using hge
          rw [hyy] at cc
          have HNE := Lib.hid hge
          clear hyy hge
          go_wp2_with fail
          refine wp_region_later (w0 := wr) (Fr.refl _ _) (by kernel_rfl) (by kernel_rfl) ?_
          repeat (quiet_step (fail))
          refine wpQuiet_nil ?_
          intro _ hw'
          obtain ⟨q, hw''⟩ := hw'
          subst hw''
          go_wp2_with fail
          go_roundg (L - (k + 1))
          case measure => omega
          case rel => exact ⟨k + 1, by go_num, by omega, Nat.le_refl _, Lib.hid (fun j hj => (by omega : j < k ∨ j = k).elim (hz.out j) (fun e => by subst e; rw [HX.out, HY.out]; exact HNE.out)), Lib.hid (HFr.out.trans q.fr (fun _ _ e => e))⟩
      · have HND : Hid (dupS s = false) := Lib.hid (by
          cases hd : dupS s with
          | false => rfl
          | true =>
            obtain ⟨j, hj, e⟩ := (dupS_iff s).1 hd
            rw [HSN.out] at hj
            exact absurd e (hz.out j (by omega)))
        have hk1 : ¬ ((k : Int) + 1 < L) := by omega
        have wk1 := wrap_nat1 k (by omega)
        clear hk hz
        go_wp2_with fail
        go_meet
        case rel => exact ⟨HND, HFr⟩
  case rest =>
    obtain ⟨HND, HFA⟩ := hcut
    obtain ⟨wb, rfl⟩ : ∃ wb, wb = wc := ⟨wc, rfl⟩
    go_step
    go_upto_block 2 with fail
    go_cut [] (fun wd => Hid (badS s = false ∧ ∀ j, j < L → 0 ≤ (s[j]!).pos ∧ (s[j]!).pos ≤ 1048576) ∧ Hid (Fr (fun _ => False) w1 wd))
    case first =>
      go_wp2_with fail
      go_loopg [8] L (fun kx i wr => ∃ m : Nat, i = .int .i64 m ∧ m ≤ L ∧ L - m ≤ kx ∧ Hid (∀ j, j < m → 0 ≤ (s[j]!).pos ∧ (s[j]!).pos ≤ 1048576) ∧ Hid (Fr (fun _ => False) w1 wr))
      case atStart => exact ⟨0, rfl, by omega, by omega, Lib.hid (fun j hj => by omega), HFA⟩
      case round =>
        obtain ⟨m, rfl, hm, hmx, hz2, HFr⟩ := hrel
        have wm := wrap_nat m (by omega)
        by_cases hlt : m < L
        · have hltz : (m : Int) < L := by omega
          obtain ⟨b, o, hA⟩ := HSL.out.someP (by rw [HSN.out]; omega)
          subst hA
          have c0 := pos_pl HSL.out (HGE.out m hlt) HFr.out
          have hmem : s[m]! ∈ s := by rw [getElem!_pos s m (by rw [HSN.out]; exact hlt)]; exact List.getElem_mem _
          obtain ⟨p, hp⟩ : ∃ p, s[m]! = p := ⟨_, rfl⟩
          rw [hp] at c0 hmem
          have HP := Lib.hid hp
          have HMEM := Lib.hid hmem
          obtain ⟨S, hS⟩ : ∃ S, p.pos = S := ⟨_, rfl⟩
          rw [hS] at c0
          have HSd := Lib.hid hS
          clear hp hmem hS
          by_cases hneg : S < 0
          · have HBD : Hid (badS s = true) := Lib.hid (List.any_eq_true.2 ⟨p, HMEM.out, by rw [HSd.out]; exact decide_eq_true (.inl hneg)⟩)
            have HMK : Hid (E = 2) := Lib.hid (by rw [HE.out, HND.out, HBD.out]; rfl)
            go_wp2_with fail
            (try simp only [Exit.inBlock, Exit.then])
            go_ret2
            refine ⟨_, by rw [HEd.out, HMK.out]; rfl, ?_, (HF0.out.trans HF1.out (fun _ _ e => e)).trans HFr.out (fun _ _ e => e)⟩
            rw [HNB.out (by rw [HMK.out]; decide)]
            exact World.ownsRow_nil _ _ _ _
          · by_cases hbig : (1048576 : Int) < S
            · have HBD : Hid (badS s = true) := Lib.hid (List.any_eq_true.2 ⟨p, HMEM.out, by rw [HSd.out]; exact decide_eq_true (.inr hbig)⟩)
              have HMK : Hid (E = 2) := Lib.hid (by rw [HE.out, HND.out, HBD.out]; rfl)
              go_wp2_with fail
              (try simp only [Exit.inBlock, Exit.then])
              go_ret2
              refine ⟨_, by rw [HEd.out, HMK.out]; rfl, ?_, (HF0.out.trans HF1.out (fun _ _ e => e)).trans HFr.out (fun _ _ e => e)⟩
              rw [HNB.out (by rw [HMK.out]; decide)]
              exact World.ownsRow_nil _ _ _ _
            · go_wp2_with fail
              go_roundg (L - (m + 1))
              case measure => omega
              case rel => exact ⟨m + 1, by go_num, by omega, Nat.le_refl _, Lib.hid (fun j hj => (by omega : j < m ∨ j = m).elim (hz2.out j) (fun e => by subst e; rw [HP.out, HSd.out]; omega)), HFr⟩
        · have hltz : ¬ ((m : Int) < L) := by omega
          obtain rfl : L = m := by omega
          have HBD : Hid (badS s = false) := Lib.hid (by
            rw [badS, List.any_eq_false]
            intro p hp
            obtain ⟨j, hj, e⟩ := List.getElem_of_mem hp
            have := hz2.out j (by rw [← HSN.out]; exact hj)
            rw [getElem!_pos s j hj, e] at this
            simp
            omega)
          go_wp2_with fail
          go_meet
          case rel => exact ⟨Lib.hid ⟨HBD.out, hz2.out⟩, HFr⟩
    case rest =>
      obtain ⟨HBA, HFB⟩ := hcut
      obtain ⟨wd, rfl⟩ : ∃ wd, wd = wc := ⟨wc, rfl⟩
      have HE0 : Hid (E = 0) := Lib.hid (by rw [HE.out, HND.out, HBA.out.1]; rfl)
      have HPOS := Lib.hid HBA.out.2
      have HBB := Lib.hid (HB.out HE0.out)
      clear HE HB HNB HND HBA HFA
      go_step
      have hcv : (convert 28 28 (.slice (some ⟨wd.heap.size, 0, none⟩) 4 4)).run Tryz.prog (wd.alloc (.cells #[.int .u8 73, .int .u8 78, .int .u8 68, .int .u8 88] 5)) = .ok (.slice (some ⟨wd.heap.size, 0, none⟩) 4 4) (wd.alloc (.cells #[.int .u8 73, .int .u8 78, .int .u8 68, .int .u8 88] 5 (4, 5))) :=
        Lib.run_convert_bytes_const (P := Tryz.prog) wd 28 5 #[.int .u8 73, .int .u8 78, .int .u8 68, .int .u8 88] 4 4 Tryz.underlying28 Tryz.underlying5
      have hll : Lies (wd.alloc (.cells #[.int .u8 73, .int .u8 78, .int .u8 68, .int .u8 88] 5 (4, 5))) (some ⟨wd.heap.size, 0, none⟩) (bytesV [73, 78, 68, 88]) :=
        .inr ⟨wd.heap.size, 0, rfl, fun j u hu => by
          rw [Nat.zero_add]
          have e : (wd.alloc (.cells #[.int .u8 73, .int .u8 78, .int .u8 68, .int .u8 88] 5 (4, 5))).cell? ⟨wd.heap.size, j, none⟩ = (#[.int .u8 73, .int .u8 78, .int .u8 68, .int .u8 88] : Array Value)[j]? := cell_of_row _ _ _ _ _ _ (heap_alloc_new wd _)
          rw [e, ← Array.getElem?_toList]; exact hu⟩
      obtain ⟨we, hwe⟩ : ∃ we, wd.alloc (.cells #[.int .u8 73, .int .u8 78, .int .u8 68, .int .u8 88] 5 (4, 5)) = we := ⟨_, rfl⟩
      have hfe : Fr (fun _ => False) wd we := by subst hwe; exact (Fr.refl _ _).alloc _
      have HFE := Lib.hid (HFB.out.trans hfe (fun _ _ e => e))
      rw [hwe] at hll hcv
      have HLL := Lib.hid hll
      have HB1 := Lib.hid (HBG.out 1 (by decide) (by decide) we)
      clear hll hwe hfe
      go_upto_block 4 with (first
        | (refine wpList_buildSlice_toQ rfl 28 4 _ rfl #[(0, .int .u8 73), (1, .int .u8 78), (2, .int .u8 68), (3, .int .u8 88)] (by simp [Act.eval]) _ _ (build_word _) ?_)
        | (go_at_call 20; refine HB1.out.mono ?_; rintro e wf ⟨Af, cf, rfl, hcf, lf, bf⟩; have HFF := Lib.hid (HFE.out.then_below bf); have HPJ := Lib.hid (parts2I wf [73, 78, 68, 88] (hiB 1 4 4) (some ⟨wd.heap.size, 0, none⟩) Af 4 cf 4 4 rfl (hiB_length _ _ _) (Nat.le_refl _) hcf (HLL.out.fr (Fr.of_below (S := fun _ => False) bf) (fun _ _ e => e)) lf); clear hcf lf bf)
        | (go_at_call 19; refine (HJ.out _ _ HPJ.out).mono ?_; rintro e wg ⟨v9, rfl, o9, b9⟩; have HFG := Lib.hid ((HFF.out.alloc (.cells #[.slice (some ⟨wd.heap.size, 0, none⟩) 4 4, .slice Af 4 cf] 28)).then_below b9); have HO9 := Lib.hid (show OwnB w1 wg v9 wordI from ⟨own_weaken o9 (by have := HFF.out.size; simp; omega), HFG.out⟩); clear o9 b9))
      obtain ⟨A9, c9, hv9, -⟩ := HO9.out.slice
      rw [wordI_len] at hv9
      subst hv9
      go_cut [9] (fun s9 wr => ∃ A9 N9 c9, s9 = .slice A9 N9 c9 ∧ N9 ≤ 1032 ∧ Hid ((wordI ++ fanB (idsP s)).length = N9) ∧ Hid (OwnB w1 wr (.slice A9 N9 c9) (wordI ++ fanB (idsP s))))
      case first =>
        go_wp2_with fail
        go_loopg [9, 10] 256 (fun kx s9 i wr => ∃ (c : Nat) (A9 : Option Addr) (N9 c9 : Nat), s9 = .slice A9 N9 c9 ∧ i = .int .i64 c ∧ c ≤ 256 ∧ 256 - c ≤ kx ∧ N9 ≤ 8 + 4 * c ∧ Hid ((wordI ++ fanTo (idsP s) c).length = N9) ∧ Hid (OwnB w1 wr (.slice A9 N9 c9) (wordI ++ fanTo (idsP s) c)))
        case atStart => exact ⟨0, A9, 8, c9, rfl, rfl, by omega, by omega, by omega, Lib.hid rfl, Lib.hid (by have := HO9.out; rw [← List.append_nil wordI] at this; exact this)⟩
        case round =>
          obtain ⟨c, A9, N9, c9, rfl, rfl, hc, hcx, hN9, HN9, HO9⟩ := hrel
          obtain ⟨wo, rfl⟩ : ∃ wo, wo = wr := ⟨wr, rfl⟩
          have HFr := Lib.hid HO9.out.2
          have wcc := wrap_nat c (by omega)
          by_cases hlt : c < 256
          · have hltz : (c : Int) < 256 := by omega
            go_wp2_with fail
            go_loopg [11, 12] L (fun kx s11 s12 wq => ∃ k n : Nat, s12 = .int .i64 k ∧ s11 = .int .i64 n ∧ k ≤ L ∧ L - k ≤ kx ∧ n ≤ k ∧ wq = wo ∧ Hid (n = fanN ((idsP s).take k) c))
            case atStart => exact ⟨0, 0, rfl, rfl, by omega, by omega, by omega, rfl, Lib.hid (by simp [fanN])⟩
            case round =>
              obtain ⟨k, n, rfl, rfl, hk, hkx, hnk, rfl, HNK⟩ := hrel
              have wk := wrap_nat k (by omega)
              have wn := wrap_nat n (by omega)
              by_cases hlt2 : k < L
              · have hlt2z : (k : Int) < L := by omega
                obtain ⟨b, o, hA⟩ := HSL.out.someP (by rw [HSN.out]; omega)
                subst hA
                have c0 := b0_pl HSL.out (HGE.out k hlt2) HFr.out
                have hx256 := b0_lt (s[k]!).id
                have hnx := fanN_take (idsP s) k (by rw [HIL.out]; exact hlt2) c
                rw [idsP_gt s k (by rw [HSN.out]; exact hlt2), ← HNK.out] at hnx
                obtain ⟨x, hx⟩ : ∃ x, b0 (s[k]!).id = x := ⟨_, rfl⟩
                rw [hx] at c0 hx256 hnx
                have HNX := Lib.hid hnx
                have hwx : IntKind.i64.wrap (x : Int) = x := by rw [IntKind.wrap_i64]; omega
                clear hx hnx
                by_cases hxc : x ≤ c
                · have hxz : (x : Int) ≤ c := by omega
                  go_wp2_with fail
                  go_roundg (L - (k + 1))
                  case measure => omega
                  case rel => exact ⟨k + 1, n + 1, by go_num, by go_num, by omega, Nat.le_refl _, by omega, rfl, Lib.hid (by rw [HNX.out, if_pos hxc])⟩
                · have hxz : ¬ ((x : Int) ≤ c) := by omega
                  go_wp2_with fail
                  go_roundg (L - (k + 1))
                  case measure => omega
                  case rel => exact ⟨k + 1, n, by go_num, rfl, by omega, Nat.le_refl _, by omega, rfl, Lib.hid (by rw [HNX.out, if_neg hxc]; rfl)⟩
              · have hlt2z : ¬ ((k : Int) < L) := by omega
                obtain rfl : L = k := by omega
                have hfn : fanN (idsP s) c = n := by rw [HNK.out, List.take_of_length_le (by rw [HIL.out]; exact Nat.le_refl _)]
                have HFN := Lib.hid hfn
                have hb4 := HBG.out (n : Int) (by omega) (by omega) wr
                have HB4 := Lib.hid hb4
                have hwu : IntKind.u64.wrap (n : Int) = n := by rw [IntKind.wrap_u64]; omega
                clear hfn hb4 HNK
                go_wp2_with (first
                  | (go_at_call 20; refine HB4.out.mono ?_; rintro e wf ⟨Af, cf, rfl, -, lf, bf⟩; have HFf := Lib.hid (Fr.of_below (S := fun _ => False) bf); have HLf := Lib.hid lf; clear lf bf)
                  | (at_builtin; refine wpList_append_row _ rfl (.tmp 86) (.tmp 89) 28 28 rfl w1.heap.size 5 i0 (.int .u8 0) 1 1 Tryz.underlying28 hi hz0 hz1 hz2 rfl (.slice A9 N9 c9) N9 (bytesV (wordI ++ fanTo (idsP s) c)) rfl ((HO9.out.fr HFf.out).at HN9.out) (.slice Af 4 cf) 4 (bytesV (hiB n 4 4)) rfl (Lies.srcB HLf.out (hiB_length _ _ _) cf) (by unfold maxLen; omega) (by omega) (by have := (HO9.out.2.trans HFf.out (fun _ _ e => e)).size; omega) ?_
                     intro v5 w5 o5 g5 a5
                     obtain ⟨A5, c5, hv5, -, hl5, ho5⟩ := (HO9.out.fr HFf.out).app HN9.out (hiB_length (n : Int) 4 4) o5 g5
                     subst hv5
                     have HN5 := Lib.hid hl5
                     have HO5 := Lib.hid ho5
                     clear o5 g5 a5 hl5 ho5))
                go_roundg (256 - (c + 1))
                case measure => omega
                case rel => exact ⟨c + 1, A5, _, c5, rfl, by go_num, by omega, Nat.le_refl _, by omega, Lib.hid (by rw [fanTo_succ, ← List.append_assoc, HFN.out]; exact HN5.out), Lib.hid (by rw [fanTo_succ, ← List.append_assoc, HFN.out]; exact HO5.out)⟩
          · have hltz : ¬ ((c : Int) < 256) := by omega
            obtain rfl : 256 = c := by omega
            go_wp2_with fail
            go_meet
            case rel => exact ⟨A9, N9, c9, rfl, by omega, HN9, HO9⟩
      case rest =>
        obtain ⟨A9, N9, c9, rfl, hN9, HN9, HO9⟩ := hcut
        have TKI : Hid ((idsP s).take L = idsP s) := Lib.hid (List.take_of_length_le (by rw [HIL.out]; exact Nat.le_refl _))
        have TK : Hid (s.take L = s) := Lib.hid (List.take_of_length_le (by rw [HSN.out]; exact Nat.le_refl _))
        go_step
        go_upto_block 8 with fail
        go_cut [9] (fun s9 wr => ∃ A9 N9 c9, s9 = .slice A9 N9 c9 ∧ N9 ≤ 100000 ∧ Hid ((wordI ++ fanB (idsP s) ++ joinI (idsP s)).length = N9) ∧ Hid (N9 ≤ c9) ∧ Hid (OwnB w1 wr (.slice A9 N9 c9) (wordI ++ fanB (idsP s) ++ joinI (idsP s))))
        case first =>
          go_wp2_with fail
          go_loopg [9, 13] L (fun kx s9 i wr => ∃ (k : Nat) (A9 : Option Addr) (N9 c9 : Nat), s9 = .slice A9 N9 c9 ∧ i = .int .i64 k ∧ k ≤ L ∧ L - k ≤ kx ∧ N9 ≤ 1032 + 32 * k ∧ Hid ((wordI ++ fanB (idsP s) ++ joinI ((idsP s).take k)).length = N9) ∧ Hid (OwnB w1 wr (.slice A9 N9 c9) (wordI ++ fanB (idsP s) ++ joinI ((idsP s).take k))))
          case atStart => exact ⟨0, A9, N9, c9, rfl, rfl, by omega, by omega, by omega, Lib.hid (by have := HN9.out; rw [← List.append_nil (wordI ++ fanB (idsP s))] at this; exact this), Lib.hid (by have := HO9.out; rw [← List.append_nil (wordI ++ fanB (idsP s))] at this; exact this)⟩
          case round =>
            obtain ⟨k, A9, N9, c9, rfl, rfl, hk, hkx, hN9, HN9, HO9⟩ := hrel
            obtain ⟨wo, rfl⟩ : ∃ wo, wo = wr := ⟨wr, rfl⟩
            have HFr := Lib.hid HO9.out.2
            have wk := wrap_nat k (by omega)
            by_cases hlt : k < L
            · have hltz : (k : Int) < L := by omega
              obtain ⟨b, o, hA⟩ := HSL.out.someP (by rw [HSN.out]; omega)
              subst hA
              have hid := (HSI.out k hlt).id
              have l1 : (loadCellsFrom ⟨b, o + k * 34, none⟩ 0 n32 #[]).run Tryz.prog wo = .ok (idC (dgt (s[k]!).id)) wo := load_plid HSL.out (HGE.out k hlt) HFr.out n32 HN32.out
              have hnx := joinI_take (idsP s) k (by rw [HIL.out]; exact hlt)
              rw [idsP_gt s k (by rw [HSN.out]; exact hlt)] at hnx
              have HBX := Lib.hid (HBY2.out (s[k]!).id wo)
              obtain ⟨x, hx⟩ : ∃ x, (s[k]!).id = x := ⟨_, rfl⟩
              rw [hx] at l1 hnx HBX
              obtain ⟨cx, hcx⟩ : ∃ c, idC (dgt x) = c := ⟨_, rfl⟩
              rw [hcx] at l1 HBX
              have HNX : Hid (wordI ++ fanB (idsP s) ++ joinI ((idsP s).take (k + 1)) = wordI ++ fanB (idsP s) ++ joinI ((idsP s).take k) ++ idL x) := Lib.hid (by rw [hnx, ← List.append_assoc])
              clear hid hx hnx hcx
              go_wp2_with (first
                | (go_at_call 21; refine HBX.out.mono ?_; rintro e wf ⟨vf, rfl, of5, bf⟩; obtain ⟨Af, cf, hvf, -, -⟩ := own_slice of5; rw [idL_len] at hvf; subst hvf; have HFf := Lib.hid (Fr.of_below (S := fun _ => False) bf); have HLf := Lib.hid (Lies.of_own of5); clear of5 bf)
                | (at_builtin; refine wpList_append_row _ rfl (.tmp 97) (.tmp 103) 28 28 rfl w1.heap.size 5 i0 (.int .u8 0) 1 1 Tryz.underlying28 hi hz0 hz1 hz2 rfl (.slice A9 N9 c9) N9 (bytesV (wordI ++ fanB (idsP s) ++ joinI ((idsP s).take k))) rfl ((HO9.out.fr HFf.out).at HN9.out) (.slice Af 32 cf) 32 (bytesV (idL x)) rfl (Lies.srcB HLf.out (idL_len x) cf) (by unfold maxLen; omega) (by omega) (by have := (HO9.out.2.trans HFf.out (fun _ _ e => e)).size; omega) ?_
                   intro v5 w5 o5 g5 a5
                   obtain ⟨A5, c5, hv5, -, hl5, ho5⟩ := (HO9.out.fr HFf.out).app HN9.out (idL_len x) o5 g5
                   subst hv5
                   have HN5 := Lib.hid hl5
                   have HO5 := Lib.hid ho5
                   clear o5 g5 a5 hl5 ho5))
              go_roundg (L - (k + 1))
              case measure => omega
              case rel => exact ⟨k + 1, A5, _, c5, rfl, by go_num, by omega, Nat.le_refl _, by omega, Lib.hid (by rw [HNX.out]; exact HN5.out), Lib.hid (by rw [HNX.out]; exact HO5.out)⟩
            · have hltz : ¬ ((k : Int) < L) := by omega
              obtain rfl : L = k := by omega
              have hn5 := HN9.out
              have ho5 := HO9.out
              rw [TKI.out] at hn5 ho5
              have hc5 := ho5.slice
              have HN5 := Lib.hid hn5
              have HO5 := Lib.hid ho5
              have HC5 : Hid (N9 ≤ c9) := Lib.hid (by obtain ⟨A5, c5, hv5, hc6, -⟩ := hc5; injection hv5 with h1 h2 h3; rw [HN5.out, ← h3] at hc6; exact hc6)
              clear hn5 ho5 hc5
              go_wp2_with fail
              go_meet
              case rel => exact ⟨A9, N9, c9, rfl, by omega, HN5, HC5, HO5⟩
        case rest =>
          obtain ⟨A9, N9, c9, rfl, hN9, HN9, HC9, HO9⟩ := hcut
          go_step
          go_upto_block 10 with fail
          go_cut [9] (fun s9 wr => ∃ A9 N9 c9, s9 = .slice A9 N9 c9 ∧ N9 ≤ 200000 ∧ Hid ((wordI ++ fanB (idsP s) ++ joinI (idsP s) ++ smB s).length = N9) ∧ Hid (N9 ≤ c9) ∧ Hid (OwnB w1 wr (.slice A9 N9 c9) (wordI ++ fanB (idsP s) ++ joinI (idsP s) ++ smB s)))
          case first =>
            go_wp2_with fail
            go_loopg [9, 14] L (fun kx s9 i wr => ∃ (k : Nat) (A9 : Option Addr) (N9 c9 : Nat), s9 = .slice A9 N9 c9 ∧ i = .int .i64 k ∧ k ≤ L ∧ L - k ≤ kx ∧ N9 ≤ 100000 + 4 * k ∧ Hid ((wordI ++ fanB (idsP s) ++ joinI (idsP s) ++ smB (s.take k)).length = N9) ∧ Hid (OwnB w1 wr (.slice A9 N9 c9) (wordI ++ fanB (idsP s) ++ joinI (idsP s) ++ smB (s.take k))))
            case atStart => exact ⟨0, A9, N9, c9, rfl, rfl, by omega, by omega, by omega, Lib.hid (by have := HN9.out; rw [← List.append_nil (wordI ++ fanB (idsP s) ++ joinI (idsP s))] at this; exact this), Lib.hid (by have := HO9.out; rw [← List.append_nil (wordI ++ fanB (idsP s) ++ joinI (idsP s))] at this; exact this)⟩
            case round =>
              obtain ⟨k, A9, N9, c9, rfl, rfl, hk, hkx, hN9, HN9, HO9⟩ := hrel
              obtain ⟨wo, rfl⟩ : ∃ wo, wo = wr := ⟨wr, rfl⟩
              have HFr := Lib.hid HO9.out.2
              have wk := wrap_nat k (by omega)
              by_cases hlt : k < L
              · have hltz : (k : Int) < L := by omega
                obtain ⟨b, o, hA⟩ := HSL.out.someP (by rw [HSN.out]; omega)
                subst hA
                have hok := HSI.out k hlt
                have c0 := sm_pl HSL.out (HGE.out k hlt) HFr.out
                have h0 := hok.s0
                have h1 := hok.s1
                have hnx := smB_take s k (by rw [HSN.out]; exact hlt)
                have HBX := Lib.hid (HBG.out (s[k]!).sm h0 (by omega) wo)
                obtain ⟨x, hx⟩ : ∃ x, (s[k]!).sm = x := ⟨_, rfl⟩
                rw [hx] at c0 hnx HBX h0 h1
                have hwu : IntKind.u64.wrap x = x := by rw [IntKind.wrap_u64]; omega
                have HNX : Hid (wordI ++ fanB (idsP s) ++ joinI (idsP s) ++ smB (s.take (k + 1)) = wordI ++ fanB (idsP s) ++ joinI (idsP s) ++ smB (s.take k) ++ hiB x 4 4) := Lib.hid (by rw [hnx, ← List.append_assoc])
                clear hok hx hnx
                go_wp2_with (first
                  | (go_at_call 20; refine HBX.out.mono ?_; rintro e wf ⟨Af, cf, rfl, -, lf, bf⟩; have HFf := Lib.hid (Fr.of_below (S := fun _ => False) bf); have HLf := Lib.hid lf; clear lf bf)
                  | (at_builtin; refine wpList_append_row _ rfl (.tmp 111) (.tmp 118) 28 28 rfl w1.heap.size 5 i0 (.int .u8 0) 1 1 Tryz.underlying28 hi hz0 hz1 hz2 rfl (.slice A9 N9 c9) N9 (bytesV (wordI ++ fanB (idsP s) ++ joinI (idsP s) ++ smB (s.take k))) rfl ((HO9.out.fr HFf.out).at HN9.out) (.slice Af 4 cf) 4 (bytesV (hiB x 4 4)) rfl (Lies.srcB HLf.out (hiB_length x 4 4) cf) (by unfold maxLen; omega) (by omega) (by have := (HO9.out.2.trans HFf.out (fun _ _ e => e)).size; omega) ?_
                     intro v5 w5 o5 g5 a5
                     obtain ⟨A5, c5, hv5, -, hl5, ho5⟩ := (HO9.out.fr HFf.out).app HN9.out (hiB_length x 4 4) o5 g5
                     subst hv5
                     have HN5 := Lib.hid hl5
                     have HO5 := Lib.hid ho5
                     clear o5 g5 a5 hl5 ho5))
                go_roundg (L - (k + 1))
                case measure => omega
                case rel => exact ⟨k + 1, A5, _, c5, rfl, by go_num, by omega, Nat.le_refl _, by omega, Lib.hid (by rw [HNX.out]; exact HN5.out), Lib.hid (by rw [HNX.out]; exact HO5.out)⟩
              · have hltz : ¬ ((k : Int) < L) := by omega
                obtain rfl : L = k := by omega
                have hn5 := HN9.out
                have ho5 := HO9.out
                rw [TK.out] at hn5 ho5
                have hc5 := ho5.slice
                have HN5 := Lib.hid hn5
                have HO5 := Lib.hid ho5
                have HC5 : Hid (N9 ≤ c9) := Lib.hid (by obtain ⟨A5, c5, hv5, hc6, -⟩ := hc5; injection hv5 with h1 h2 h3; rw [HN5.out, ← h3] at hc6; exact hc6)
                clear hn5 ho5 hc5
                go_wp2_with fail
                go_meet
                case rel => exact ⟨A9, N9, c9, rfl, by omega, HN5, HC5, HO5⟩
          case rest =>
            obtain ⟨A9, N9, c9, rfl, hN9, HN9, HC9, HO9⟩ := hcut
            go_step
            go_upto_block 12 with fail
            go_cut [9] (fun s9 wr => ∃ A9 N9 c9, s9 = .slice A9 N9 c9 ∧ N9 ≤ 300000 ∧ Hid ((wordI ++ fanB (idsP s) ++ joinI (idsP s) ++ smB s ++ atB s).length = N9) ∧ Hid (N9 ≤ c9) ∧ Hid (OwnB w1 wr (.slice A9 N9 c9) (wordI ++ fanB (idsP s) ++ joinI (idsP s) ++ smB s ++ atB s)))
            case first =>
              go_wp2_with fail
              go_loopg [9, 15] L (fun kx s9 i wr => ∃ (k : Nat) (A9 : Option Addr) (N9 c9 : Nat), s9 = .slice A9 N9 c9 ∧ i = .int .i64 k ∧ k ≤ L ∧ L - k ≤ kx ∧ N9 ≤ 200000 + 4 * k ∧ Hid ((wordI ++ fanB (idsP s) ++ joinI (idsP s) ++ smB s ++ atB (s.take k)).length = N9) ∧ Hid (OwnB w1 wr (.slice A9 N9 c9) (wordI ++ fanB (idsP s) ++ joinI (idsP s) ++ smB s ++ atB (s.take k))))
              case atStart => exact ⟨0, A9, N9, c9, rfl, rfl, by omega, by omega, by omega, Lib.hid (by have := HN9.out; rw [← List.append_nil (wordI ++ fanB (idsP s) ++ joinI (idsP s) ++ smB s)] at this; exact this), Lib.hid (by have := HO9.out; rw [← List.append_nil (wordI ++ fanB (idsP s) ++ joinI (idsP s) ++ smB s)] at this; exact this)⟩
              case round =>
                obtain ⟨k, A9, N9, c9, rfl, rfl, hk, hkx, hN9, HN9, HO9⟩ := hrel
                obtain ⟨wo, rfl⟩ : ∃ wo, wo = wr := ⟨wr, rfl⟩
                have HFr := Lib.hid HO9.out.2
                have wk := wrap_nat k (by omega)
                by_cases hlt : k < L
                · have hltz : (k : Int) < L := by omega
                  obtain ⟨b, o, hA⟩ := HSL.out.someP (by rw [HSN.out]; omega)
                  subst hA
                  have hpos := HPOS.out k hlt
                  have c0 := pos_pl HSL.out (HGE.out k hlt) HFr.out
                  have h0 := hpos.1
                  have h1 := hpos.2
                  have hnx := atB_take s k (by rw [HSN.out]; exact hlt)
                  have HBX := Lib.hid (HBG.out (s[k]!).pos h0 (by omega) wo)
                  obtain ⟨x, hx⟩ : ∃ x, (s[k]!).pos = x := ⟨_, rfl⟩
                  rw [hx] at c0 hnx HBX h0 h1
                  have hwu : IntKind.u64.wrap x = x := by rw [IntKind.wrap_u64]; omega
                  have HNX : Hid (wordI ++ fanB (idsP s) ++ joinI (idsP s) ++ smB s ++ atB (s.take (k + 1)) = wordI ++ fanB (idsP s) ++ joinI (idsP s) ++ smB s ++ atB (s.take k) ++ hiB x 4 4) := Lib.hid (by rw [hnx, ← List.append_assoc])
                  clear hpos hx hnx
                  go_wp2_with (first
                    | (go_at_call 20; refine HBX.out.mono ?_; rintro e wf ⟨Af, cf, rfl, -, lf, bf⟩; have HFf := Lib.hid (Fr.of_below (S := fun _ => False) bf); have HLf := Lib.hid lf; clear lf bf)
                    | (at_builtin; refine wpList_append_row _ rfl (.tmp 126) (.tmp 133) 28 28 rfl w1.heap.size 5 i0 (.int .u8 0) 1 1 Tryz.underlying28 hi hz0 hz1 hz2 rfl (.slice A9 N9 c9) N9 (bytesV (wordI ++ fanB (idsP s) ++ joinI (idsP s) ++ smB s ++ atB (s.take k))) rfl ((HO9.out.fr HFf.out).at HN9.out) (.slice Af 4 cf) 4 (bytesV (hiB x 4 4)) rfl (Lies.srcB HLf.out (hiB_length x 4 4) cf) (by unfold maxLen; omega) (by omega) (by have := (HO9.out.2.trans HFf.out (fun _ _ e => e)).size; omega) ?_
                       intro v5 w5 o5 g5 a5
                       obtain ⟨A5, c5, hv5, -, hl5, ho5⟩ := (HO9.out.fr HFf.out).app HN9.out (hiB_length x 4 4) o5 g5
                       subst hv5
                       have HN5 := Lib.hid hl5
                       have HO5 := Lib.hid ho5
                       clear o5 g5 a5 hl5 ho5))
                  go_roundg (L - (k + 1))
                  case measure => omega
                  case rel => exact ⟨k + 1, A5, _, c5, rfl, by go_num, by omega, Nat.le_refl _, by omega, Lib.hid (by rw [HNX.out]; exact HN5.out), Lib.hid (by rw [HNX.out]; exact HO5.out)⟩
                · have hltz : ¬ ((k : Int) < L) := by omega
                  obtain rfl : L = k := by omega
                  have hn5 := HN9.out
                  have ho5 := HO9.out
                  rw [TK.out] at hn5 ho5
                  have hc5 := ho5.slice
                  have HN5 := Lib.hid hn5
                  have HO5 := Lib.hid ho5
                  have HC5 : Hid (N9 ≤ c9) := Lib.hid (by obtain ⟨A5, c5, hv5, hc6, -⟩ := hc5; injection hv5 with h1 h2 h3; rw [HN5.out, ← h3] at hc6; exact hc6)
                  clear hn5 ho5 hc5
                  go_wp2_with fail
                  go_meet
                  case rel => exact ⟨A9, N9, c9, rfl, by omega, HN5, HC5, HO5⟩
            case rest =>
              obtain ⟨A9, N9, c9, rfl, hN9, HN9, HC9, HO9⟩ := hcut
              obtain ⟨wz, rfl⟩ : ∃ wz, wz = wc := ⟨wc, rfl⟩
              have HFr := Lib.hid HO9.out.2
              have l1 : (loadCellsFrom ⟨w.heap.size, 0, none⟩ 0 n32 #[]).run Tryz.prog wz = .ok co wz := load_wholeQ (HO.out.fr (HF1.out.trans HFr.out (fun _ _ e => e)) (fun e => e)) n32 (by rw [HN32.out, HOS.out])
              have HBX := Lib.hid (HBY.out wz)
              go_step
              go_wp2_with (first
                | (go_at_call 21; refine HBX.out.mono ?_; rintro e wf ⟨vf, rfl, of5, bf⟩; obtain ⟨Af, cf, hvf, -, -⟩ := own_slice of5; rw [idL_len] at hvf; subst hvf; have HFf := Lib.hid (Fr.of_below (S := fun _ => False) bf); have HLf := Lib.hid (Lies.of_own of5); clear of5 bf)
                | (at_builtin; refine wpList_append_row _ rfl (.tmp 135) (.tmp 137) 28 28 rfl w1.heap.size 5 i0 (.int .u8 0) 1 1 Tryz.underlying28 hi hz0 hz1 hz2 rfl (.slice A9 N9 c9) N9 (bytesV (wordI ++ fanB (idsP s) ++ joinI (idsP s) ++ smB s ++ atB s)) rfl ((HO9.out.fr HFf.out).at HN9.out) (.slice Af 32 cf) 32 (bytesV (idL of)) rfl (Lies.srcB HLf.out (idL_len of) cf) (by unfold maxLen; omega) (by omega) (by have := (HO9.out.2.trans HFf.out (fun _ _ e => e)).size; omega) ?_
                   intro v5 w5 o5 g5 a5
                   obtain ⟨A5, c5, hv5, hc5, hl5, ho5⟩ := (HO9.out.fr HFf.out).app HN9.out (idL_len of) o5 g5
                   subst hv5
                   have HN5 := Lib.hid hl5
                   have HO5 := Lib.hid ho5
                   have HC5 := Lib.hid hc5
                   have HL5 := Lib.hid (Lies.of_own o5)
                   clear o5 g5 a5 hl5 ho5 hc5)
                | (go_at_call 22; refine (HCL.out w5 A5 c5 (N9 + 32) (wordI ++ fanB (idsP s) ++ joinI (idsP s) ++ smB s ++ atB s ++ idL of) HN5.out HC5.out (by omega) (by have := HL5.out; rw [← bytesV_append] at this; exact this)).mono ?_; rintro e w6 ⟨v6, rfl, o6, b6⟩; have HO6 := Lib.hid o6; have HB6 := Lib.hid b6; clear o6 b6))
              go_ret2
              have hfin := (HF0.out.trans HF1.out (fun _ _ e => e)).trans HO5.out.2 (fun _ _ e => e)
              refine ⟨_, by rw [HEd.out, HE0.out]; rfl, ?_, hfin.then_below HB6.out⟩
              rw [HBB.out]
              exact own_weaken HO6.out hfin.size
end Go.Proofs.YtgbhdjncccmabaaGreatDoor
/- What is proved: the document's reader where all that is read is there: four bytes as a number, 32 bytes as an id. Conditions: so many bytes are left. -/
namespace Go.Proofs.YtgbhdjncccmabaaGreatDoor
open Go.RowKit
set_option linter.unusedVariables false

theorem qBig_ok (h : Nat) (A : Option Addr) (cap L : Nat) (bs : List UInt8) (p : Nat) (hL : bs.length = L) (hp : p + 4 ≤ L) (w : World) (k : Qd w h A cap bs p 0) :
    Calls Tryz.prog 30 #[.pointer (some ⟨h, 0, none⟩), .int .i64 4] w fun e w' => e = .returned (.int .u64 (u4 bs p : Nat)) ∧ Qd w' h A cap bs (p + 4) 0 ∧ RFr h w w' := by
  subst hL
  have hq := qBig_any h A cap bs p 0 4 w k (by decide)
  have h0 : hasErr bs.length p 0 ((4 : Nat) : Int) = 0 := hasErr_ok (by omega)
  unfold QPost at hq
  have h1 : numV bs p 0 4 = u4 bs p := by unfold numV u4; rw [if_pos h0]
  have h2 : stepAt bs.length p 0 4 = p + 4 := by unfold stepAt; exact if_pos ⟨rfl, hp⟩
  rw [h0, h1, h2] at hq
  exact hq
theorem qRaw_ok (h : Nat) (A : Option Addr) (cap L : Nat) (bs : List UInt8) (p : Nat) (hL : bs.length = L) (hp : p + 32 ≤ L) (w : World) (k : Qd w h A cap bs p 0) :
    Calls Tryz.prog 51 #[.pointer (some ⟨h, 0, none⟩), .int .i64 32] w fun e w' => ∃ v', e = .returned v' ∧ w'.ownsRow w.heap.size 5 1 v' 32 (bytesV ((bs.drop p).take 32)) ∧ Qd w' h A cap bs (p + 32) 0 ∧ RFr h w w' := by
  subst hL
  have hq := qRaw_any h A cap bs p 0 32 w k (by decide) (by decide)
  have h0 : hasErr bs.length p 0 (32 : Int) = 0 := hasErr_ok (by omega)
  unfold QRawPost at hq
  have h1 : rawB bs p 0 32 = (bs.drop p).take 32 := by unfold rawB; rw [if_neg (by decide), if_pos h0]; rfl
  have h2 : rawAt bs.length p 0 32 = p + 32 := by unfold rawAt stepAt; rw [if_neg (by decide)]; exact if_pos ⟨rfl, hp⟩
  have h3 : rawErr bs.length p 0 32 = 0 := by unfold rawErr; rw [if_neg (by decide), h0]
  have h4 : ((bs.drop p).take 32).length = 32 := by rw [List.length_take, List.length_drop]; omega
  rw [h1, h2, h3, h4] at hq
  exact hq
def idRow (l : List UInt8) (k : Nat) : List Value := bytesV (l.take k) ++ List.replicate (32 - k) (.int .u8 0)
theorem idRow_len (l : List UInt8) (k : Nat) (h : l.length = 32) (hk : k ≤ 32) : (idRow l k).length = 32 := by
  rw [idRow, List.length_append, bytesV_length, List.length_take, List.length_replicate, h]; omega
theorem idRow_set (l : List UInt8) (k : Nat) (h : l.length = 32) (hk : k < 32) : (idRow l k).toArray.setIfInBounds k (.int .u8 (l.getD k 0).toNat) = (idRow l (k + 1)).toArray := by
  have h1 : (bytesV (l.take k)).length = k := by rw [bytesV_length, List.length_take]; omega
  rw [List.setIfInBounds_toArray, idRow, List.set_append_right _ _ (by omega), h1, Nat.sub_self, show 32 - k = (32 - (k + 1)) + 1 by omega, List.replicate_succ, List.set_cons_zero, idRow, take_next l k (by omega), bytesV_append, List.append_assoc]
  rfl
theorem idRow_end (l : List UInt8) (h : l.length = 32) : (idRow l 32).toArray = (bytesV l).toArray := by
  rw [idRow, List.take_of_length_le (by omega), Nat.sub_self, List.replicate_zero, List.append_nil]
theorem idRow_zero (l : List UInt8) : (idRow l 0).toArray = zero32 := by rw [idRow]; rfl

set_option maxHeartbeats 3200000 in
set_option maxRecDepth 100000 in
theorem QIid_any (h : Nat) (A : Option Addr) (cap L : Nat) (bs : List UInt8) (p : Nat) (hL : bs.length = L) (hp : p + 32 ≤ L) (w : World) (k : Qd w h A cap bs p 0) :
    Calls Tryz.prog 31 #[.pointer (some ⟨h, 0, none⟩)] w fun e w' => e = .returned (.agg (idC (dgt (bigV ((bs.drop p).take 32))))) ∧ Qd w' h A cap bs (p + 32) 0 ∧ RFr h w w' := by
  have hI : ((bs.drop p).take 32).length = 32 := by rw [List.length_take, List.length_drop]; omega
  have hce := cells_bytes hI
  have HRW := Lib.hid (fun w' (k' : Qd w' h A cap bs p 0) => qRaw_ok h A cap L bs p hL hp w' k')
  obtain ⟨I, hId⟩ : ∃ I, (bs.drop p).take 32 = I := ⟨_, rfl⟩
  rw [hId] at hI hce HRW ⊢
  rw [← hce]
  have HI := Lib.hid hI
  have HTN := Lib.hid (take_next I)
  obtain ⟨w0, hw0⟩ : ∃ w0, w.alloc (.cells zero32 24) = w0 := ⟨_, rfl⟩
  have hF0 : Fr (fun _ => False) w w0 := by subst hw0; exact (Fr.refl _ w).alloc _
  have HR := Lib.hid (show Whole w0 w.heap.size 24 zero32 from by subst hw0; exact Whole.new w 24 _)
  have HS0 := Lib.hid (show w0.heap.size = w.heap.size + 1 from by subst hw0; simp)
  have HF0 := Lib.hid hF0
  have hk0 : Qd w0 h A cap bs p 0 := k.fr hF0 (fun e => e) (fun _ _ _ e => e)
  have HK0 := Lib.hid hk0
  have HHL := Lib.hid (show h < w.heap.size from k.whole.lt)
  have HKL : Hid (∀ ad, A = some ad → bs ≠ [] → ad.block < w.heap.size) := Lib.hid (fun ad e hb => lies_below k.lies (by rw [bytesV_length]; exact List.length_pos_iff.2 hb) e)
  obtain ⟨T32, hT32⟩ : ∃ T : TypeId, T = 24 := ⟨_, rfl⟩
  obtain ⟨n32, hn32⟩ : ∃ n : Nat, n = 32 := ⟨_, rfl⟩
  have ag32 : ∀ w, (isAgg T32).run Tryz.prog w = .ok true w := by rw [hT32]; exact fun _ => by kernel_rfl
  have sz32 : ∀ w, (sizeOf T32).run Tryz.prog w = .ok n32 w := by rw [hT32, hn32]; exact fun _ => by kernel_rfl
  have HN32 := Lib.hid hn32
  unfold zero32 at hw0
  simp [List.replicate] at hw0
  clear hId hI hce hF0 hk0 hn32 k hL hp
  go_enter Tryz.func31, Tryz.ntmps31
  rw [show Op.load 24 (.tmp 4) = Op.load T32 (.tmp 4) by rw [hT32]]
  clear hT32
  go_upto_region 2 with (go_at_call 51; refine (HRW.out w0 HK0.out).mono ?_; rintro e w1 ⟨v1, rfl, o1, q1, f1⟩; obtain ⟨A1, c1, hv1, -, -⟩ := own_slice o1; subst hv1; have HO1 := Lib.hid o1; have HL1 := Lib.hid (Lies.of_own o1); have HQ1 := Lib.hid q1; have HF1 := Lib.hid f1; clear o1 q1 f1)
  obtain ⟨w2, hw2⟩ : ∃ w2, w1.alloc (.cells zero32 24) = w2 := ⟨_, rfl⟩
  have HG := Lib.hid (show Whole w2 w1.heap.size 24 zero32 from by subst hw2; exact Whole.new w1 24 _)
  have HF2 := Lib.hid (show Fr (fun _ => False) w1 w2 from by subst hw2; exact (Fr.refl _ w1).alloc _)
  have HS2 := Lib.hid (show w2.heap.size = w1.heap.size + 1 from by subst hw2; simp)
  obtain ⟨G, hG⟩ : ∃ G, w1.heap.size = G := ⟨_, rfl⟩
  rw [hG] at HG HS2
  have HGd := Lib.hid hG
  unfold zero32 at hw2
  simp [List.replicate] at hw2
  go_wp2_with fail
  try rw [hG]
  clear hG hw2
  go_loopg [5] 32 (fun kx s5 wr => ∃ k : Nat, s5 = .int .i64 k ∧ k ≤ 32 ∧ 32 - k ≤ kx ∧ Hid (Whole wr G 24 (idRow I k).toArray) ∧ Hid (Fr (fun j => j = G) w2 wr))
  case atStart => exact ⟨0, rfl, by omega, by omega, Lib.hid (by rw [idRow_zero]; exact HG.out), Lib.hid (Fr.refl _ _)⟩
  case round =>
    obtain ⟨k, rfl, hk, hkx, HW, HFr⟩ := hrel
    obtain ⟨wo, rfl⟩ : ∃ wo, wo = wr := ⟨wr, rfl⟩
    have wk := wrap_nat k (by omega)
    by_cases hlt : k < 32
    · have hltz : (k : Int) < 32 := by omega
      have hk0 : (0 : Int) ≤ k := by omega
      have hb : (bytesV I)[k]? = some (.int .u8 (I.getD k 0).toNat) := by
        rw [bytesV, List.getElem?_map, List.getElem?_eq_getElem (by rw [HI.out]; exact hlt), List.getD_eq_getElem?_getD, List.getElem?_eq_getElem (by rw [HI.out]; exact hlt)]; rfl
      have hL3 : Lies wo A1 (bytesV I) := by
        refine HL1.out.fr (HF2.out.trans HFr.out (fun i hi e => by have := HGd.out; omega)) (fun ad e1 e2 => ?_)
        exact e2
      obtain ⟨b1, o1, hA1⟩ := hL3.someB (by rw [HI.out]; decide)
      subst hA1
      have c0 : wo.cell? ⟨b1, o1 + k, none⟩ = some (.int .u8 (I.getD k 0).toNat) := by
        rcases hL3 with h0 | ⟨b, o, e, hc⟩
        · rw [h0] at hb; simp at hb
        · cases e; exact hc k _ hb
      have HST := Lib.hid (idRow_set I k HI.out hlt)
      obtain ⟨x, hx⟩ : ∃ x : Int, ((I.getD k 0).toNat : Int) = x := ⟨_, rfl⟩
      rw [hx] at c0 HST
      have cg : wo.cell? ⟨G, k, none⟩ = some (.int .u8 0) := by
        rw [HW.out.cell, List.getElem?_toArray, idRow, List.getElem?_append_right (by rw [bytesV_length, List.length_take, HI.out]; omega), bytesV_length, List.length_take, HI.out, List.getElem?_replicate, if_pos (by omega)]
      have fg := HW.out.frozen k
      clear hb hL3 hx
      go_wp2_with fail
      go_roundg (32 - (k + 1))
      case measure => omega
      case rel => exact ⟨k + 1, by go_num, by omega, Nat.le_refl _, Lib.hid (by rw [← HST.out]; exact HW.out.set k _), Lib.hid (HFr.out.setCell (p := ⟨G, k, none⟩) (fun _ => rfl) _)⟩
    · have hltz : ¬ ((k : Int) < 32) := by omega
      obtain rfl : 32 = k := by omega
      have hw := HW.out
      rw [idRow_end I HI.out] at hw
      have HW2 := Lib.hid hw
      have HVS := Lib.hid (show (bytesV I).toArray.size = 32 from by rw [List.size_toArray, bytesV_length, HI.out])
      have HVO := Lib.hid (show (bytesV I).toArray.all (·.oneCell') = true from Array.all_eq_true_iff_forall_mem.2 (fun u hu => bytesV_one I u (by simpa using hu)))
      obtain ⟨V, hV⟩ : ∃ V, (bytesV I).toArray = V := ⟨_, rfl⟩
      rw [hV] at HW2 HVS HVO
      have HVd := Lib.hid hV
      have l1 : (loadCellsFrom ⟨G, 0, none⟩ 0 n32 #[]).run Tryz.prog wo = .ok V wo := load_wholeQ HW2.out n32 (by rw [HN32.out, HVS.out])
      have HFa := Lib.hid (show Fr (fun j => j = h) w0 wo from Fr.trans (show Fr (fun j => j = h) w0 w1 from HF1.out) (HF2.out.trans HFr.out (fun i hi e => by have := HGd.out; omega)) (fun _ _ e => e.elim))
      have HQ9 := Lib.hid (HQ1.out.fr (HF2.out.trans HFr.out (fun i hi e => by have := HGd.out; omega)) (fun e => e) (fun _ _ _ e => e))
      have HZ := Lib.hid (HR.out.fr HFa.out (fun e => by have := HHL.out; omega))
      clear hw hV
      go_wp2_with (refine wpList_store_at rfl 24 _ _ rfl w.heap.size 0 24 zero32 V rfl rfl HZ.out (by rw [HVS.out]; decide) (by rw [HVS.out]; exact size_IDs) HVO.out ?_; intro w3 hw3 hf3; rw [laidAt_all _ _ (by rw [HVS.out]; rfl)] at hw3; have HW3 := Lib.hid hw3; have HF3 := Lib.hid hf3; clear hw3 hf3)
      refine bodyPost_ret (v := .agg V) (results_cell_row (p := 2) rfl _ _ _ _ _ _ _ rfl HW3.out Tryz.underlying24 rfl (by rw [HVS.out]; exact size_IDs)) rfl ?_
      have hf9 : Fr (fun j => j = h) w wo := (HF0.out.mono (T := fun j => j = h) (fun _ _ e => e.elim)).trans HFa.out (fun _ _ e => e)
      refine ⟨by rw [HVd.out], HQ9.out.fr HF3.out (fun e => by have := HHL.out; omega) (fun ad e1 e2 e3 => by have := HKL.out ad e1 e2; omega), ?_⟩
      exact Fr.trans hf9 HF3.out (fun i hi e => by omega)
end Go.Proofs.YtgbhdjncccmabaaGreatDoor
/- What is proved: Open by the document, plain facts: an index of its own as cells, zero; the version's bytes. Conditions: none. -/
namespace Go.Proofs.YtgbhdjncccmabaaGreatDoor
open Go.RowKit
set_option linter.unusedVariables false

def qixC (v : Value) (of : Array Value) : Array Value := #[v] ++ of
def zqx : Array Value := (Value.slice none 0 0 :: List.replicate 32 (Value.int .u8 0)).toArray
theorem zqx_eq : zqx = qixC (.slice none 0 0) zero32 := by kernel_rfl
theorem zqx_size : zqx.size = 33 := rfl
theorem zqx_one : zqx.all (·.oneCell') = true := by kernel_rfl
theorem size_qx : (Tryz.prog.info? 38).map (·.size) = some 33 := by kernel_rfl
theorem build_zqx (w : World) : (Instr.build 38 #[]).run Tryz.prog w = .ok (.agg zqx) w := by kernel_rfl
theorem qixC_size (v : Value) (of : Nat) : (qixC v (idC (dgt of))).size = 33 := by rw [qixC, Array.size_append, idC_size]; rfl
theorem qixC_at (v : Value) (of : Nat) : (qixC v (idC (dgt of)))[0]? = some v := by
  rw [qixC, Array.getElem?_append_left (by simp)]; rfl
theorem qixC_set (v u : Value) (of : Array Value) : (qixC v of).setIfInBounds 0 u = qixC u of := by
  apply Array.toList_inj.1
  simp [qixC]
theorem qixC_one (A : Option Addr) (n c : Nat) (of : Nat) : (qixC (.slice A n c) (idC (dgt of))).all (·.oneCell') = true := by
  rw [qixC, Array.all_append, idC_one]; simp [Value.oneCell']
theorem wpList_build_toQ {P : Program} {ops : Array Oper} {rest : List Oper} {o : Oper} {a : Act} {w : World} {Q : Exit → Act → World → Prop} (hgd : o.guard = none) (t : TypeId) (parts : Array (Nat × Operand)) (ho : o.op = .build t parts)
    (vals : Array (Nat × Value)) (hvals : (parts.map fun (i, x) => (i, a.eval x)) = vals) (v : Value) (hv : (Instr.build t vals).run P w = .ok v w) (h : wpList P ops Q rest (a.put o.dst v) w) : wpList P ops Q (o :: rest) a w :=
  wpList_plain hgd fun K hK => by
    unfold Oper.wp execOp
    simp only [ho, hvals, Sem.run_bind, hv, Result.andThen_ok, Sem.run_pure]
    exact hK _ _ h
theorem ver_eq (bs : List UInt8) (h : 8 ≤ bs.length) : ((bs.drop 4).take 4 == hiB 1 4 4) = decide (u4 bs 4 = 1) := by
  have hl : ((bs.drop 4).take 4).length = 4 := by rw [List.length_take, List.length_drop]; omega
  rw [Bool.eq_iff_iff, beq_iff_eq, decide_eq_true_eq]
  constructor
  · intro e
    unfold u4
    rw [e]
    decide
  · intro e
    have hb := hiB_bigV4 ((bs.drop 4).take 4) hl
    unfold u4 at e
    rw [e] at hb
    exact hb.symm
theorem last_sum (bs : List UInt8) (E : Nat) (hE : bs.length = E + 32) : decide ((bs.drop E).take 32 = sumL (bs.take E)) = sumOk bs := by
  unfold sumOk
  rw [show bs.length - 32 = E by omega, List.take_of_length_le (l := bs.drop E) (by rw [List.length_drop]; omega)]
  exact decide_eq_decide.2 eq_comm
theorem u4_mid (bs : List UInt8) (n p : Nat) (hl : bs.length = 1096 + 40 * n) (hp : p + 4 ≤ 1056 + 40 * n) : u4 bs (8 + p) = u4 (midB bs) p := by
  unfold u4 midB
  rw [List.drop_take, List.take_take, List.drop_drop, Nat.min_eq_left (by omega)]
theorem id_mid (bs : List UInt8) (n p : Nat) (hl : bs.length = 1096 + 40 * n) (hp : p + 32 ≤ 1056 + 40 * n) : (bs.drop (8 + p)).take 32 = ((midB bs).drop p).take 32 := by
  unfold midB
  rw [List.drop_take, List.take_take, List.drop_drop, Nat.min_eq_left (by omega)]
/-- The places as far as they are read: m ids, s sums, a places. -/
def psR (b : List UInt8) (m s a : Nat) : List Pl := (List.range m).map fun k => ⟨keyR (midB b) k, if k < a then (atR (midB b) (nB b) k : Nat) else 0, if k < s then (smR (midB b) (nB b) k : Nat) else 0⟩
theorem psR_len (b : List UInt8) (m s a : Nat) : (psR b m s a).length = m := by simp [psR]
theorem psR_get (b : List UInt8) (m s a k : Nat) (h : k < m) : (psR b m s a)[k]? = some ⟨keyR (midB b) k, if k < a then (atR (midB b) (nB b) k : Nat) else 0, if k < s then (smR (midB b) (nB b) k : Nat) else 0⟩ := by
  simp [psR, h]
theorem psR_snoc (b : List UInt8) (m : Nat) : psR b (m + 1) 0 0 = psR b m 0 0 ++ [⟨keyR (midB b) m, 0, 0⟩] := by
  simp [psR, List.range_succ]
theorem psR_end (b : List UInt8) : psR b (nB b) (nB b) (nB b) = plsB b := by
  unfold psR plsB
  refine List.map_congr_left (fun k hk => ?_)
  have := List.mem_range.1 hk
  rw [if_pos this, if_pos this]
theorem flat_sm (l l' : List Pl) (k : Nat) (hk : k < l.length) (p q : Pl) (hp : l[k]? = some p) (hq : l'[k]? = some q) (hl : l'.length = l.length) (hid : q.id = p.id) (hpos : q.pos = p.pos) (ho : ∀ j, j ≠ k → l'[j]? = l[j]?) :
    (flatP l).set (k * 34 + 33) (.int .u32 q.sm) = flatP l' := by
  apply List.ext_getElem?
  intro i
  rcases Nat.lt_or_ge i (l.length * 34) with hi | hi
  · have hd : i / 34 < l.length := by omega
    have hm : i % 34 < 34 := Nat.mod_lt _ (by decide)
    have hi2 : i / 34 * 34 + i % 34 = i := by omega
    have hx : l[i / 34]? = some l[i / 34]! := some_pl hd
    have hy : l'[i / 34]? = some l'[i / 34]! := some_pl (by omega)
    have g1 := flatP_get l (i / 34) _ (i % 34) hx hm
    have g2 := flatP_get l' (i / 34) _ (i % 34) hy hm
    rw [hi2] at g1 g2
    rw [g2, List.getElem?_set]
    by_cases he : k * 34 + 33 = i
    · have e1 : i / 34 = k := by omega
      have e2 : i % 34 = 33 := by omega
      rw [if_pos he, if_pos (by rw [flatP_len]; omega), e2]
      rw [e1, hq] at hy
      rw [e1, ← Option.some.inj hy, plC_sm]
    · rw [if_neg he, g1]
      by_cases e1 : i / 34 = k
      · rw [e1, hq] at hy
        rw [e1, hp] at hx
        rw [e1, ← Option.some.inj hy, ← Option.some.inj hx]
        rcases Nat.lt_or_ge (i % 34) 32 with h3 | h3
        · rw [plC_id _ _ h3, plC_id _ _ h3, hid]
        · have e3 : i % 34 = 32 := by omega
          rw [e3, plC_pos, plC_pos, hpos]
      · have := ho (i / 34) e1
        rw [hx, hy] at this
        rw [Option.some.inj this]
  · rw [List.getElem?_eq_none (by rw [List.length_set, flatP_len]; exact hi), List.getElem?_eq_none (by rw [flatP_len, hl]; exact hi)]
theorem flat_pos (l l' : List Pl) (k : Nat) (hk : k < l.length) (p q : Pl) (hp : l[k]? = some p) (hq : l'[k]? = some q) (hl : l'.length = l.length) (hid : q.id = p.id) (hsm : q.sm = p.sm) (ho : ∀ j, j ≠ k → l'[j]? = l[j]?) :
    (flatP l).set (k * 34 + 32) (.int .i64 q.pos) = flatP l' := by
  apply List.ext_getElem?
  intro i
  rcases Nat.lt_or_ge i (l.length * 34) with hi | hi
  · have hd : i / 34 < l.length := by omega
    have hm : i % 34 < 34 := Nat.mod_lt _ (by decide)
    have hi2 : i / 34 * 34 + i % 34 = i := by omega
    have hx : l[i / 34]? = some l[i / 34]! := some_pl hd
    have hy : l'[i / 34]? = some l'[i / 34]! := some_pl (by omega)
    have g1 := flatP_get l (i / 34) _ (i % 34) hx hm
    have g2 := flatP_get l' (i / 34) _ (i % 34) hy hm
    rw [hi2] at g1 g2
    rw [g2, List.getElem?_set]
    by_cases he : k * 34 + 32 = i
    · have e1 : i / 34 = k := by omega
      have e2 : i % 34 = 32 := by omega
      rw [if_pos he, if_pos (by rw [flatP_len]; omega), e2]
      rw [e1, hq] at hy
      rw [e1, ← Option.some.inj hy, plC_pos]
    · rw [if_neg he, g1]
      by_cases e1 : i / 34 = k
      · rw [e1, hq] at hy
        rw [e1, hp] at hx
        rw [e1, ← Option.some.inj hy, ← Option.some.inj hx]
        rcases Nat.lt_or_ge (i % 34) 32 with h3 | h3
        · rw [plC_id _ _ h3, plC_id _ _ h3, hid]
        · have e3 : i % 34 = 33 := by omega
          rw [e3, plC_sm, plC_sm, hsm]
      · have := ho (i / 34) e1
        rw [hx, hy] at this
        rw [Option.some.inj this]
  · rw [List.getElem?_eq_none (by rw [List.length_set, flatP_len]; exact hi), List.getElem?_eq_none (by rw [flatP_len, hl]; exact hi)]
theorem psR_sm (b : List UInt8) (m k a : Nat) (hk : k < m) : (flatP (psR b m k a)).set (k * 34 + 33) (.int .u32 (smR (midB b) (nB b) k : Nat)) = flatP (psR b m (k + 1) a) := by
  have h := flat_sm (psR b m k a) (psR b m (k + 1) a) k (by rw [psR_len]; exact hk) _ _ (psR_get b m k a k hk) (psR_get b m (k + 1) a k hk) (by rw [psR_len, psR_len]) rfl rfl (fun j hj => by
    rcases Nat.lt_or_ge j m with h | h
    · rw [psR_get b m _ a j h, psR_get b m _ a j h]
      by_cases h1 : j < k
      · rw [if_pos h1, if_pos (by omega : j < k + 1)]
      · rw [if_neg h1, if_neg (by omega : ¬ j < k + 1)]
    · rw [List.getElem?_eq_none (by rw [psR_len]; exact h), List.getElem?_eq_none (by rw [psR_len]; exact h)])
  simp only [if_pos (Nat.lt_succ_self k)] at h
  exact h
theorem psR_pos (b : List UInt8) (m s k : Nat) (hk : k < m) : (flatP (psR b m s k)).set (k * 34 + 32) (.int .i64 (atR (midB b) (nB b) k : Nat)) = flatP (psR b m s (k + 1)) := by
  have h := flat_pos (psR b m s k) (psR b m s (k + 1)) k (by rw [psR_len]; exact hk) _ _ (psR_get b m s k k hk) (psR_get b m s (k + 1) k hk) (by rw [psR_len, psR_len]) rfl rfl (fun j hj => by
    rcases Nat.lt_or_ge j m with h | h
    · rw [psR_get b m s _ j h, psR_get b m s _ j h]
      by_cases h1 : j < k
      · rw [if_pos h1, if_pos (by omega : j < k + 1)]
      · rw [if_neg h1, if_neg (by omega : ¬ j < k + 1)]
    · rw [List.getElem?_eq_none (by rw [psR_len]; exact h), List.getElem?_eq_none (by rw [psR_len]; exact h)])
  simp only [if_pos (Nat.lt_succ_self k)] at h
  exact h
/-- What the document's Open has read so far: its index, the places, its reader. -/
structure Sx (w9 : World) (rd X : Nat) (A : Option Addr) (cap : Nat) (bs : List UInt8) (wr : World) (v : Value) (ps : List Pl) (of p : Nat) : Prop where
  x : Whole wr X 38 (qixC v (idC (dgt of)))
  l : wr.ownsRow w9.heap.size 46 34 v ps.length (flatP ps)
  q : Qd wr rd A cap bs p 0
  f : Fr (fun j => j = rd ∨ j = X) w9 wr
theorem Sx.own {w9 wr : World} {rd X : Nat} {A : Option Addr} {cap : Nat} {bs : List UInt8} {v : Value} {ps : List Pl} {of p : Nat} (h : Sx w9 rd X A cap bs wr v ps of p) (j : Nat) (e : v.ownBlock = some j) : w9.heap.size ≤ j ∧ j < wr.heap.size := World.ownsRow.lt h.l j e
/-- The reader goes on. -/
theorem Sx.read {w9 wr w' : World} {rd X : Nat} {A : Option Addr} {cap : Nat} {bs : List UInt8} {v : Value} {ps : List Pl} {of p q : Nat} (h : Sx w9 rd X A cap bs wr v ps of p) (hq : Qd w' rd A cap bs q 0) (f : RFr rd wr w') (h1 : rd < X) (h2 : X < w9.heap.size) : Sx w9 rd X A cap bs w' v ps of q :=
  ⟨h.x.fr f (fun e => by omega), own_fr h.l f (fun j e e2 => by have := h.own j e; omega), hq, Fr.trans h.f f (fun i _ e => .inl e)⟩
theorem Sx.row {w9 wr : World} {rd X : Nat} {A : Option Addr} {cap : Nat} {bs : List UInt8} {v : Value} {ps : List Pl} {of p : Nat} (h : Sx w9 rd X A cap bs wr v ps of p) (hn : 0 < ps.length) : ∃ g c, v = .slice (some ⟨g, 0, none⟩) ps.length c ∧ ps.length ≤ c ∧ w9.heap.size ≤ g ∧ g < wr.heap.size ∧ Lies wr (some ⟨g, 0, none⟩) (flatP ps) := by
  rcases h.l.2 with ⟨rfl, h0⟩ | ⟨g, c, cur, rfl, hb, hg, hnc, hcm, hsz, htk⟩
  · omega
  · have hw : Whole wr g 46 cur := hg
    refine ⟨g, c, rfl, hnc, hb, hw.lt, .inr ⟨g, 0, rfl, fun j u hu => ?_⟩⟩
    rw [Nat.zero_add, hw.cell]
    have hj : j < ps.length * 34 := by
      have := (List.getElem?_eq_some_iff.1 hu).1
      rwa [flatP_len] at this
    rw [← htk, List.getElem?_take, if_pos hj, Array.getElem?_toList] at hu
    exact hu
theorem Sx.frF {w9 wr w' : World} {rd X : Nat} {A : Option Addr} {cap : Nat} {bs : List UInt8} {v : Value} {ps : List Pl} {of p : Nat} (h : Sx w9 rd X A cap bs wr v ps of p) (f : Fr (fun _ => False) wr w') : Sx w9 rd X A cap bs w' v ps of p :=
  ⟨h.x.fr f (fun e => e), own_fr h.l f (fun _ _ e => e), h.q.fr f (fun e => e) (fun _ _ _ e => e), Fr.trans h.f f (fun _ _ e => e.elim)⟩
theorem Sx.at {w9 wr : World} {rd X : Nat} {A : Option Addr} {cap : Nat} {bs : List UInt8} {v : Value} {ps : List Pl} {of p : Nat} (h : Sx w9 rd X A cap bs wr v ps of p) : wr.cell? ⟨X, 0, none⟩ = some v := by rw [h.x.cell]; exact qixC_at _ _
theorem build_q10 (id : List Value) (hi : id.length = 32) (w : World) : (Instr.build 46 #[(0, .agg id.toArray)]).run Tryz.prog w = .ok (.agg (id ++ [Value.int .i64 0, Value.int .u32 0]).toArray) w := by
  rcases id with _ | ⟨i0, _ | ⟨i1, _ | ⟨i2, _ | ⟨i3, _ | ⟨i4, _ | ⟨i5, _ | ⟨i6, _ | ⟨i7, _ | ⟨i8, _ | ⟨i9, _ | ⟨i10, _ | ⟨i11, _ | ⟨i12, _ | ⟨i13, _ | ⟨i14, _ | ⟨i15, _ | ⟨i16, _ | ⟨i17, _ | ⟨i18, _ | ⟨i19, _ | ⟨i20, _ | ⟨i21, _ | ⟨i22, _ | ⟨i23, _ | ⟨i24, _ | ⟨i25, _ | ⟨i26, _ | ⟨i27, _ | ⟨i28, _ | ⟨i29, _ | ⟨i30, _ | ⟨i31, _ | ⟨i32, id⟩⟩⟩⟩⟩⟩⟩⟩⟩⟩⟩⟩⟩⟩⟩⟩⟩⟩⟩⟩⟩⟩⟩⟩⟩⟩⟩⟩⟩⟩⟩⟩⟩
  all_goals first | (simp only [List.length_cons, List.length_nil] at hi; omega) | kernel_rfl
theorem build_q1 (x : Nat) (w : World) : (Instr.build 46 #[(0, .agg (idC (dgt x)))]).run Tryz.prog w = .ok (.agg (Pl.cells ⟨x, 0, 0⟩)) w := by
  have := build_q10 (idC (dgt x)).toList (by rw [Array.length_toList, idC_size]) w
  rw [Array.toArray_toList] at this
  rw [this, show Pl.cells ⟨x, 0, 0⟩ = ((idC (dgt x)).toList ++ [Value.int .i64 0, Value.int .u32 0]).toArray from Array.toList_inj.1 (by simp [Pl.cells])]
/-- One more place. -/
theorem Sx.put {w9 wr w5 : World} {rd X : Nat} {A : Option Addr} {cap : Nat} {bs : List UInt8} {v v' : Value} {ps : List Pl} {x : Pl} {of p n : Nat} (h : Sx w9 rd X A cap bs wr v ps of p) (h1 : rd < X) (h2 : X < w9.heap.size) (hA : ∀ ad, A = some ad → bs ≠ [] → ad.block < rd)
    (hn : n = ps.length) (o : w5.ownsRow w9.heap.size 46 34 v' (n + 1) (flatP ps ++ flatP [x])) (g : wr.grownBy w5 v.ownBlock) : Sx w9 rd X A cap bs (w5.setCell ⟨X, 0, none⟩ v') v' (ps ++ [x]) of p := by
  have hf : Fr (fun j => v.ownBlock = some j) wr w5 := (Fr.refl (fun j => v.ownBlock = some j) wr).grown g (fun j e _ => e)
  have hf2 : Fr (fun j => j = X) w5 (w5.setCell ⟨X, 0, none⟩ v') := (Fr.refl (fun j => j = X) w5).setCell (p := ⟨X, 0, none⟩) (fun _ => rfl) _
  have hx5 : Whole w5 X 38 (qixC v (idC (dgt of))) := h.x.fr hf (fun e => by have := h.own X e; omega)
  have hv' : ∀ j, v'.ownBlock = some j → w9.heap.size ≤ j ∧ j < w5.heap.size := fun j e => World.ownsRow.lt o j e
  refine ⟨?_, ?_, ?_, ?_⟩
  · rw [← qixC_set v v']; exact hx5.set 0 v'
  · have := own_fr o hf2 (fun j e e2 => by have := hv' j e; omega)
    rw [List.length_append, flatP_append, ← hn]
    exact this
  · exact (h.q.fr hf (fun e => by have := h.own rd e; omega) (fun ad e1 e2 e3 => by have := h.own _ e3; have := hA ad e1 e2; omega)).fr hf2 (fun e => by omega) (fun ad e1 e2 e3 => by have := hA ad e1 e2; omega)
  · exact Fr.trans (Fr.trans h.f hf (fun i hi e => by have := h.own i e; omega)) hf2 (fun i _ e => .inr e)
/-- A cell of a place is written. -/
theorem Sx.cell {w9 wr : World} {rd X g c : Nat} {A : Option Addr} {cap : Nat} {bs : List UInt8} {ps ps' : List Pl} {of p n : Nat} (h : Sx w9 rd X A cap bs wr (.slice (some ⟨g, 0, none⟩) n c) ps of p) (h1 : rd < X) (h2 : X < w9.heap.size) (hA : ∀ ad, A = some ad → bs ≠ [] → ad.block < rd)
    (hn : ps.length = n) (j : Nat) (u : Value) (hf : (flatP ps).set j u = flatP ps') (hl : ps'.length = ps.length) (hg : w9.heap.size ≤ g) : Sx w9 rd X A cap bs (wr.setCell ⟨g, j, none⟩ u) (.slice (some ⟨g, 0, none⟩) n c) ps' of p := by
  subst hn
  have hs := World.ownsRow.stored h.l j u
  have hfr : Fr (fun i => i = g) wr (wr.setCell ⟨g, j, none⟩ u) := (Fr.refl (fun i => i = g) wr).setCell (p := ⟨g, j, none⟩) (fun _ => rfl) _
  refine ⟨h.x.fr hfr (fun e => by omega), ?_, h.q.fr hfr (fun e => by omega) (fun ad e1 e2 e3 => by have := hA ad e1 e2; omega), Fr.trans h.f hfr (fun i hi e => by omega)⟩
  rw [hl, ← hf]
  exact hs.1
theorem laid_of (v : Value) (of : Nat) (l : List UInt8) (hl : l.length = 32) : laidAt (qixC v (idC (dgt of))) 1 (bytesV l).toArray = qixC v (idC (dgt (bigV l))) := by
  rw [cells_bytes hl]
  have h1 := idC_size (dgt (bigV l))
  have h2 := idC_size (dgt of)
  apply Array.toList_inj.1
  have h3 : List.drop (1 + (idC (dgt (bigV l))).size) (qixC v (idC (dgt of))).toList = [] := List.drop_of_length_le (by rw [Array.length_toList, qixC_size, h1]; exact Nat.le_refl _)
  unfold laidAt
  rw [h3]
  simp [qixC]
theorem own_liesQ {w : World} {base : Nat} {A : Option Addr} {n c : Nat} {ps : List Pl} (h : w.ownsRow base 46 34 (.slice A n c) n (flatP ps)) (hn : ps.length = n) : Lies w A (flatP ps) := by
  rcases h.2 with ⟨hv, h0⟩ | ⟨g, cap, cur, hv, hb, hg, hnc, hcm, hsz, htk⟩
  · have : ps = [] := List.eq_nil_of_length_eq_zero (by omega)
    rw [this]
    exact .inl rfl
  · injection hv with h1 h2 h3
    subst h1
    have hw : Whole w g 46 cur := hg
    refine .inr ⟨g, 0, rfl, fun j u hu => ?_⟩
    rw [Nat.zero_add, hw.cell]
    have hj : j < n * 34 := by
      have := (List.getElem?_eq_some_iff.1 hu).1
      rwa [flatP_len, hn] at this
    rw [← htk, List.getElem?_take, if_pos hj, Array.getElem?_toList] at hu
    exact hu
theorem load_qix {w w' : World} {X : Nat} {cs : Array Value} (h : Whole w X 38 cs) (n : Nat) (hn : n = cs.size) : (loadCellsFrom ⟨X, 0, none⟩ 0 n #[]).run Tryz.prog w = .ok cs w := load_wholeQ h n hn
theorem ris_step {ns : List Nat} (h : ∀ k, k + 1 < ns.length → gt ns k < gt ns (k + 1)) : risB ns = true := by
  unfold risB
  rw [List.all_eq_true]
  intro k hk
  exact decide_eq_true (fun hh => h k hh)
theorem ris_not {ns : List Nat} (k : Nat) (hk : k + 1 < ns.length) (h : ¬ gt ns k < gt ns (k + 1)) : risB ns = false := by
  unfold risB
  rw [List.all_eq_false]
  refine ⟨k, List.mem_range.2 (by omega), ?_⟩
  simp only [decide_eq_true_eq]
  exact fun hh => h (hh hk)
/-- What Open of the document tells. -/
def QOpPost (w : World) (b : List UInt8) (e : Ending) (w' : World) : Prop :=
  Fr (fun _ => False) w w' ∧ ((opE b ≠ 0 ∧ e = .returned (.tuple #[.agg zqx, .int .i64 (opE b)])) ∨
    (opE b = 0 ∧ ∃ A c, e = .returned (.tuple #[.agg (qixC (.slice A (nB b) c) (idC (dgt (ofR (midB b) (nB b))))), .int .i64 0]) ∧ nB b ≤ c ∧ Lies w' A (flatP (plsB b)) ∧ ∀ ad, A = some ad → w.heap.size ≤ ad.block))
end Go.Proofs.YtgbhdjncccmabaaGreatDoor

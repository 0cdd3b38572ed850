/- What is proved: texts that stand one behind the other: Iyh Iyi. Conditions: each theorem names its own. -/
import Derived.Test.YtgbhdjncccmabaaDoorQIyf
import Derived.Lib.SlBytesConst
import Derived.Test.YtgbhdjncccmabaaDoorIxv
/- What is proved: Make by the document: the index of places, or the error. Conditions: the list's cells are there, at most 600 places. -/
namespace Go.Proofs.YtgbhdjncccmabaaDoor
open Go.RowKit
set_option linter.unusedVariables false

def BigPost (w : World) (ys : List UInt8) (e : Ending) (w' : World) : Prop := ∃ A c, e = .returned (.slice A ys.length c) ∧ ys.length ≤ c ∧ Lies w' A (bytesV ys) ∧ Below w.heap.size w w'
set_option maxHeartbeats 1600000 in
theorem refBig_cap (n : Int) (size : Nat) (w : World) (h0 : 0 ≤ n) (h1 : n < 18446744073709551616) (hs : size ≤ 8) (hs0 : 0 < size) : Calls Tryd.prog 27 #[.int .u64 n, .int .i64 size] w (BigPost w (hiB n size size)) := by
  obtain ⟨i0, hi, hz0, hz1, hz2⟩ := info_parts info_u8
  go_enter Tryd.func27, Tryd.ntmps27
  go_wp2_with (at_make; refine wpList_make_full _ rfl _ _ 26 rfl w.heap.size 5 i0 (.int .u8 0) 1 Tryd.underlying26 hi hz0 hz1 .i64 .i64 _ _ size rfl rfl rfl rfl (by rw [hz2]; omega) (by unfold maxLen; omega) (Nat.le_refl _) ?_)
  intro w1 o1 g1
  have hO1 : w1.ownsRow w.heap.size 5 1 (.slice (some ⟨w.heap.size, 0, none⟩) size size) size (bytesV (bigRow n size 0)) := by
    have e : bytesV (bigRow n size 0) = (madeCells #[.int .u8 0] size).toList := by
      rw [toList_madeCells_one]
      unfold bigRow bytesV
      rw [List.drop_of_length_le (by rw [hiB_length]; omega), List.append_nil, List.map_replicate, Nat.sub_zero]
      rfl
    rw [e]; exact o1
  have HO1 := Lib.hid hO1
  have B1 := (Below.refl w.heap.size w).grown g1 (Nat.le_refl _) (fun k hk => by cases hk)
  clear o1 g1 hO1
  go_wp2_with fail
  go_loopw [0, 6] (fun m i wr => ∃ k : Nat, k ≤ size ∧ i = .int .i64 k ∧ (∃ mm : Int, m = .int .u64 mm ∧ 0 ≤ mm ∧ mm < 18446744073709551616 ∧ mm = n / 2 ^ (8 * k)) ∧ wr.ownsRow w.heap.size 5 1 (.slice (some ⟨w.heap.size, 0, none⟩) size size) size (bytesV (bigRow n size k)) ∧ Below w.heap.size w wr) (fun _ i _ => size - (intOf i).toNat)
  case atStart => exact ⟨0, Nat.zero_le _, rfl, ⟨n, rfl, h0, h1, by simp⟩, HO1.out, B1⟩
  case round =>
    obtain ⟨k, hk, rfl, ⟨mm, rfl, hm0, hm1, hmm⟩, ho, hb⟩ := hrel
    have HM := Lib.hid hmm
    have HO := Lib.hid ho
    have HB := Lib.hid hb
    clear hmm ho hb
    by_cases hlt : k < size
    · have hcell : wr.cell? ⟨w.heap.size, size - 1 - k, none⟩ = some (.int .u8 0) := by
        rw [World.ownsRow.cellAt HO.out (size - 1 - k) (by omega)]
        unfold bytesV bigRow
        rw [List.getElem?_map, List.getElem?_append_left (by simp; omega), List.getElem?_replicate, if_pos (by omega)]
        rfl
      have hfz := World.ownsRow.frozenAt HO.out (size - 1 - k)
      have hk0 : (0 : Int) ≤ (size : Int) - 1 - k := by omega
      have hk1 : (size : Int) - 1 - k < size := by omega
      have hkn : ((size : Int) - 1 - k).toNat = size - 1 - k := by omega
      go_wp2_with fail
      have hset := row_set HO.out (size - 1 - k) (mm % 256) (by omega) (by omega)
      have hmq : mm % 256 = n / 2 ^ (8 * k) % 256 := by rw [HM.out]
      rw [hmq, bigRow_next n size k hlt] at hset
      rw [← hmq] at hset
      have hmd : mm / 256 = n / 2 ^ (8 * (k + 1)) := by
        rw [HM.out, show 8 * (k + 1) = 8 * k + 8 by omega, Int.pow_add, Int.ediv_ediv_of_nonneg (Int.le_of_lt (Int.pow_pos (by decide)))]
        rfl
      have HS := Lib.hid hset
      have HMD := Lib.hid hmd
      clear hset hmd hmq
      go_roundw
      case rel => exact ⟨k + 1, by omega, by go_num, ⟨mm / 256, rfl, by omega, by omega, HMD.out⟩, HS.out, HB.out.setCell (p := ⟨w.heap.size, size - 1 - k, none⟩) (Nat.le_refl _) _⟩
      case measure => simp [intOf]; omega
    · obtain rfl : k = size := by omega
      have hfin : bigRow n k k = hiB n k k := by unfold bigRow; simp
      have hL := Lies.of_own HO.out
      rw [hfin] at hL
      have HLI := Lib.hid hL
      clear hL hfin
      go_wp2_with fail
      go_ret
      refine ⟨some ⟨w.heap.size, 0, none⟩, k, ?_, by rw [hiB_length]; exact Nat.le_refl _, HLI.out, HB.out⟩
      rw [hiB_length]
      rfl

theorem fanN_take (ns : List Nat) (k : Nat) (h : k < ns.length) (c : Nat) : fanN (ns.take (k + 1)) c = fanN (ns.take k) c + if b0 (gt ns k) ≤ c then 1 else 0 := by
  unfold fanN
  rw [cnt_succ _ ns k h]
  simp
theorem plC_b0 (p : Pl) : p.cells[0]? = some (.int .u8 (b0 p.id : Nat)) := plC_id p 0 (by decide)
theorem b0_pl {w w' : World} {b o : Nat} {ps : List Pl} {i : Nat} {p : Pl} (h : Lies w (some ⟨b, o, none⟩) (flatP ps)) (hi : ps[i]? = some p) (f : Fr (fun _ => False) w w') : w'.cell? ⟨b, o + i * 34, none⟩ = some (.int .u8 (b0 p.id : Nat)) := cell_pl h hi f 0 _ (plC_b0 p)

theorem load_wholeQ {w : World} {g : Nat} {t : TypeId} {cs : Array Value} (h : Whole w g t cs) (n : Nat) (hn : n = cs.size) : (loadCellsFrom ⟨g, 0, none⟩ 0 n #[]).run Tryd.prog w = .ok cs w := by
  have h2 := run_loadCells_list (P := Tryd.prog) w ⟨g, 0, none⟩ cs.toList (fun j v hv => by rw [add_off, Nat.zero_add, h.cell]; simpa using hv)
  rw [Array.length_toList] at h2
  rw [hn]
  simpa [loadCells] using h2
theorem OwnB.app {w0 w w' : World} {v v' : Value} {cur news : List UInt8} {n m : Nat} (h : OwnB w0 w v cur) (hn : cur.length = n) (hm : news.length = m) (o : w'.ownsRow w0.heap.size 5 1 v' (n + m) (bytesV cur ++ bytesV news)) (g : w.grownBy w' v.ownBlock) :
    ∃ A c, v' = .slice A (n + m) c ∧ n + m ≤ c ∧ (cur ++ news).length = n + m ∧ OwnB w0 w' (.slice A (n + m) c) (cur ++ news) := by
  obtain ⟨A, c, hv, hc, -⟩ := own_slice o
  subst hv
  have hl : (cur ++ news).length = n + m := by rw [List.length_append, hn, hm]
  refine ⟨A, c, rfl, hc, hl, ?_, fr_append h.1 h.2 g⟩
  rw [hl, bytesV_append]
  exact o
theorem OwnB.at {w0 w : World} {v : Value} {cur : List UInt8} {n : Nat} (h : OwnB w0 w v cur) (hn : cur.length = n) : w.ownsRow w0.heap.size 5 1 v n (bytesV cur) := by
  subst hn
  exact h.1

set_option maxHeartbeats 12800000 in
set_option maxRecDepth 100000 in
theorem QIMake_any (A : Option Addr) (cap : Nat) (ps : List Pl) (of : Nat) (hn : ps.length ≤ 600) (hok : ∀ p ∈ ps, p.Ok) (w : World) (h : Lies w A (flatP ps)) :
    Calls Tryd.prog 9 #[.slice A ps.length cap, .agg (idC (dgt of))] w (MkPost w ps of) := by
  unfold MkPost
  obtain ⟨i0, hi, hz0, hz1, hz2⟩ := info_parts info_u8
  obtain ⟨w0, hw0⟩ : ∃ w0, w.alloc (.cells (idC (dgt of)) 24) = w0 := ⟨_, rfl⟩
  have hF0 : Fr (fun _ => False) w w0 := by subst hw0; exact (Fr.refl _ w).alloc _
  have hO : Whole w0 w.heap.size 24 (idC (dgt of)) := by subst hw0; exact Whole.new w 24 _
  have HF0 := Lib.hid hF0
  have HO := Lib.hid hO
  have HSO := Lib.hid (QIsorted_any A cap ps (by omega) (fun p hp => (hok p hp).id) w0 (h.fr hF0 (fun _ _ e => e)))
  have HE : Hid (mkE ps = if dupS (srtP ps) = true then 17 else if badS (srtP ps) = true then 2 else 0) := Lib.hid rfl
  have HB : Hid (mkE ps = 0 → mkB ps of = bodyI (srtP ps) of ++ sumL (bodyI (srtP ps) of)) := Lib.hid (fun hz => by rw [mkB, if_pos hz, fileI])
  have HNB : Hid (mkE ps ≠ 0 → mkB ps of = []) := Lib.hid (fun hz => mkB_bad hz)
  have HOKS : Hid (∀ p ∈ srtP ps, p.Ok) := Lib.hid (fun p hp => hok p ((srtP_perm ps).mem_iff.1 hp))
  have HSN : Hid ((srtP ps).length = ps.length) := Lib.hid (srtP_len ps)
  have HBY := Lib.hid (QIbytes_any of)
  have HBY2 := Lib.hid QIbytes_any
  unfold OwnPost at HBY HBY2
  have HBG := Lib.hid (fun (n : Int) (h0 : 0 ≤ n) (h1 : n < 18446744073709551616) w => refBig_cap n 4 w h0 h1 (by decide) (by decide))
  unfold BigPost at HBG
  simp only [hiB_length] at HBG
  have HCL := Lib.hid (fun w' A' c' (N : Nat) (l : List UInt8) (hN : l.length = N) (hc : N ≤ c') (hl : N ≤ 1000000) (hh : Lies w' A' (bytesV l)) => (by subst hN; exact QPClosed_any A' c' l hc hl w' hh : Calls Tryd.prog 29 #[.slice A' N c'] w' (OwnPost w' (l ++ sumL l))))
  unfold OwnPost at HCL
  have HJ := Lib.hid (fun w' (P : Option Addr) (hp : Parts w' P [[73, 78, 68, 88], hiB 1 4 4]) => refJoin_any P 2 [[73, 78, 68, 88], hiB 1 4 4] (by decide) (by decide) w' hp)
  unfold OwnPost at HJ
  rw [show ([[73, 78, 68, 88], hiB 1 4 4] : List (List UInt8)).flatten = wordI by simp [wordI], show ([[73, 78, 68, 88], hiB 1 4 4] : List (List UInt8)).length = 2 from rfl, wordI_len] at HJ
  obtain ⟨L, hL⟩ : ∃ L, ps.length = L := ⟨_, rfl⟩
  obtain ⟨s, hs⟩ : ∃ s, srtP ps = s := ⟨_, rfl⟩
  obtain ⟨E, hE⟩ : ∃ E, mkE ps = E := ⟨_, rfl⟩
  rw [hs] at HSO HE HB HOKS HSN
  rw [hE] at HE HB HNB
  rw [hL] at HSO HSN hn ⊢
  have HEd := Lib.hid hE
  have HIL : Hid ((idsP s).length = L) := Lib.hid (by rw [idsP_len, HSN.out])
  obtain ⟨co, hco⟩ : ∃ c, idC (dgt of) = c := ⟨_, rfl⟩
  have HOS := Lib.hid (idC_size (dgt of))
  rw [hco] at hw0 HO HBY HOS ⊢
  obtain ⟨T32, hT32⟩ : ∃ T : TypeId, T = 24 := ⟨_, rfl⟩
  obtain ⟨n32, hn32⟩ : ∃ n : Nat, n = 32 := ⟨_, rfl⟩
  have ag32 : ∀ w, (isAgg T32).run Tryd.prog w = .ok true w := by rw [hT32]; exact fun _ => by kernel_rfl
  have sz32 : ∀ w, (sizeOf T32).run Tryd.prog w = .ok n32 w := by rw [hT32, hn32]; exact fun _ => by kernel_rfl
  have HN32 := Lib.hid hn32
  have hLz : ¬ ((600 : Int) < (L : Int)) := by omega
  clear h hL hs hE hn32 hF0 hO hok hco
  go_enter Tryd.func9, Tryd.ntmps9
  rw [show Op.load 24 (.tmp 31) = Op.load T32 (.tmp 31) by rw [hT32], show Op.load 24 (.tmp 37) = Op.load T32 (.tmp 37) by rw [hT32], show Op.load 24 (.tmp 101) = Op.load T32 (.tmp 101) by rw [hT32], show Op.load 24 (.tmp 3) = Op.load T32 (.tmp 3) by rw [hT32]]
  clear hT32
  go_upto_block 0 with (go_at_call 25; refine HSO.out.mono ?_; rintro e w1 ⟨v6, rfl, o6⟩; obtain ⟨A6, c6, hv6, -, -, -, l6⟩ := o6.shape; rw [HSN.out] at hv6; subst hv6; have HSL := Lib.hid l6; have HF1 := Lib.hid o6.2; clear l6 o6)
  have HGE := Lib.hid (fun i (hi : i < L) => some_pl (ps := s) (by rw [HSN.out]; exact hi))
  have HSI := Lib.hid (fun i (hi : i < L) => HOKS.out (s[i]!) (by rw [getElem!_pos s i (by rw [HSN.out]; exact hi)]; exact List.getElem_mem _))
  go_cut [] (fun wc => Hid (dupS s = false) ∧ Hid (Fr (fun _ => False) w1 wc))
  case first =>
    go_wp2_with fail
    go_loopg [7] L (fun kx i wr => ∃ k : Nat, i = .int .i64 k ∧ (k = 0 ∨ k < L) ∧ L - k ≤ kx ∧ Hid (∀ j, j < k → (s[j]!).id ≠ (s[j + 1]!).id) ∧ Hid (Fr (fun _ => False) w1 wr))
    case atStart => exact ⟨0, rfl, .inl rfl, by omega, Lib.hid (fun j hj => by omega), Lib.hid (Fr.refl _ _)⟩
    case round =>
      obtain ⟨k, rfl, hk, hkx, hz, HFr⟩ := hrel
      by_cases hlt : k + 1 < L
      · obtain ⟨b, o, hA⟩ := HSL.out.someP (by rw [HSN.out]; omega)
        subst hA
        have ik := (HSI.out k (by omega)).id
        have ik1 := (HSI.out (k + 1) hlt).id
        have l1 : ∀ q : Later wr, (loadCellsFrom ⟨b, o + k * 34, none⟩ 0 n32 #[]).run Tryd.prog q.w' = .ok (idC (dgt (s[k]!).id)) q.w' := fun q => load_plid HSL.out (HGE.out k (by omega)) (HFr.out.trans q.fr (fun _ _ e => e)) n32 HN32.out
        have l2 : ∀ q : Later wr, (loadCellsFrom ⟨b, o + (k + 1) * 34, none⟩ 0 n32 #[]).run Tryd.prog q.w' = .ok (idC (dgt (s[k + 1]!).id)) q.w' := fun q => load_plid HSL.out (HGE.out (k + 1) hlt) (HFr.out.trans q.fr (fun _ _ e => e)) n32 HN32.out
        have cc := fun w => eq_nums (s[k]!).id (s[k + 1]!).id ik ik1 w
        obtain ⟨ca, hca⟩ : ∃ c, idC (dgt (s[k]!).id) = c := ⟨_, rfl⟩
        obtain ⟨cb, hcb⟩ : ∃ c, idC (dgt (s[k + 1]!).id) = c := ⟨_, rfl⟩
        obtain ⟨x, hx⟩ : ∃ x, (s[k]!).id = x := ⟨_, rfl⟩
        obtain ⟨y, hy⟩ : ∃ y, (s[k + 1]!).id = y := ⟨_, rfl⟩
        rw [hca] at l1 cc
        rw [hcb] at l2 cc
        rw [hx, hy] at cc
        have HX := Lib.hid hx
        have HY := Lib.hid hy
        have hk1 : (k : Int) + 1 < L := by omega
        have hk0 : (k : Int) < L := by omega
        have wk := wrap_nat k (by omega)
        have wk1 := wrap_nat1 k (by omega)
        have tn1 := toNat_nat1 k
        have nn1 := nonneg_nat1 k
        clear hca hcb hx hy hk ik ik1
        by_cases hge : x = y
        · subst hge
          have hyy : (x == x) = true := by simp
          rw [hyy] at cc
          have HDD : Hid (dupS s = true) := Lib.hid ((dupS_iff s).2 ⟨k, by rw [HSN.out]; exact hlt, by rw [HX.out, HY.out]⟩)
          have HMK : Hid (E = 17) := Lib.hid (by rw [HE.out, if_pos HDD.out])
          clear hyy
          go_wp2_with fail
          refine wp_region_later (w0 := wr) (Fr.refl _ _) (by kernel_rfl) (by kernel_rfl) ?_
          repeat (quiet_step (fail))
          refine wpQuiet_nil ?_
          intro _ hw'
          obtain ⟨q, hw''⟩ := hw'
          subst hw''
          go_wp2_with fail
          (try simp only [Exit.inBlock, Exit.then])
          go_ret2
          refine ⟨_, by rw [HEd.out, HMK.out]; rfl, ?_, ((HF0.out.trans HF1.out (fun _ _ e => e)).trans HFr.out (fun _ _ e => e)).trans q.fr (fun _ _ e => e)⟩
          rw [HNB.out (by rw [HMK.out]; decide)]
          exact World.ownsRow_nil _ _ _ _
        · have hyy : (x == y) = false := by simpa using hge
          rw [hyy] at cc
          have HNE := Lib.hid hge
          clear hyy hge
          go_wp2_with fail
          refine wp_region_later (w0 := wr) (Fr.refl _ _) (by kernel_rfl) (by kernel_rfl) ?_
          repeat (quiet_step (fail))
          refine wpQuiet_nil ?_
          intro _ hw'
          obtain ⟨q, hw''⟩ := hw'
          subst hw''
          go_wp2_with fail
          go_roundg (L - (k + 1))
          case measure => omega
          case rel => exact ⟨k + 1, by go_num, by omega, Nat.le_refl _, Lib.hid (fun j hj => (by omega : j < k ∨ j = k).elim (hz.out j) (fun e => by subst e; rw [HX.out, HY.out]; exact HNE.out)), Lib.hid (HFr.out.trans q.fr (fun _ _ e => e))⟩
      · have HND : Hid (dupS s = false) := Lib.hid (by
          cases hd : dupS s with
          | false => rfl
          | true =>
            obtain ⟨j, hj, e⟩ := (dupS_iff s).1 hd
            rw [HSN.out] at hj
            exact absurd e (hz.out j (by omega)))
        have hk1 : ¬ ((k : Int) + 1 < L) := by omega
        have wk1 := wrap_nat1 k (by omega)
        clear hk hz
        go_wp2_with fail
        go_meet
        case rel => exact ⟨HND, HFr⟩
  case rest =>
    obtain ⟨HND, HFA⟩ := hcut
    obtain ⟨wb, rfl⟩ : ∃ wb, wb = wc := ⟨wc, rfl⟩
    go_step
    go_upto_block 2 with fail
    go_cut [] (fun wd => Hid (badS s = false ∧ ∀ j, j < L → 0 ≤ (s[j]!).pos ∧ (s[j]!).pos ≤ 1048576) ∧ Hid (Fr (fun _ => False) w1 wd))
    case first =>
      go_wp2_with fail
      go_loopg [8] L (fun kx i wr => ∃ m : Nat, i = .int .i64 m ∧ m ≤ L ∧ L - m ≤ kx ∧ Hid (∀ j, j < m → 0 ≤ (s[j]!).pos ∧ (s[j]!).pos ≤ 1048576) ∧ Hid (Fr (fun _ => False) w1 wr))
      case atStart => exact ⟨0, rfl, by omega, by omega, Lib.hid (fun j hj => by omega), HFA⟩
      case round =>
        obtain ⟨m, rfl, hm, hmx, hz2, HFr⟩ := hrel
        have wm := wrap_nat m (by omega)
        by_cases hlt : m < L
        · have hltz : (m : Int) < L := by omega
          obtain ⟨b, o, hA⟩ := HSL.out.someP (by rw [HSN.out]; omega)
          subst hA
          have c0 := pos_pl HSL.out (HGE.out m hlt) HFr.out
          have hmem : s[m]! ∈ s := by rw [getElem!_pos s m (by rw [HSN.out]; exact hlt)]; exact List.getElem_mem _
          obtain ⟨p, hp⟩ : ∃ p, s[m]! = p := ⟨_, rfl⟩
          rw [hp] at c0 hmem
          have HP := Lib.hid hp
          have HMEM := Lib.hid hmem
          obtain ⟨S, hS⟩ : ∃ S, p.pos = S := ⟨_, rfl⟩
          rw [hS] at c0
          have HSd := Lib.hid hS
          clear hp hmem hS
          by_cases hneg : S < 0
          · have HBD : Hid (badS s = true) := Lib.hid (List.any_eq_true.2 ⟨p, HMEM.out, by rw [HSd.out]; exact decide_eq_true (.inl hneg)⟩)
            have HMK : Hid (E = 2) := Lib.hid (by rw [HE.out, HND.out, HBD.out]; rfl)
            go_wp2_with fail
            (try simp only [Exit.inBlock, Exit.then])
            go_ret2
            refine ⟨_, by rw [HEd.out, HMK.out]; rfl, ?_, (HF0.out.trans HF1.out (fun _ _ e => e)).trans HFr.out (fun _ _ e => e)⟩
            rw [HNB.out (by rw [HMK.out]; decide)]
            exact World.ownsRow_nil _ _ _ _
          · by_cases hbig : (1048576 : Int) < S
            · have HBD : Hid (badS s = true) := Lib.hid (List.any_eq_true.2 ⟨p, HMEM.out, by rw [HSd.out]; exact decide_eq_true (.inr hbig)⟩)
              have HMK : Hid (E = 2) := Lib.hid (by rw [HE.out, HND.out, HBD.out]; rfl)
              go_wp2_with fail
              (try simp only [Exit.inBlock, Exit.then])
              go_ret2
              refine ⟨_, by rw [HEd.out, HMK.out]; rfl, ?_, (HF0.out.trans HF1.out (fun _ _ e => e)).trans HFr.out (fun _ _ e => e)⟩
              rw [HNB.out (by rw [HMK.out]; decide)]
              exact World.ownsRow_nil _ _ _ _
            · go_wp2_with fail
              go_roundg (L - (m + 1))
              case measure => omega
              case rel => exact ⟨m + 1, by go_num, by omega, Nat.le_refl _, Lib.hid (fun j hj => (by omega : j < m ∨ j = m).elim (hz2.out j) (fun e => by subst e; rw [HP.out, HSd.out]; omega)), HFr⟩
        · have hltz : ¬ ((m : Int) < L) := by omega
          obtain rfl : L = m := by omega
          have HBD : Hid (badS s = false) := Lib.hid (by
            rw [badS, List.any_eq_false]
            intro p hp
            obtain ⟨j, hj, e⟩ := List.getElem_of_mem hp
            have := hz2.out j (by rw [← HSN.out]; exact hj)
            rw [getElem!_pos s j hj, e] at this
            simp
            omega)
          go_wp2_with fail
          go_meet
          case rel => exact ⟨Lib.hid ⟨HBD.out, hz2.out⟩, HFr⟩
    case rest =>
      obtain ⟨HBA, HFB⟩ := hcut
      obtain ⟨wd, rfl⟩ : ∃ wd, wd = wc := ⟨wc, rfl⟩
      have HE0 : Hid (E = 0) := Lib.hid (by rw [HE.out, HND.out, HBA.out.1]; rfl)
      have HPOS := Lib.hid HBA.out.2
      have HBB := Lib.hid (HB.out HE0.out)
      clear HE HB HNB HND HBA HFA
      go_step
      have hcv : (convert 26 26 (.slice (some ⟨wd.heap.size, 0, none⟩) 4 4)).run Tryd.prog (wd.alloc (.cells #[.int .u8 73, .int .u8 78, .int .u8 68, .int .u8 88] 5)) = .ok (.slice (some ⟨wd.heap.size, 0, none⟩) 4 4) (wd.alloc (.cells #[.int .u8 73, .int .u8 78, .int .u8 68, .int .u8 88] 5 (4, 5))) :=
        Lib.run_convert_bytes_const (P := Tryd.prog) wd 26 5 #[.int .u8 73, .int .u8 78, .int .u8 68, .int .u8 88] 4 4 Tryd.underlying26 Tryd.underlying5
      have hll : Lies (wd.alloc (.cells #[.int .u8 73, .int .u8 78, .int .u8 68, .int .u8 88] 5 (4, 5))) (some ⟨wd.heap.size, 0, none⟩) (bytesV [73, 78, 68, 88]) :=
        .inr ⟨wd.heap.size, 0, rfl, fun j u hu => by
          rw [Nat.zero_add]
          have e : (wd.alloc (.cells #[.int .u8 73, .int .u8 78, .int .u8 68, .int .u8 88] 5 (4, 5))).cell? ⟨wd.heap.size, j, none⟩ = (#[.int .u8 73, .int .u8 78, .int .u8 68, .int .u8 88] : Array Value)[j]? := cell_of_row _ _ _ _ _ _ (heap_alloc_new wd _)
          rw [e, ← Array.getElem?_toList]; exact hu⟩
      obtain ⟨we, hwe⟩ : ∃ we, wd.alloc (.cells #[.int .u8 73, .int .u8 78, .int .u8 68, .int .u8 88] 5 (4, 5)) = we := ⟨_, rfl⟩
      have hfe : Fr (fun _ => False) wd we := by subst hwe; exact (Fr.refl _ _).alloc _
      have HFE := Lib.hid (HFB.out.trans hfe (fun _ _ e => e))
      rw [hwe] at hll hcv
      have HLL := Lib.hid hll
      have HB1 := Lib.hid (HBG.out 1 (by decide) (by decide) we)
      clear hll hwe hfe
      go_upto_block 4 with (first
        | (refine wpList_buildSlice_toQ rfl 26 4 _ rfl #[(0, .int .u8 73), (1, .int .u8 78), (2, .int .u8 68), (3, .int .u8 88)] (by simp [Act.eval]) _ _ (build_word _) ?_)
        | (go_at_call 27; refine HB1.out.mono ?_; rintro e wf ⟨Af, cf, rfl, hcf, lf, bf⟩; have HFF := Lib.hid (HFE.out.then_below bf); have HPJ := Lib.hid (parts2I wf [73, 78, 68, 88] (hiB 1 4 4) (some ⟨wd.heap.size, 0, none⟩) Af 4 cf 4 4 rfl (hiB_length _ _ _) (Nat.le_refl _) hcf (HLL.out.fr (Fr.of_below (S := fun _ => False) bf) (fun _ _ e => e)) lf); clear hcf lf bf)
        | (go_at_call 26; refine (HJ.out _ _ HPJ.out).mono ?_; rintro e wg ⟨v9, rfl, o9, b9⟩; have HFG := Lib.hid ((HFF.out.alloc (.cells #[.slice (some ⟨wd.heap.size, 0, none⟩) 4 4, .slice Af 4 cf] 26)).then_below b9); have HO9 := Lib.hid (show OwnB w1 wg v9 wordI from ⟨own_weaken o9 (by have := HFF.out.size; simp; omega), HFG.out⟩); clear o9 b9))
      obtain ⟨A9, c9, hv9, -⟩ := HO9.out.slice
      rw [wordI_len] at hv9
      subst hv9
      go_cut [9] (fun s9 wr => ∃ A9 N9 c9, s9 = .slice A9 N9 c9 ∧ N9 ≤ 1032 ∧ Hid ((wordI ++ fanB (idsP s)).length = N9) ∧ Hid (OwnB w1 wr (.slice A9 N9 c9) (wordI ++ fanB (idsP s))))
      case first =>
        go_wp2_with fail
        go_loopg [9, 10] 256 (fun kx s9 i wr => ∃ (c : Nat) (A9 : Option Addr) (N9 c9 : Nat), s9 = .slice A9 N9 c9 ∧ i = .int .i64 c ∧ c ≤ 256 ∧ 256 - c ≤ kx ∧ N9 ≤ 8 + 4 * c ∧ Hid ((wordI ++ fanTo (idsP s) c).length = N9) ∧ Hid (OwnB w1 wr (.slice A9 N9 c9) (wordI ++ fanTo (idsP s) c)))
        case atStart => exact ⟨0, A9, 8, c9, rfl, rfl, by omega, by omega, by omega, Lib.hid rfl, Lib.hid (by have := HO9.out; rw [← List.append_nil wordI] at this; exact this)⟩
        case round =>
          obtain ⟨c, A9, N9, c9, rfl, rfl, hc, hcx, hN9, HN9, HO9⟩ := hrel
          obtain ⟨wo, rfl⟩ : ∃ wo, wo = wr := ⟨wr, rfl⟩
          have HFr := Lib.hid HO9.out.2
          have wcc := wrap_nat c (by omega)
          by_cases hlt : c < 256
          · have hltz : (c : Int) < 256 := by omega
            go_wp2_with fail
            go_loopg [11, 12] L (fun kx s11 s12 wq => ∃ k n : Nat, s12 = .int .i64 k ∧ s11 = .int .i64 n ∧ k ≤ L ∧ L - k ≤ kx ∧ n ≤ k ∧ wq = wo ∧ Hid (n = fanN ((idsP s).take k) c))
            case atStart => exact ⟨0, 0, rfl, rfl, by omega, by omega, by omega, rfl, Lib.hid (by simp [fanN])⟩
            case round =>
              obtain ⟨k, n, rfl, rfl, hk, hkx, hnk, rfl, HNK⟩ := hrel
              have wk := wrap_nat k (by omega)
              have wn := wrap_nat n (by omega)
              by_cases hlt2 : k < L
              · have hlt2z : (k : Int) < L := by omega
                obtain ⟨b, o, hA⟩ := HSL.out.someP (by rw [HSN.out]; omega)
                subst hA
                have c0 := b0_pl HSL.out (HGE.out k hlt2) HFr.out
                have hx256 := b0_lt (s[k]!).id
                have hnx := fanN_take (idsP s) k (by rw [HIL.out]; exact hlt2) c
                rw [idsP_gt s k (by rw [HSN.out]; exact hlt2), ← HNK.out] at hnx
                obtain ⟨x, hx⟩ : ∃ x, b0 (s[k]!).id = x := ⟨_, rfl⟩
                rw [hx] at c0 hx256 hnx
                have HNX := Lib.hid hnx
                have hwx : IntKind.i64.wrap (x : Int) = x := by rw [IntKind.wrap_i64]; omega
                clear hx hnx
                by_cases hxc : x ≤ c
                · have hxz : (x : Int) ≤ c := by omega
                  go_wp2_with fail
                  go_roundg (L - (k + 1))
                  case measure => omega
                  case rel => exact ⟨k + 1, n + 1, by go_num, by go_num, by omega, Nat.le_refl _, by omega, rfl, Lib.hid (by rw [HNX.out, if_pos hxc])⟩
                · have hxz : ¬ ((x : Int) ≤ c) := by omega
                  go_wp2_with fail
                  go_roundg (L - (k + 1))
                  case measure => omega
                  case rel => exact ⟨k + 1, n, by go_num, rfl, by omega, Nat.le_refl _, by omega, rfl, Lib.hid (by rw [HNX.out, if_neg hxc]; rfl)⟩
              · have hlt2z : ¬ ((k : Int) < L) := by omega
                obtain rfl : L = k := by omega
                have hfn : fanN (idsP s) c = n := by rw [HNK.out, List.take_of_length_le (by rw [HIL.out]; exact Nat.le_refl _)]
                have HFN := Lib.hid hfn
                have hb4 := HBG.out (n : Int) (by omega) (by omega) wr
                have HB4 := Lib.hid hb4
                have hwu : IntKind.u64.wrap (n : Int) = n := by rw [IntKind.wrap_u64]; omega
                clear hfn hb4 HNK
                go_wp2_with (first
                  | (go_at_call 27; refine HB4.out.mono ?_; rintro e wf ⟨Af, cf, rfl, -, lf, bf⟩; have HFf := Lib.hid (Fr.of_below (S := fun _ => False) bf); have HLf := Lib.hid lf; clear lf bf)
                  | (at_builtin; refine wpList_append_row _ rfl (.tmp 86) (.tmp 89) 26 26 rfl w1.heap.size 5 i0 (.int .u8 0) 1 1 Tryd.underlying26 hi hz0 hz1 hz2 rfl (.slice A9 N9 c9) N9 (bytesV (wordI ++ fanTo (idsP s) c)) rfl ((HO9.out.fr HFf.out).at HN9.out) (.slice Af 4 cf) 4 (bytesV (hiB n 4 4)) rfl (Lies.srcB HLf.out (hiB_length _ _ _) cf) (by unfold maxLen; omega) (by omega) (by have := (HO9.out.2.trans HFf.out (fun _ _ e => e)).size; omega) ?_
                     intro v5 w5 o5 g5 a5
                     obtain ⟨A5, c5, hv5, -, hl5, ho5⟩ := (HO9.out.fr HFf.out).app HN9.out (hiB_length (n : Int) 4 4) o5 g5
                     subst hv5
                     have HN5 := Lib.hid hl5
                     have HO5 := Lib.hid ho5
                     clear o5 g5 a5 hl5 ho5))
                go_roundg (256 - (c + 1))
                case measure => omega
                case rel => exact ⟨c + 1, A5, _, c5, rfl, by go_num, by omega, Nat.le_refl _, by omega, Lib.hid (by rw [fanTo_succ, ← List.append_assoc, HFN.out]; exact HN5.out), Lib.hid (by rw [fanTo_succ, ← List.append_assoc, HFN.out]; exact HO5.out)⟩
          · have hltz : ¬ ((c : Int) < 256) := by omega
            obtain rfl : 256 = c := by omega
            go_wp2_with fail
            go_meet
            case rel => exact ⟨A9, N9, c9, rfl, by omega, HN9, HO9⟩
      case rest =>
        obtain ⟨A9, N9, c9, rfl, hN9, HN9, HO9⟩ := hcut
        have TKI : Hid ((idsP s).take L = idsP s) := Lib.hid (List.take_of_length_le (by rw [HIL.out]; exact Nat.le_refl _))
        have TK : Hid (s.take L = s) := Lib.hid (List.take_of_length_le (by rw [HSN.out]; exact Nat.le_refl _))
        go_step
        go_upto_block 8 with fail
        go_cut [9] (fun s9 wr => ∃ A9 N9 c9, s9 = .slice A9 N9 c9 ∧ N9 ≤ 100000 ∧ Hid ((wordI ++ fanB (idsP s) ++ joinI (idsP s)).length = N9) ∧ Hid (N9 ≤ c9) ∧ Hid (OwnB w1 wr (.slice A9 N9 c9) (wordI ++ fanB (idsP s) ++ joinI (idsP s))))
        case first =>
          go_wp2_with fail
          go_loopg [9, 13] L (fun kx s9 i wr => ∃ (k : Nat) (A9 : Option Addr) (N9 c9 : Nat), s9 = .slice A9 N9 c9 ∧ i = .int .i64 k ∧ k ≤ L ∧ L - k ≤ kx ∧ N9 ≤ 1032 + 32 * k ∧ Hid ((wordI ++ fanB (idsP s) ++ joinI ((idsP s).take k)).length = N9) ∧ Hid (OwnB w1 wr (.slice A9 N9 c9) (wordI ++ fanB (idsP s) ++ joinI ((idsP s).take k))))
          case atStart => exact ⟨0, A9, N9, c9, rfl, rfl, by omega, by omega, by omega, Lib.hid (by have := HN9.out; rw [← List.append_nil (wordI ++ fanB (idsP s))] at this; exact this), Lib.hid (by have := HO9.out; rw [← List.append_nil (wordI ++ fanB (idsP s))] at this; exact this)⟩
          case round =>
            obtain ⟨k, A9, N9, c9, rfl, rfl, hk, hkx, hN9, HN9, HO9⟩ := hrel
            obtain ⟨wo, rfl⟩ : ∃ wo, wo = wr := ⟨wr, rfl⟩
            have HFr := Lib.hid HO9.out.2
            have wk := wrap_nat k (by omega)
            by_cases hlt : k < L
            · have hltz : (k : Int) < L := by omega
              obtain ⟨b, o, hA⟩ := HSL.out.someP (by rw [HSN.out]; omega)
              subst hA
              have hid := (HSI.out k hlt).id
              have l1 : (loadCellsFrom ⟨b, o + k * 34, none⟩ 0 n32 #[]).run Tryd.prog wo = .ok (idC (dgt (s[k]!).id)) wo := load_plid HSL.out (HGE.out k hlt) HFr.out n32 HN32.out
              have hnx := joinI_take (idsP s) k (by rw [HIL.out]; exact hlt)
              rw [idsP_gt s k (by rw [HSN.out]; exact hlt)] at hnx
              have HBX := Lib.hid (HBY2.out (s[k]!).id wo)
              obtain ⟨x, hx⟩ : ∃ x, (s[k]!).id = x := ⟨_, rfl⟩
              rw [hx] at l1 hnx HBX
              obtain ⟨cx, hcx⟩ : ∃ c, idC (dgt x) = c := ⟨_, rfl⟩
              rw [hcx] at l1 HBX
              have HNX : Hid (wordI ++ fanB (idsP s) ++ joinI ((idsP s).take (k + 1)) = wordI ++ fanB (idsP s) ++ joinI ((idsP s).take k) ++ idL x) := Lib.hid (by rw [hnx, ← List.append_assoc])
              clear hid hx hnx hcx
              go_wp2_with (first
                | (go_at_call 28; refine HBX.out.mono ?_; rintro e wf ⟨vf, rfl, of5, bf⟩; obtain ⟨Af, cf, hvf, -, -⟩ := own_slice of5; rw [idL_len] at hvf; subst hvf; have HFf := Lib.hid (Fr.of_below (S := fun _ => False) bf); have HLf := Lib.hid (Lies.of_own of5); clear of5 bf)
                | (at_builtin; refine wpList_append_row _ rfl (.tmp 97) (.tmp 103) 26 26 rfl w1.heap.size 5 i0 (.int .u8 0) 1 1 Tryd.underlying26 hi hz0 hz1 hz2 rfl (.slice A9 N9 c9) N9 (bytesV (wordI ++ fanB (idsP s) ++ joinI ((idsP s).take k))) rfl ((HO9.out.fr HFf.out).at HN9.out) (.slice Af 32 cf) 32 (bytesV (idL x)) rfl (Lies.srcB HLf.out (idL_len x) cf) (by unfold maxLen; omega) (by omega) (by have := (HO9.out.2.trans HFf.out (fun _ _ e => e)).size; omega) ?_
                   intro v5 w5 o5 g5 a5
                   obtain ⟨A5, c5, hv5, -, hl5, ho5⟩ := (HO9.out.fr HFf.out).app HN9.out (idL_len x) o5 g5
                   subst hv5
                   have HN5 := Lib.hid hl5
                   have HO5 := Lib.hid ho5
                   clear o5 g5 a5 hl5 ho5))
              go_roundg (L - (k + 1))
              case measure => omega
              case rel => exact ⟨k + 1, A5, _, c5, rfl, by go_num, by omega, Nat.le_refl _, by omega, Lib.hid (by rw [HNX.out]; exact HN5.out), Lib.hid (by rw [HNX.out]; exact HO5.out)⟩
            · have hltz : ¬ ((k : Int) < L) := by omega
              obtain rfl : L = k := by omega
              have hn5 := HN9.out
              have ho5 := HO9.out
              rw [TKI.out] at hn5 ho5
              have hc5 := ho5.slice
              have HN5 := Lib.hid hn5
              have HO5 := Lib.hid ho5
              have HC5 : Hid (N9 ≤ c9) := Lib.hid (by obtain ⟨A5, c5, hv5, hc6, -⟩ := hc5; injection hv5 with h1 h2 h3; rw [HN5.out, ← h3] at hc6; exact hc6)
              clear hn5 ho5 hc5
              go_wp2_with fail
              go_meet
              case rel => exact ⟨A9, N9, c9, rfl, by omega, HN5, HC5, HO5⟩
        case rest =>
          obtain ⟨A9, N9, c9, rfl, hN9, HN9, HC9, HO9⟩ := hcut
          go_step
          go_upto_block 10 with fail
          go_cut [9] (fun s9 wr => ∃ A9 N9 c9, s9 = .slice A9 N9 c9 ∧ N9 ≤ 200000 ∧ Hid ((wordI ++ fanB (idsP s) ++ joinI (idsP s) ++ smB s).length = N9) ∧ Hid (N9 ≤ c9) ∧ Hid (OwnB w1 wr (.slice A9 N9 c9) (wordI ++ fanB (idsP s) ++ joinI (idsP s) ++ smB s)))
          case first =>
            go_wp2_with fail
            go_loopg [9, 14] L (fun kx s9 i wr => ∃ (k : Nat) (A9 : Option Addr) (N9 c9 : Nat), s9 = .slice A9 N9 c9 ∧ i = .int .i64 k ∧ k ≤ L ∧ L - k ≤ kx ∧ N9 ≤ 100000 + 4 * k ∧ Hid ((wordI ++ fanB (idsP s) ++ joinI (idsP s) ++ smB (s.take k)).length = N9) ∧ Hid (OwnB w1 wr (.slice A9 N9 c9) (wordI ++ fanB (idsP s) ++ joinI (idsP s) ++ smB (s.take k))))
            case atStart => exact ⟨0, A9, N9, c9, rfl, rfl, by omega, by omega, by omega, Lib.hid (by have := HN9.out; rw [← List.append_nil (wordI ++ fanB (idsP s) ++ joinI (idsP s))] at this; exact this), Lib.hid (by have := HO9.out; rw [← List.append_nil (wordI ++ fanB (idsP s) ++ joinI (idsP s))] at this; exact this)⟩
            case round =>
              obtain ⟨k, A9, N9, c9, rfl, rfl, hk, hkx, hN9, HN9, HO9⟩ := hrel
              obtain ⟨wo, rfl⟩ : ∃ wo, wo = wr := ⟨wr, rfl⟩
              have HFr := Lib.hid HO9.out.2
              have wk := wrap_nat k (by omega)
              by_cases hlt : k < L
              · have hltz : (k : Int) < L := by omega
                obtain ⟨b, o, hA⟩ := HSL.out.someP (by rw [HSN.out]; omega)
                subst hA
                have hok := HSI.out k hlt
                have c0 := sm_pl HSL.out (HGE.out k hlt) HFr.out
                have h0 := hok.s0
                have h1 := hok.s1
                have hnx := smB_take s k (by rw [HSN.out]; exact hlt)
                have HBX := Lib.hid (HBG.out (s[k]!).sm h0 (by omega) wo)
                obtain ⟨x, hx⟩ : ∃ x, (s[k]!).sm = x := ⟨_, rfl⟩
                rw [hx] at c0 hnx HBX h0 h1
                have hwu : IntKind.u64.wrap x = x := by rw [IntKind.wrap_u64]; omega
                have HNX : Hid (wordI ++ fanB (idsP s) ++ joinI (idsP s) ++ smB (s.take (k + 1)) = wordI ++ fanB (idsP s) ++ joinI (idsP s) ++ smB (s.take k) ++ hiB x 4 4) := Lib.hid (by rw [hnx, ← List.append_assoc])
                clear hok hx hnx
                go_wp2_with (first
                  | (go_at_call 27; refine HBX.out.mono ?_; rintro e wf ⟨Af, cf, rfl, -, lf, bf⟩; have HFf := Lib.hid (Fr.of_below (S := fun _ => False) bf); have HLf := Lib.hid lf; clear lf bf)
                  | (at_builtin; refine wpList_append_row _ rfl (.tmp 111) (.tmp 118) 26 26 rfl w1.heap.size 5 i0 (.int .u8 0) 1 1 Tryd.underlying26 hi hz0 hz1 hz2 rfl (.slice A9 N9 c9) N9 (bytesV (wordI ++ fanB (idsP s) ++ joinI (idsP s) ++ smB (s.take k))) rfl ((HO9.out.fr HFf.out).at HN9.out) (.slice Af 4 cf) 4 (bytesV (hiB x 4 4)) rfl (Lies.srcB HLf.out (hiB_length x 4 4) cf) (by unfold maxLen; omega) (by omega) (by have := (HO9.out.2.trans HFf.out (fun _ _ e => e)).size; omega) ?_
                     intro v5 w5 o5 g5 a5
                     obtain ⟨A5, c5, hv5, -, hl5, ho5⟩ := (HO9.out.fr HFf.out).app HN9.out (hiB_length x 4 4) o5 g5
                     subst hv5
                     have HN5 := Lib.hid hl5
                     have HO5 := Lib.hid ho5
                     clear o5 g5 a5 hl5 ho5))
                go_roundg (L - (k + 1))
                case measure => omega
                case rel => exact ⟨k + 1, A5, _, c5, rfl, by go_num, by omega, Nat.le_refl _, by omega, Lib.hid (by rw [HNX.out]; exact HN5.out), Lib.hid (by rw [HNX.out]; exact HO5.out)⟩
              · have hltz : ¬ ((k : Int) < L) := by omega
                obtain rfl : L = k := by omega
                have hn5 := HN9.out
                have ho5 := HO9.out
                rw [TK.out] at hn5 ho5
                have hc5 := ho5.slice
                have HN5 := Lib.hid hn5
                have HO5 := Lib.hid ho5
                have HC5 : Hid (N9 ≤ c9) := Lib.hid (by obtain ⟨A5, c5, hv5, hc6, -⟩ := hc5; injection hv5 with h1 h2 h3; rw [HN5.out, ← h3] at hc6; exact hc6)
                clear hn5 ho5 hc5
                go_wp2_with fail
                go_meet
                case rel => exact ⟨A9, N9, c9, rfl, by omega, HN5, HC5, HO5⟩
          case rest =>
            obtain ⟨A9, N9, c9, rfl, hN9, HN9, HC9, HO9⟩ := hcut
            go_step
            go_upto_block 12 with fail
            go_cut [9] (fun s9 wr => ∃ A9 N9 c9, s9 = .slice A9 N9 c9 ∧ N9 ≤ 300000 ∧ Hid ((wordI ++ fanB (idsP s) ++ joinI (idsP s) ++ smB s ++ atB s).length = N9) ∧ Hid (N9 ≤ c9) ∧ Hid (OwnB w1 wr (.slice A9 N9 c9) (wordI ++ fanB (idsP s) ++ joinI (idsP s) ++ smB s ++ atB s)))
            case first =>
              go_wp2_with fail
              go_loopg [9, 15] L (fun kx s9 i wr => ∃ (k : Nat) (A9 : Option Addr) (N9 c9 : Nat), s9 = .slice A9 N9 c9 ∧ i = .int .i64 k ∧ k ≤ L ∧ L - k ≤ kx ∧ N9 ≤ 200000 + 4 * k ∧ Hid ((wordI ++ fanB (idsP s) ++ joinI (idsP s) ++ smB s ++ atB (s.take k)).length = N9) ∧ Hid (OwnB w1 wr (.slice A9 N9 c9) (wordI ++ fanB (idsP s) ++ joinI (idsP s) ++ smB s ++ atB (s.take k))))
              case atStart => exact ⟨0, A9, N9, c9, rfl, rfl, by omega, by omega, by omega, Lib.hid (by have := HN9.out; rw [← List.append_nil (wordI ++ fanB (idsP s) ++ joinI (idsP s) ++ smB s)] at this; exact this), Lib.hid (by have := HO9.out; rw [← List.append_nil (wordI ++ fanB (idsP s) ++ joinI (idsP s) ++ smB s)] at this; exact this)⟩
              case round =>
                obtain ⟨k, A9, N9, c9, rfl, rfl, hk, hkx, hN9, HN9, HO9⟩ := hrel
                obtain ⟨wo, rfl⟩ : ∃ wo, wo = wr := ⟨wr, rfl⟩
                have HFr := Lib.hid HO9.out.2
                have wk := wrap_nat k (by omega)
                by_cases hlt : k < L
                · have hltz : (k : Int) < L := by omega
                  obtain ⟨b, o, hA⟩ := HSL.out.someP (by rw [HSN.out]; omega)
                  subst hA
                  have hpos := HPOS.out k hlt
                  have c0 := pos_pl HSL.out (HGE.out k hlt) HFr.out
                  have h0 := hpos.1
                  have h1 := hpos.2
                  have hnx := atB_take s k (by rw [HSN.out]; exact hlt)
                  have HBX := Lib.hid (HBG.out (s[k]!).pos h0 (by omega) wo)
                  obtain ⟨x, hx⟩ : ∃ x, (s[k]!).pos = x := ⟨_, rfl⟩
                  rw [hx] at c0 hnx HBX h0 h1
                  have hwu : IntKind.u64.wrap x = x := by rw [IntKind.wrap_u64]; omega
                  have HNX : Hid (wordI ++ fanB (idsP s) ++ joinI (idsP s) ++ smB s ++ atB (s.take (k + 1)) = wordI ++ fanB (idsP s) ++ joinI (idsP s) ++ smB s ++ atB (s.take k) ++ hiB x 4 4) := Lib.hid (by rw [hnx, ← List.append_assoc])
                  clear hpos hx hnx
                  go_wp2_with (first
                    | (go_at_call 27; refine HBX.out.mono ?_; rintro e wf ⟨Af, cf, rfl, -, lf, bf⟩; have HFf := Lib.hid (Fr.of_below (S := fun _ => False) bf); have HLf := Lib.hid lf; clear lf bf)
                    | (at_builtin; refine wpList_append_row _ rfl (.tmp 126) (.tmp 133) 26 26 rfl w1.heap.size 5 i0 (.int .u8 0) 1 1 Tryd.underlying26 hi hz0 hz1 hz2 rfl (.slice A9 N9 c9) N9 (bytesV (wordI ++ fanB (idsP s) ++ joinI (idsP s) ++ smB s ++ atB (s.take k))) rfl ((HO9.out.fr HFf.out).at HN9.out) (.slice Af 4 cf) 4 (bytesV (hiB x 4 4)) rfl (Lies.srcB HLf.out (hiB_length x 4 4) cf) (by unfold maxLen; omega) (by omega) (by have := (HO9.out.2.trans HFf.out (fun _ _ e => e)).size; omega) ?_
                       intro v5 w5 o5 g5 a5
                       obtain ⟨A5, c5, hv5, -, hl5, ho5⟩ := (HO9.out.fr HFf.out).app HN9.out (hiB_length x 4 4) o5 g5
                       subst hv5
                       have HN5 := Lib.hid hl5
                       have HO5 := Lib.hid ho5
                       clear o5 g5 a5 hl5 ho5))
                  go_roundg (L - (k + 1))
                  case measure => omega
                  case rel => exact ⟨k + 1, A5, _, c5, rfl, by go_num, by omega, Nat.le_refl _, by omega, Lib.hid (by rw [HNX.out]; exact HN5.out), Lib.hid (by rw [HNX.out]; exact HO5.out)⟩
                · have hltz : ¬ ((k : Int) < L) := by omega
                  obtain rfl : L = k := by omega
                  have hn5 := HN9.out
                  have ho5 := HO9.out
                  rw [TK.out] at hn5 ho5
                  have hc5 := ho5.slice
                  have HN5 := Lib.hid hn5
                  have HO5 := Lib.hid ho5
                  have HC5 : Hid (N9 ≤ c9) := Lib.hid (by obtain ⟨A5, c5, hv5, hc6, -⟩ := hc5; injection hv5 with h1 h2 h3; rw [HN5.out, ← h3] at hc6; exact hc6)
                  clear hn5 ho5 hc5
                  go_wp2_with fail
                  go_meet
                  case rel => exact ⟨A9, N9, c9, rfl, by omega, HN5, HC5, HO5⟩
            case rest =>
              obtain ⟨A9, N9, c9, rfl, hN9, HN9, HC9, HO9⟩ := hcut
              obtain ⟨wz, rfl⟩ : ∃ wz, wz = wc := ⟨wc, rfl⟩
              have HFr := Lib.hid HO9.out.2
              have l1 : (loadCellsFrom ⟨w.heap.size, 0, none⟩ 0 n32 #[]).run Tryd.prog wz = .ok co wz := load_wholeQ (HO.out.fr (HF1.out.trans HFr.out (fun _ _ e => e)) (fun e => e)) n32 (by rw [HN32.out, HOS.out])
              have HBX := Lib.hid (HBY.out wz)
              go_step
              go_wp2_with (first
                | (go_at_call 28; refine HBX.out.mono ?_; rintro e wf ⟨vf, rfl, of5, bf⟩; obtain ⟨Af, cf, hvf, -, -⟩ := own_slice of5; rw [idL_len] at hvf; subst hvf; have HFf := Lib.hid (Fr.of_below (S := fun _ => False) bf); have HLf := Lib.hid (Lies.of_own of5); clear of5 bf)
                | (at_builtin; refine wpList_append_row _ rfl (.tmp 135) (.tmp 137) 26 26 rfl w1.heap.size 5 i0 (.int .u8 0) 1 1 Tryd.underlying26 hi hz0 hz1 hz2 rfl (.slice A9 N9 c9) N9 (bytesV (wordI ++ fanB (idsP s) ++ joinI (idsP s) ++ smB s ++ atB s)) rfl ((HO9.out.fr HFf.out).at HN9.out) (.slice Af 32 cf) 32 (bytesV (idL of)) rfl (Lies.srcB HLf.out (idL_len of) cf) (by unfold maxLen; omega) (by omega) (by have := (HO9.out.2.trans HFf.out (fun _ _ e => e)).size; omega) ?_
                   intro v5 w5 o5 g5 a5
                   obtain ⟨A5, c5, hv5, hc5, hl5, ho5⟩ := (HO9.out.fr HFf.out).app HN9.out (idL_len of) o5 g5
                   subst hv5
                   have HN5 := Lib.hid hl5
                   have HO5 := Lib.hid ho5
                   have HC5 := Lib.hid hc5
                   have HL5 := Lib.hid (Lies.of_own o5)
                   clear o5 g5 a5 hl5 ho5 hc5)
                | (go_at_call 29; refine (HCL.out w5 A5 c5 (N9 + 32) (wordI ++ fanB (idsP s) ++ joinI (idsP s) ++ smB s ++ atB s ++ idL of) HN5.out HC5.out (by omega) (by have := HL5.out; rw [← bytesV_append] at this; exact this)).mono ?_; rintro e w6 ⟨v6, rfl, o6, b6⟩; have HO6 := Lib.hid o6; have HB6 := Lib.hid b6; clear o6 b6))
              go_ret2
              have hfin := (HF0.out.trans HF1.out (fun _ _ e => e)).trans HO5.out.2 (fun _ _ e => e)
              refine ⟨_, by rw [HEd.out, HE0.out]; rfl, ?_, hfin.then_below HB6.out⟩
              rw [HBB.out]
              exact own_weaken HO6.out hfin.size
end Go.Proofs.YtgbhdjncccmabaaDoor
/- What is proved: the walk of the law IndexMakes. Conditions: the arguments' cells are there; the table of the sums lies as its text lays it. -/
namespace Go.Proofs.YtgbhdjncccmabaaDoor
open Go.RowKit
set_option linter.unusedVariables false

set_option maxHeartbeats 6400000 in
set_option maxRecDepth 100000 in
theorem makes_walk (A : Option Addr) (cap : Nat) (ps : List Pl) (of : Nat) (hok : ∀ p ∈ ps, p.Ok) (hof : of < big) (w : World) (h : Lies w A (flatP ps)) (ht : Tab w) :
    Calls Tryd.prog 3 #[.slice A ps.length cap, .agg (idC (dgt of))] w fun e w' => e = .returned (.bool true) ∧ Fr (fun _ => False) w w' := by
  obtain ⟨w0, hw0⟩ : ∃ w0, w.alloc (.cells (idC (dgt of)) 24) = w0 := ⟨_, rfl⟩
  have hF0 : Fr (fun _ => False) w w0 := by subst hw0; exact (Fr.refl _ w).alloc _
  have hO : Whole w0 w.heap.size 24 (idC (dgt of)) := by subst hw0; exact Whole.new w 24 _
  have HF0 := Lib.hid hF0
  have HWK := Lib.hid (fun w' (f : Fr (fun _ => False) w w') => Iworks_any w' (ht.fr f (fun e => e)))
  by_cases hbig : 100 < ps.length
  · obtain ⟨L, hL⟩ : ∃ L, ps.length = L := ⟨_, rfl⟩
    obtain ⟨co, hco⟩ : ∃ c, idC (dgt of) = c := ⟨_, rfl⟩
    rw [hL] at hbig ⊢
    rw [hco] at hw0 ⊢
    clear hF0 hO hL hco hok hof h ht
    have h1z : (100 : Int) < (L : Int) := by omega
    clear hbig
    go_enter Tryd.func3, Tryd.ntmps3
    go_wp2_with (go_at_call 7; refine (HWK.out _ HF0.out).mono ?_; rintro e w9 ⟨rfl, f9⟩; have HF9 := Lib.hid (HF0.out.trans f9 (fun _ _ e => e)); clear f9)
    go_ret
    exact ⟨rfl, HF9.out⟩
  · have HO := Lib.hid hO
    have HMK := Lib.hid (IMake_any A cap ps of (by omega) hok w0 (h.fr hF0 (fun _ _ e => e)) (ht.fr hF0 (fun e => e)))
    have HPL := Lib.hid (fun w' (f : Fr (fun _ => False) w0 w') => Iplain_any A cap ps (by omega) w' ((h.fr hF0 (fun _ _ e => e)).fr f (fun _ _ e => e)))
    have HQM := Lib.hid (fun w' A' c' (hl : Lies w' A' (flatP ps)) => QIMake_any A' c' ps of (by omega) hok w' hl)
    have HSM := Lib.hid (fun w' A' c' B' d' (h1 : Lies w' A' (bytesV (mkB ps of))) (h2 : Lies w' B' (bytesV (mkB ps of))) => Same_any A' B' c' d' (mkB ps of) (mkB ps of) w' h1 h2)
    rw [show (mkB ps of == mkB ps of) = true from by simp] at HSM
    unfold MkPost at HMK HQM
    have HOS := Lib.hid (idC_size (dgt of))
    obtain ⟨L, hL⟩ : ∃ L, ps.length = L := ⟨_, rfl⟩
    obtain ⟨E, hE⟩ : ∃ E, mkE ps = E := ⟨_, rfl⟩
    obtain ⟨F, hF⟩ : ∃ F, mkB ps of = F := ⟨_, rfl⟩
    obtain ⟨N, hN⟩ : ∃ N, F.length = N := ⟨_, rfl⟩
    obtain ⟨co, hco⟩ : ∃ c, idC (dgt of) = c := ⟨_, rfl⟩
    have HLn := Lib.hid hL
    rw [hE, hF, hN] at HMK HQM
    rw [hF, hN] at HSM
    rw [hL] at HMK HPL HQM hbig ⊢
    rw [hco] at hw0 HO HMK HQM HOS ⊢
    obtain ⟨T32, hT32⟩ : ∃ T : TypeId, T = 24 := ⟨_, rfl⟩
    obtain ⟨n32, hn32⟩ : ∃ n : Nat, n = 32 := ⟨_, rfl⟩
    have ag32 : ∀ w, (isAgg T32).run Tryd.prog w = .ok true w := by rw [hT32]; exact fun _ => by kernel_rfl
    have sz32 : ∀ w, (sizeOf T32).run Tryd.prog w = .ok n32 w := by rw [hT32, hn32]; exact fun _ => by kernel_rfl
    have HN32 := Lib.hid hn32
    have LO : Hid (∀ w', Fr (fun _ => False) w0 w' → (loadCellsFrom ⟨w.heap.size, 0, none⟩ 0 n32 #[]).run Tryd.prog w' = .ok co w') := Lib.hid (fun w' f => load_wholeQ (HO.out.fr f (fun e => e)) n32 (by rw [HN32.out, HOS.out]))
    have l0 := LO.out w0 (Fr.refl _ w0)
    have h1z : ¬ ((100 : Int) < (L : Int)) := by omega
    clear hn32 hF0 hO hbig hL hE hF hN hco hok hof h ht
    go_enter Tryd.func3, Tryd.ntmps3
    rw [show Op.load 24 (.tmp 3) = Op.load T32 (.tmp 3) by rw [hT32]]
    clear hT32
    go_upto_region 4 with (go_at_call 8; refine HMK.out.mono ?_; rintro e w2 ⟨v, rfl, o2, f2⟩; obtain ⟨A2, c2, hv2, -, -⟩ := own_slice o2; subst hv2; have HL2 := Lib.hid (Lies.of_own o2); have HF2 := Lib.hid f2; clear o2 f2)
    clear l0
    have l4 : ∀ q : Later w2, (loadCellsFrom ⟨w.heap.size, 0, none⟩ 0 n32 #[]).run Tryd.prog q.w' = .ok co q.w' := fun q => LO.out _ (HF2.out.trans q.fr (fun _ _ e => e))
    refine wp_region_held (S := fun w' => ∃ q : Later w2, w' = q.w') (by kernel_rfl) ?_
    change wpAnyH _ _ _ _ _ _ _ _ (World.drew w2)
    have HFd := Lib.hid (show Fr (fun _ => False) w2 (World.drew w2) from (Fr.refl _ w2).drew)
    obtain ⟨wd, hwd⟩ : ∃ wd, World.drew w2 = wd := ⟨_, rfl⟩
    rw [hwd] at HFd ⊢
    clear hwd
    have HSq := Lib.hid (show ∃ q : Later w2, wd = q.w' from ⟨⟨_, HFd.out⟩, rfl⟩)
    (
      refine wpAnyH_takeX (i := 0) (v := .slice A L cap) 20 rfl rfl (by kernel_rfl) (by kernel_rfl) (by kernel_rfl) (fun _ _ _ h => h) (.inl ⟨by rfl, ?_⟩) HSq.out ?_
      · rintro _ ⟨q, rfl⟩
        go_simp)
    (
      refine wpAnyH_takeX (i := 2) (v := .agg co) 22 rfl rfl (by kernel_rfl) (by kernel_rfl) (by kernel_rfl) (fun _ _ _ h => h) (.inl ⟨by rfl, ?_⟩) HSq.out ?_
      · rintro _ ⟨q, rfl⟩
        go_simp)
    clear l4 HSq
    (
      try simp only [List.setIfInBounds_toArray, List.set_cons_succ, List.set_cons_zero]
      refine wpAnyH_all (rs := [1]) (by kernel_rfl) (by simp) ?_
      intro i hi
      simp only [List.mem_cons, List.not_mem_nil, or_false] at hi
      subst hi)
    refine wpOp_step rfl (fun K hK => ?_)
    go_simp
    go_wp2_with (go_at_call 10; refine (HPL.out wd (HF2.out.trans HFd.out (fun _ _ e => e))).mono ?_; rintro e w3 ⟨v3, rfl, o3⟩; obtain ⟨A3, c3, hv3, -, -, -, l3⟩ := o3.shape; rw [HLn.out] at hv3; subst hv3; have HL3 := Lib.hid l3; have HF3 := Lib.hid (HFd.out.trans o3.2 (fun _ _ e => e)); clear o3 l3)
    refine ⟨⟨⟨_, HF3.out⟩, rfl⟩, ?_⟩
    (
      try simp only [List.setIfInBounds_toArray, List.set_cons_succ, List.set_cons_zero]
      refine wpAnyH_all (rs := [3]) (by kernel_rfl) (by simp) ?_
      intro i hi
      simp only [List.mem_cons, List.not_mem_nil, or_false] at hi
      subst hi)
    refine wpOp_step rfl (fun K hK => ?_)
    go_simp
    go_wp2_with (go_at_call 9; refine (HQM.out w3 A3 c3 HL3.out).mono ?_; rintro e w4 ⟨v4, rfl, o4, f4⟩; obtain ⟨A4, c4, hv4, -, -⟩ := own_slice o4; subst hv4; have HL4 := Lib.hid (Lies.of_own o4); have HF4 := Lib.hid (HF3.out.trans f4 (fun _ _ e => e)); clear o4 f4)
    refine ⟨⟨⟨_, HF4.out⟩, rfl⟩, ?_⟩
    have HSq := Lib.hid (show ∃ q : Later w2, w4 = q.w' from ⟨⟨_, HF4.out⟩, rfl⟩)
    (
      refine wpAnyH_takeX (i := 4) (v := .tuple #[.slice A4 N c4, .int .i64 E]) 19 rfl rfl (by kernel_rfl) (by kernel_rfl) (by kernel_rfl) (fun _ _ _ h => h) (.inl ⟨by rfl, ?_⟩) HSq.out ?_
      · rintro _ ⟨q, rfl⟩
        go_simp)
    (
      refine wpAnyH_takeX (i := 5) (v := .slice A4 N c4) 24 rfl rfl (by kernel_rfl) (by kernel_rfl) (by kernel_rfl) (fun _ _ _ h => h) (.inl ⟨by rfl, ?_⟩) HSq.out ?_
      · rintro _ ⟨q, rfl⟩
        go_simp)
    (
      refine wpAnyH_takeX (i := 6) (v := .int .i64 E) 25 rfl rfl (by kernel_rfl) (by kernel_rfl) (by kernel_rfl) (fun _ _ _ h => h) (.inl ⟨by rfl, ?_⟩) HSq.out ?_
      · rintro _ ⟨q, rfl⟩
        go_simp)
    (
      try simp only [List.setIfInBounds_toArray, List.set_cons_succ, List.set_cons_zero]
      refine wpAnyH_all (rs := [7]) (by kernel_rfl) (by simp) ?_
      intro i hi
      simp only [List.mem_cons, List.not_mem_nil, or_false] at hi
      subst hi)
    refine wpOp_step rfl (fun K hK => ?_)
    go_simp
    refine hK _ _ ⟨⟨⟨_, HF4.out⟩, rfl⟩, ?_⟩
    clear hK K
    (
      try simp only [List.setIfInBounds_toArray, List.set_cons_succ, List.set_cons_zero]
      refine wpAnyH_all (rs := [8]) (by kernel_rfl) (by simp) ?_
      intro i hi
      simp only [List.mem_cons, List.not_mem_nil, or_false] at hi
      subst hi)
    refine wpOp_step rfl (fun K hK => ?_)
    go_simp
    refine hK _ _ ⟨⟨⟨_, HF4.out⟩, rfl⟩, ?_⟩
    clear hK K
    refine wpAnyH_done (by kernel_rfl) ?_ _
    have HFw := Lib.hid ((HF0.out.trans HF2.out (fun _ _ e => e)).trans HF4.out (fun _ _ e => e))
    go_wp2_with (first
      | (go_at_call 11; refine (HSM.out w4 _ _ _ _ (HL2.out.fr HF4.out (fun _ _ e => e)) HL4.out).mono ?_; rintro e w10 ⟨rfl, rfl⟩)
      | (go_at_call 7; refine (HWK.out _ HFw.out).mono ?_; rintro e w11 ⟨rfl, f11⟩; have HF11 := Lib.hid (HFw.out.trans f11 (fun _ _ e => e)); clear f11))
    go_ret
    exact ⟨rfl, HF11.out⟩
end Go.Proofs.YtgbhdjncccmabaaDoor

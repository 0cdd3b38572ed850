/- What is proved: the bytes of an index of places that are in order, by the program. Conditions: the places' cells are there; at most 600, each from 0 to 2^20; the table of the sums lies as its text lays it. -/
import Derived.Test.YtgbhdjncccmabaaGreatDoorIxd
import Derived.Lib.SmallJoins
namespace Go.Proofs.YtgbhdjncccmabaaGreatDoor
open Go.RowKit
set_option linter.unusedVariables false

theorem size_pl : (Tryz.prog.info? 43).map (·.size) = some 34 := by kernel_rfl
def zeroPl : Array Value := (List.replicate 32 (Value.int .u8 0) ++ [Value.int .i64 0, Value.int .u32 0]).toArray
theorem zpl_size : zeroPl.size = 34 := rfl
theorem conv_u32 (n : Int) (h0 : 0 ≤ n) (h1 : n ≤ 1048576) : IntKind.u32.wrap n = n := by rw [IntKind.wrap_u32]; omega
theorem build_word (w : World) : (Instr.buildSlice 28 4 #[(0, .int .u8 73), (1, .int .u8 78), (2, .int .u8 68), (3, .int .u8 88)]).run Tryz.prog w = .ok (.slice (some ⟨w.heap.size, 0, none⟩) 4 4) (w.alloc (.cells #[.int .u8 73, .int .u8 78, .int .u8 68, .int .u8 88] 5)) := by kernel_rfl
theorem load_head {w : World} {g : Nat} {t : TypeId} {p : Pl} (h : Whole w g t p.cells) (n : Nat) (hn : n = 32) : (loadCellsFrom ⟨g, 0, none⟩ 0 n #[]).run Tryz.prog w = .ok (idC (dgt p.id)) w := by
  have := load_first h (Fr.refl _ w) (n := n) (by rw [plC_size]; omega)
  rwa [hn, plC_ids, Array.toArray_toList, ← hn] at this
theorem lies_below {w : World} {A : Option Addr} {xs : List Value} (h : Lies w A xs) (hn : 0 < xs.length) {ad : Addr} (e : A = some ad) : ad.block < w.heap.size := by
  rcases h with h0 | ⟨b, o, hA, hc⟩
  · rw [h0] at hn; simp at hn
  · rw [hA] at e; injection e with e; subst e
    exact World.block_lt_of_cell? w ⟨b, o + 0, none⟩ (hc 0 xs[0] (List.getElem?_eq_getElem hn))
/-- What a call of the sum tells of one part. -/
theorem SOf_one (w : World) (ht : Tab w) (A : Option Addr) (P : Option Addr) (l : List UInt8) (hl : l.length ≤ 1000000) (hp : Parts w P [l]) :
    Calls Tryz.prog 24 #[.slice P 1 1] w fun e w' => e = .returned (.agg (bytesV (sumL l)).toArray) ∧ Fr (fun _ => False) w w' := by
  have := SOf_any P 1 [l] w hp (by show 1 ≤ 9223372036854775807; decide) ht (by simp; omega)
  refine this.mono ?_
  rintro e w' ⟨rfl, b⟩
  refine ⟨?_, Fr.of_below b⟩
  rw [← sumV_sumL]; simp
theorem parts1 (w : World) (p : List UInt8) (A : Option Addr) (c N : Nat) (hp : p.length = N) (h1 : N ≤ c) (ha : Lies w A (bytesV p)) :
    Parts (w.alloc (.cells #[.slice A N c] 28)) (some ⟨w.heap.size, 0, none⟩) [p] := by
  refine .inr ⟨w.heap.size, 0, rfl, fun i q hi => ?_⟩
  have hf : Fr (fun _ => False) w (w.alloc (.cells #[.slice A N c] 28)) := (Fr.refl _ w).alloc _
  rw [Nat.zero_add, (Whole.new w 28 #[.slice A N c]).cell]
  match i, hi with
  | 0, hi => injection hi with hi; subst hi; exact ⟨_, _, by rw [hp]; rfl, by rw [hp]; exact h1, ha.fr hf (fun _ _ e => e)⟩

set_option maxHeartbeats 6400000 in
set_option maxRecDepth 100000 in
theorem Ilaid_any (A : Option Addr) (cap : Nat) (ps : List Pl) (of : Nat) (hn : ps.length ≤ 600) (hsm : ∀ p ∈ ps, 0 ≤ p.sm ∧ p.sm < 4294967296) (hpos : ∀ p ∈ ps, 0 ≤ p.pos ∧ p.pos ≤ 1048576) (w : World) (h : Lies w A (flatP ps)) (ht : Tab w) :
    Calls Tryz.prog 44 #[.slice A ps.length cap, .agg (idC (dgt of))] w (OwnPost w (fileI ps of)) := by
  unfold OwnPost
  obtain ⟨i0, hi, hz0, hz1, hz2⟩ := info_parts infoIDs
  obtain ⟨w0, hw0⟩ : ∃ w0, w.alloc (.cells (idC (dgt of)) 24) = w0 := ⟨_, rfl⟩
  have hF0 : Fr (fun _ => False) w w0 := by subst hw0; exact (Fr.refl _ w).alloc _
  have hs0 : w0.heap.size = w.heap.size + 1 := by subst hw0; simp
  have hO : Whole w0 w.heap.size 24 (idC (dgt of)) := by subst hw0; exact Whole.new w 24 _
  have HF0 := Lib.hid hF0
  have HS0 := Lib.hid hs0
  have HO := Lib.hid hO
  have HT0 := Lib.hid (ht.fr hF0 (fun e => e))
  have HLI := Lib.hid (h.fr hF0 (fun _ _ e => e))
  have HGT := Lib.hid (idsP_gt ps)
  have HJN := Lib.hid (laid_jrow (idsP ps))
  have HJL := Lib.hid (jrow_len (idsP ps))
  have HJ0 : Hid (jrow (idsP ps) 0 = List.replicate (32 * ps.length) (.int .u8 0)) := Lib.hid (by simp [jrow, joinI, bytesV, idsP_len])
  have HJA : Hid (jrow (idsP ps) ps.length = flatI (idsP ps)) := Lib.hid (by rw [← idsP_len ps, jrow_all, flatI_joinI])
  have HIL := Lib.hid (idsP_len ps)
  have HFL := Lib.hid (flatP_len ps)
  have HSP := Lib.hid (fun k (hk : k < ps.length) => some_pl hk)
  have HSM := Lib.hid (fun k (hk : k < ps.length) => hsm (ps[k]!) (by rw [getElem!_pos ps k hk]; exact List.getElem_mem hk))
  have HPO := Lib.hid (fun k (hk : k < ps.length) => hpos (ps[k]!) (by rw [getElem!_pos ps k hk]; exact List.getElem_mem hk))
  have HFT := Lib.hid (fanTo_succ (idsP ps))
  have HFTL := Lib.hid (fanTo_len (idsP ps))
  have HST := Lib.hid (smB_take ps)
  have HAT := Lib.hid (atB_take ps)
  have HSL := Lib.hid (fun k => smB_len (ps.take k))
  have HAL := Lib.hid (fun k => atB_len (ps.take k))
  have HFC := Lib.hid (fun k (hk : k < 256) => index_fan (fanN (idsP ps)) k hk)
  have HFN := Lib.hid (fanN_le (idsP ps))
  have HJI := Lib.hid (joinI_len (idsP ps))
  have HOF := Lib.hid (idL_len of)
  have HOL := Lib.hid (idL_cells of)
  obtain ⟨L, hL⟩ : ∃ L, ps.length = L := ⟨_, rfl⟩
  have HLn := Lib.hid hL
  obtain ⟨T32, hT32⟩ : ∃ T : TypeId, T = 24 := ⟨_, rfl⟩
  obtain ⟨n32, hn32⟩ : ∃ n : Nat, n = 32 := ⟨_, rfl⟩
  have ag32 : ∀ w, (isAgg T32).run Tryz.prog w = .ok true w := by rw [hT32]; exact fun _ => by kernel_rfl
  have sz32 : ∀ w, (sizeOf T32).run Tryz.prog w = .ok n32 w := by rw [hT32, hn32]; exact fun _ => by kernel_rfl
  have HN32 := Lib.hid hn32
  obtain ⟨T34, hT34⟩ : ∃ T : TypeId, T = 43 := ⟨_, rfl⟩
  obtain ⟨n34, hn34⟩ : ∃ n : Nat, n = 34 := ⟨_, rfl⟩
  have ag34 : ∀ w, (isAgg T34).run Tryz.prog w = .ok true w := by rw [hT34]; exact fun _ => by kernel_rfl
  have sz34 : ∀ w, (sizeOf T34).run Tryz.prog w = .ok n34 w := by rw [hT34, hn34]; exact fun _ => by kernel_rfl
  have HN34 := Lib.hid hn34
  rw [hL] at hn HJ0 HJA HIL HFL HSP HSM HPO HGT ⊢
  obtain ⟨co, hco⟩ : ∃ c, idC (dgt of) = c := ⟨_, rfl⟩
  rw [hco] at hw0 HO HOL ⊢
  clear h hL hn32 hn34 hF0 hs0 hO ht hsm hpos hco
  go_enter Tryz.func44, Tryz.ntmps44
  rw [show Op.load 43 (.tmp 24) = Op.load T34 (.tmp 24) by rw [hT34], show Op.load 43 (.tmp 56) = Op.load T34 (.tmp 56) by rw [hT34], show Op.load 43 (.tmp 67) = Op.load T34 (.tmp 67) by rw [hT34], show Op.load 24 (.tmp 28) = Op.load T32 (.tmp 28) by rw [hT32]]
  clear hT32 hT34
  go_wp2_with (at_make; refine wpList_make_full _ rfl _ _ 51 rfl w.heap.size 24 i0 (.agg zero32) 32 Tryz.underlying51 hi hz0 hz1 .i64 .i64 _ _ L rfl rfl rfl rfl (by rw [hz2]; omega) (by unfold maxLen; omega) (by have := HS0.out; omega) ?_; intro w1 ho1 hg1; rw [madeID] at ho1; have HW1 := Lib.hid (own_whole ho1).1; have HF1 := Lib.hid (show Fr (fun _ => False) w0 w1 from (Fr.refl _ w0).grown hg1 (fun _ e => by cases e)); clear ho1 hg1)
  obtain ⟨G, hG⟩ : ∃ G, w0.heap.size = G := ⟨_, rfl⟩
  try rw [hG]
  rw [hG] at HW1
  have HG := Lib.hid hG
  clear hG
  go_loopg [21] L (fun kx s wr => ∃ k : Nat, s = .int .i64 k ∧ k ≤ L ∧ L - k ≤ kx ∧ Whole wr G 24 (jrow (idsP ps) k).toArray ∧ Fr (fun j => j = G) w1 wr)
  case atStart => exact ⟨0, rfl, by omega, by omega, by rw [HJ0.out]; exact HW1.out, Fr.refl _ _⟩
  case round =>
    obtain ⟨k, rfl, hk, hkx, hg, hf⟩ := hrel
    obtain ⟨wo, rfl⟩ : ∃ wo, wo = wr := ⟨wr, rfl⟩
    have HFr := Lib.hid hf
    have HGk := Lib.hid hg
    clear hf hg
    have wk := wrap_nat k (by omega)
    by_cases hlt : k < L
    · have hltz : (k : Int) < L := by omega
      obtain ⟨b, o, hB⟩ := HLI.out.someP (by rw [HLn.out]; omega)
      subst hB
      have l1 : (loadCellsFrom ⟨b, o + k * 34, none⟩ 0 n34 #[]).run Tryz.prog wo = .ok (ps[k]!).cells wo :=
        load_pl ((HLI.out.fr HF1.out (fun _ _ e => e)).fr HFr.out (fun ad e1 e2 => by have := lies_below HLI.out (by rw [HFL.out]; omega) e1; have := HG.out; omega)) (HSP.out k hlt) (Fr.refl _ _) n34 HN34.out
      have HJk := Lib.hid (HJN.out k (by rw [HIL.out]; exact hlt))
      rw [HGT.out k hlt] at HJk
      have HJLk := Lib.hid (HJL.out k (by rw [HIL.out]; exact hk))
      rw [HIL.out] at HJLk
      obtain ⟨p, hp⟩ : ∃ p, ps[k]! = p := ⟨_, rfl⟩
      rw [hp] at l1 HJk
      have HLH := Lib.hid (fun (w : World) (g : Nat) (h : Whole w g 43 p.cells) => load_head h n32 HN32.out)
      have HPS := Lib.hid (plC_size p)
      have HPO1 := Lib.hid (plC_one p)
      have HCS := Lib.hid (idC_size (dgt p.id))
      have HCO := Lib.hid (idC_one (dgt p.id))
      obtain ⟨pc, hpc⟩ : ∃ c, p.cells = c := ⟨_, rfl⟩
      obtain ⟨ca, hca⟩ : ∃ c, idC (dgt p.id) = c := ⟨_, rfl⟩
      rw [hpc] at l1 HLH HPS HPO1
      rw [hca] at HLH HCS HCO HJk
      (
        obtain ⟨w1, hw1⟩ : ∃ w1, wo.alloc (.cells zeroPl 43) = w1 := ⟨_, rfl⟩
        have HZ := Lib.hid (show Whole w1 wo.heap.size 43 zeroPl from by subst hw1; exact Whole.new wo 43 zeroPl)
        have HF1 := Lib.hid (show Fr (fun _ => False) wo w1 from by subst hw1; exact (Fr.refl _ wo).alloc _)
        unfold zeroPl at hw1
        simp [List.replicate] at hw1)
      have HGk1 := Lib.hid (HGk.out.fr HF1.out (fun e => e))
      have hsz : wo.heap.size ≠ G := by have := HGk.out.lt; omega
      clear hp hpc hca
      go_wp2_with (first
        | (refine wpList_store_at rfl 43 _ _ rfl wo.heap.size 0 43 zeroPl pc rfl rfl HZ.out (by rw [HPS.out]; decide) (by rw [HPS.out]; exact size_pl) HPO1.out ?_; intro w3 hw3 hf3; rw [laidAt_all _ _ (by rw [HPS.out]; rfl)] at hw3; have l2 := HLH.out w3 _ hw3; have HG3 := Lib.hid (HGk1.out.fr hf3 (fun e => hsz e.symm)); have HF3 := Lib.hid ((HFr.out.trans HF1.out (fun _ _ e => e.elim)).trans hf3 (fun i hi e => by have := HFr.out.size; omega)); clear hw3 hf3)
        | (refine wpList_store_at rfl 24 _ _ rfl G (k * 32) 24 _ ca rfl rfl HG3.out (by rw [HCS.out, List.size_toArray, HJLk.out]; omega) (by rw [HCS.out]; exact size_IDs) HCO.out ?_; intro w4 hw4 hf4; rw [HJk.out] at hw4; have HG4 := Lib.hid hw4; have HF4 := Lib.hid (HF3.out.trans hf4 (fun _ _ e => e)); clear hw4 hf4))
      go_roundg (L - (k + 1))
      case measure => omega
      case rel => exact ⟨k + 1, by go_num, by omega, Nat.le_refl _, HG4.out, HF4.out⟩
    · have hltz : ¬ ((k : Int) < L) := by omega
      obtain rfl : L = k := by omega
      have hGL : Lies wo (some ⟨G, 0, none⟩) (flatI (idsP ps)) := by rw [← HJA.out]; exact HGk.out.list
      have HGL := Lib.hid hGL
      have hFb : Fr (fun _ => False) w0 wo := HF1.out.trans HFr.out (fun i hi e => by have := HG.out; omega)
      have HFb := Lib.hid hFb
      have HLB := Lib.hid (HLI.out.fr hFb (fun _ _ e => e))
      have HOB := Lib.hid (HO.out.fr hFb (fun e => e))
      have HTB := Lib.hid (HT0.out.fr hFb (fun e => e))
      obtain ⟨wn, hwn⟩ : ∃ wn, wo.alloc (.cells #[.slice none 0 0] 153) = wn := ⟨_, rfl⟩
      have HP0 := Lib.hid (show Wp wo wn wo.heap.size (.slice none 0 0) [] from by subst hwn; exact Wp.new wo)
      have hcv : (convert 28 28 (.slice (some ⟨wn.heap.size, 0, none⟩) 4 4)).run Tryz.prog (wn.alloc (.cells #[.int .u8 73, .int .u8 78, .int .u8 68, .int .u8 88] 5)) = .ok (.slice (some ⟨wn.heap.size, 0, none⟩) 4 4) (wn.alloc (.cells #[.int .u8 73, .int .u8 78, .int .u8 68, .int .u8 88] 5 (4, 5))) :=
        Lib.run_convert_bytes_const (P := Tryz.prog) wn 28 5 #[.int .u8 73, .int .u8 78, .int .u8 68, .int .u8 88] 4 4 Tryz.underlying28 Tryz.underlying5
      have hll : Lies (wn.alloc (.cells #[.int .u8 73, .int .u8 78, .int .u8 68, .int .u8 88] 5 (4, 5))) (some ⟨wn.heap.size, 0, none⟩) (bytesV [73, 78, 68, 88]) :=
        .inr ⟨wn.heap.size, 0, rfl, fun j u hu => by
          rw [Nat.zero_add]
          have e : (wn.alloc (.cells #[.int .u8 73, .int .u8 78, .int .u8 68, .int .u8 88] 5 (4, 5))).cell? ⟨wn.heap.size, j, none⟩ = (#[.int .u8 73, .int .u8 78, .int .u8 68, .int .u8 88] : Array Value)[j]? := cell_of_row _ _ _ _ _ _ (heap_alloc_new wn _)
          rw [e, ← Array.getElem?_toList]; exact hu⟩
      obtain ⟨wc, hwc⟩ : ∃ wc, wn.alloc (.cells #[.int .u8 73, .int .u8 78, .int .u8 68, .int .u8 88] 5 (4, 5)) = wc := ⟨_, rfl⟩
      have HFc := Lib.hid (show Fr (fun _ => False) wn wc by subst hwc; exact (Fr.refl _ _).alloc _)
      rw [hwc] at hll hcv
      have HR := Lib.hid (WRaw_wp wo wc wo.heap.size (.slice none 0 0) [] [73, 78, 68, 88] (some ⟨wn.heap.size, 0, none⟩) 4 4 rfl (HP0.out.frF HFc.out) hll (by simp))
      rw [List.nil_append] at HR
      have HNW := Lib.hid (fun w => NewWriter_any w)
      clear hGL hFb hll hwc
      obtain ⟨g, hg⟩ : ∃ g, wo.heap.size = g := ⟨_, rfl⟩
      rw [hg] at HP0 HR
      have Hgs := Lib.hid hg
      go_upto_region 8 with (go_at_call 65; refine (HNW.out _).mono ?_; rintro e w' ⟨rfl, hw⟩; rw [hwn] at hw; subst hw)
      try rw [hg]
      clear hg hwn
      go_upto_region 9 with (go_at_call 66; refine HR.out.mono ?_; rintro e w' ⟨rfl, v2, hp2⟩; have HP2 := Lib.hid hp2; clear hp2)
      clear hcv
      have HU := Lib.hid (WU32_wp wo _ g v2 [73, 78, 68, 88] 1 HP2.out (by omega) (by omega) (by simp))
      go_upto_region 10 with (go_at_call 67; refine HU.out.mono ?_; rintro e w' ⟨rfl, v3, hp3⟩; have HP3 := Lib.hid hp3; clear hp3)
      rw [show ([73, 78, 68, 88] : List UInt8) ++ hiB 1 4 4 = wordI from rfl] at HP3
      have HFO := Lib.hid (show ∀ w' (h : Lies w' (some ⟨G, 0, none⟩) (flatI (idsP ps))), Calls Tryz.prog 28 #[.slice (some ⟨G, 0, none⟩) L L] w' fun e w'' => e = .returned (.agg (fanI (idsP ps))) ∧ Fr (fun _ => False) w' w'' from fun w' h => by
        have := IfanOf_any (some ⟨G, 0, none⟩) L (idsP ps) (by rw [HIL.out]; omega) w' h
        rwa [HIL.out] at this)
      have HJO := Lib.hid (show ∀ w' (h : Lies w' (some ⟨G, 0, none⟩) (flatI (idsP ps))), Calls Tryz.prog 68 #[.slice (some ⟨G, 0, none⟩) L L] w' (OwnPost w' (joinI (idsP ps))) from fun w' h => by
        have := Ijoined_any (some ⟨G, 0, none⟩) L (idsP ps) (by rw [HIL.out]; omega) w' h
        rwa [HIL.out] at this)
      unfold OwnPost at HJO
      rw [HJI.out, HIL.out] at HJO
      have HFX : Hid (∀ k : Nat, k < 256 → ∀ w, (Instr.index 72 (.agg (fanI (idsP ps))) (.int .i64 k)).run Tryz.prog w = .ok (.int .u32 (fanN (idsP ps) k : Nat)) w) := HFC
      obtain ⟨V, hV⟩ : ∃ V, fanI (idsP ps) = V := ⟨_, rfl⟩
      rw [hV] at HFX HFO
      clear hV
      go_wp2_with (go_at_call 28; refine (HFO.out _ (HGL.out.fr HP3.out.fr (fun _ _ e => e))).mono ?_; rintro e w' ⟨rfl, f4⟩; have HP4 := Lib.hid (HP3.out.frF f4); clear f4)
      go_loopg [41] 256 (fun kx s wr => ∃ (k : Nat) (v : Value), s = .int .i64 k ∧ k ≤ 256 ∧ 256 - k ≤ kx ∧ Wp wo wr g v (wordI ++ fanTo (idsP ps) k))
      case atStart => exact ⟨0, _, rfl, by omega, by omega, by simpa [fanTo] using HP4.out⟩
      case round =>
        obtain ⟨k, v, rfl, hk2, hkx2, hp⟩ := hrel
        have HP5 := Lib.hid hp
        clear hp
        have wk2 := wrap_nat k (by omega)
        by_cases hlt2 : k < 256
        · have hltz2 : (k : Int) < 256 := by omega
          have hix := HFX.out k hlt2
          have hl := HFN.out k
          rw [HIL.out] at hl
          have hft := HFT.out k
          obtain ⟨X, hX⟩ : ∃ X, fanN (idsP ps) k = X := ⟨_, rfl⟩
          rw [hX] at hix hl hft
          have HFTk := Lib.hid hft
          have HU2 := Lib.hid (WU32_wp wo _ g v (wordI ++ fanTo (idsP ps) k) X HP5.out (by omega) (by omega) (by rw [List.length_append, wordI_len, HFTL.out]; omega))
          clear hX hft
          go_wp2_with (go_at_call 67; refine HU2.out.mono ?_; rintro e w' ⟨rfl, v6, hp6⟩; have HP6 := Lib.hid hp6; clear hp6)
          go_roundg (256 - (k + 1))
          case measure => omega
          case rel => exact ⟨k + 1, v6, by go_num, by omega, Nat.le_refl _, by have := HP6.out; rw [List.append_assoc, ← HFTk.out] at this; exact this⟩
        · have hltz2 : ¬ ((k : Int) < 256) := by omega
          obtain rfl : 256 = k := by omega
          rw [show fanTo (idsP ps) 256 = fanB (idsP ps) from rfl] at HP5
          have HRJ := Lib.hid (fun w' (v : Value) (h : Wp wo w' g v (wordI ++ fanB (idsP ps))) A c (hl : Lies w' A (bytesV (joinI (idsP ps)))) => WRaw_wp wo w' g v (wordI ++ fanB (idsP ps)) (joinI (idsP ps)) A (32 * L) c (by rw [HJI.out, HIL.out]) h hl (by rw [List.length_append, wordI_len, fanB_len, HJI.out, HIL.out]; omega))
          go_wp2_with (first
            | (go_at_call 68; refine (HJO.out _ (HGL.out.fr HP5.out.fr (fun _ _ e => e))).mono ?_; rintro e w' ⟨vj, rfl, oj, bj⟩; obtain ⟨Aj, cj, hvj, -, -⟩ := own_slice oj; subst hvj; have HLJ := Lib.hid (Lies.of_own oj); have HPJ := Lib.hid (HP5.out.frF (Fr.of_below bj)); clear oj bj)
            | (go_at_call 66; refine (HRJ.out _ _ HPJ.out _ _ HLJ.out).mono ?_; rintro e w' ⟨rfl, v7, hp7⟩; have HP7 := Lib.hid hp7; clear hp7))
          have HY : Hid ((wordI ++ fanB (idsP ps) ++ joinI (idsP ps)).length = 1032 + 32 * L) := Lib.hid (by simp only [List.length_append, wordI_len, fanB_len, HJI.out, HIL.out])
          obtain ⟨Y, hY⟩ : ∃ Y, wordI ++ fanB (idsP ps) ++ joinI (idsP ps) = Y := ⟨_, rfl⟩
          rw [hY] at HP7 HY
          have HYd := Lib.hid hY
          clear hY
          go_loopg [54] L (fun kx s wr => ∃ (k : Nat) (v : Value), s = .int .i64 k ∧ k ≤ L ∧ L - k ≤ kx ∧ Wp wo wr g v (Y ++ smB (ps.take k)))
          case atStart => exact ⟨0, _, rfl, by omega, by omega, by simpa [smB] using HP7.out⟩
          case round =>
            obtain ⟨k, v, rfl, hk3, hkx3, hp⟩ := hrel
            obtain ⟨wq, rfl⟩ : ∃ wq, wq = wr := ⟨wr, rfl⟩
            have HP8 := Lib.hid hp
            clear hp
            have wk3 := wrap_nat k (by omega)
            by_cases hlt3 : k < L
            · have hltz3 : (k : Int) < L := by omega
              obtain ⟨b, o, hB⟩ := HLB.out.someP (by rw [HLn.out]; omega)
              subst hB
              have l1 : (loadCellsFrom ⟨b, o + k * 34, none⟩ 0 n34 #[]).run Tryz.prog wq = .ok (ps[k]!).cells wq := load_pl HLB.out (HSP.out k hlt3) HP8.out.fr n34 HN34.out
              have HSk := Lib.hid (HST.out k (by rw [HLn.out]; exact hlt3))
              have HSLk := HSL.out k
              rw [List.length_take] at HSLk
              have hs := HSM.out k hlt3
              obtain ⟨p, hp⟩ : ∃ p, ps[k]! = p := ⟨_, rfl⟩
              rw [hp] at l1 HSk hs
              have HPS := Lib.hid (plC_size p)
              have HPO1 := Lib.hid (plC_one p)
              have HPX := Lib.hid (plC_sm p)
              obtain ⟨pc, hpc⟩ : ∃ c, p.cells = c := ⟨_, rfl⟩
              obtain ⟨S, hS⟩ : ∃ S, p.sm = S := ⟨_, rfl⟩
              rw [hpc] at l1 HPS HPO1 HPX
              rw [hS] at HPX HSk hs
              (
                obtain ⟨w1, hw1⟩ : ∃ w1, wq.alloc (.cells zeroPl 43) = w1 := ⟨_, rfl⟩
                have HZ := Lib.hid (show Whole w1 wq.heap.size 43 zeroPl from by subst hw1; exact Whole.new wq 43 zeroPl)
                have HF1 := Lib.hid (show Fr (fun _ => False) wq w1 from by subst hw1; exact (Fr.refl _ wq).alloc _)
                unfold zeroPl at hw1
                simp [List.replicate] at hw1)
              have HU3 := Lib.hid (fun w' (f : Fr (fun _ => False) wq w') => WU32_wp wo w' g v (Y ++ smB (ps.take k)) S (HP8.out.frF f) (by omega) (by omega) (by rw [List.length_append, HY.out, HSLk]; omega))
              clear hp hpc hS hs HSLk
              go_wp2_with (first
                | (refine wpList_store_at rfl 43 _ _ rfl wq.heap.size 0 43 zeroPl pc rfl rfl HZ.out (by rw [HPS.out]; decide) (by rw [HPS.out]; exact size_pl) HPO1.out ?_; intro w3 hw3 hf3; rw [laidAt_all _ _ (by rw [HPS.out]; rfl)] at hw3; have c33 : w3.cell? ⟨wq.heap.size, 33, none⟩ = some (.int .u32 S) := (by rw [hw3.cell]; exact HPX.out); have HF3 := Lib.hid (HF1.out.trans hf3 (fun i hi e => by omega)); clear hw3 hf3)
                | (go_at_call 67; refine (HU3.out _ HF3.out).mono ?_; rintro e w' ⟨rfl, v9, hp9⟩; have HP9 := Lib.hid hp9; clear hp9))
              go_roundg (L - (k + 1))
              case measure => omega
              case rel => exact ⟨k + 1, v9, by go_num, by omega, Nat.le_refl _, by have := HP9.out; rw [List.append_assoc, ← HSk.out] at this; exact this⟩
            · have hltz3 : ¬ ((k : Int) < L) := by omega
              obtain rfl : L = k := by omega
              have HP8b : Hid (Wp wo wq g v (Y ++ smB ps)) := Lib.hid (by have := HP8.out; rwa [List.take_of_length_le (by rw [HLn.out]; exact Nat.le_refl _)] at this)
              have HSL2 : Hid ((Y ++ smB ps).length = 1032 + 36 * L) := Lib.hid (by rw [List.length_append, HY.out, smB_len, HLn.out]; omega)
              obtain ⟨Z, hZ⟩ : ∃ Z, Y ++ smB ps = Z := ⟨_, rfl⟩
              rw [hZ] at HP8b HSL2
              have HZd := Lib.hid hZ
              clear hZ
              go_wp2_with fail
              go_loopg [65] L (fun kx s wr => ∃ (k : Nat) (v : Value), s = .int .i64 k ∧ k ≤ L ∧ L - k ≤ kx ∧ Wp wo wr g v (Z ++ atB (ps.take k)))
              case atStart => exact ⟨0, _, rfl, by omega, by omega, by simpa [atB] using HP8b.out⟩
              case round =>
                obtain ⟨k, v, rfl, hk4, hkx4, hp⟩ := hrel
                obtain ⟨wq, rfl⟩ : ∃ wq, wq = wr := ⟨wr, rfl⟩
                have HP10 := Lib.hid hp
                clear hp
                have wk4 := wrap_nat k (by omega)
                by_cases hlt4 : k < L
                · have hltz4 : (k : Int) < L := by omega
                  obtain ⟨b, o, hB⟩ := HLB.out.someP (by rw [HLn.out]; omega)
                  subst hB
                  have l1 : (loadCellsFrom ⟨b, o + k * 34, none⟩ 0 n34 #[]).run Tryz.prog wq = .ok (ps[k]!).cells wq := load_pl HLB.out (HSP.out k hlt4) HP10.out.fr n34 HN34.out
                  have HAk := Lib.hid (HAT.out k (by rw [HLn.out]; exact hlt4))
                  have HALk := HAL.out k
                  rw [List.length_take] at HALk
                  have hs := HPO.out k hlt4
                  obtain ⟨p, hp⟩ : ∃ p, ps[k]! = p := ⟨_, rfl⟩
                  rw [hp] at l1 HAk hs
                  have HPS := Lib.hid (plC_size p)
                  have HPO1 := Lib.hid (plC_one p)
                  have HPX := Lib.hid (plC_pos p)
                  obtain ⟨pc, hpc⟩ : ∃ c, p.cells = c := ⟨_, rfl⟩
                  obtain ⟨S, hS⟩ : ∃ S, p.pos = S := ⟨_, rfl⟩
                  rw [hpc] at l1 HPS HPO1 HPX
                  rw [hS] at HPX HAk hs
                  have hcu := conv_u32 S hs.1 hs.2
                  (
                    obtain ⟨w1, hw1⟩ : ∃ w1, wq.alloc (.cells zeroPl 43) = w1 := ⟨_, rfl⟩
                    have HZ := Lib.hid (show Whole w1 wq.heap.size 43 zeroPl from by subst hw1; exact Whole.new wq 43 zeroPl)
                    have HF1 := Lib.hid (show Fr (fun _ => False) wq w1 from by subst hw1; exact (Fr.refl _ wq).alloc _)
                    unfold zeroPl at hw1
                    simp [List.replicate] at hw1)
                  have HU4 := Lib.hid (fun w' (f : Fr (fun _ => False) wq w') => WU32_wp wo w' g v (Z ++ atB (ps.take k)) S (HP10.out.frF f) (by omega) (by omega) (by rw [List.length_append, HSL2.out, HALk]; omega))
                  clear hp hpc hS hs HALk
                  go_wp2_with (first
                    | (refine wpList_store_at rfl 43 _ _ rfl wq.heap.size 0 43 zeroPl pc rfl rfl HZ.out (by rw [HPS.out]; decide) (by rw [HPS.out]; exact size_pl) HPO1.out ?_; intro w3 hw3 hf3; rw [laidAt_all _ _ (by rw [HPS.out]; rfl)] at hw3; have c32 : w3.cell? ⟨wq.heap.size, 32, none⟩ = some (.int .i64 S) := (by rw [hw3.cell]; exact HPX.out); have HF3 := Lib.hid (HF1.out.trans hf3 (fun i hi e => by omega)); clear hw3 hf3)
                    | (go_at_call 67; refine (HU4.out _ HF3.out).mono ?_; rintro e w' ⟨rfl, v9, hp9⟩; have HP9 := Lib.hid hp9; clear hp9))
                  go_roundg (L - (k + 1))
                  case measure => omega
                  case rel => exact ⟨k + 1, v9, by go_num, by omega, Nat.le_refl _, by have := HP9.out; rw [List.append_assoc, ← HAk.out] at this; exact this⟩
                · have hltz4 : ¬ ((k : Int) < L) := by omega
                  obtain rfl : L = k := by omega
                  have HQ1 : Hid (Wp wo wq g v (Z ++ atB ps)) := Lib.hid (by have := HP10.out; rwa [List.take_of_length_le (by rw [HLn.out]; exact Nat.le_refl _)] at this)
                  have HL1 : Hid ((Z ++ atB ps).length = 1032 + 40 * L) := Lib.hid (by rw [List.length_append, HSL2.out, atB_len, HLn.out]; omega)
                  have HBd : Hid (Z ++ atB ps ++ idL of = bodyI ps of) := Lib.hid (by rw [← HZd.out, ← HYd.out, bodyI])
                  have HB1 := Lib.hid (bodyI_len ps of)
                  rw [HLn.out] at HB1
                  have hfile : fileI ps of = bodyI ps of ++ sumL (bodyI ps of) := rfl
                  have hfl := fileI_len ps of
                  rw [HLn.out] at hfl
                  have HSB := Lib.hid (sumL_len (bodyI ps of))
                  obtain ⟨U, hU⟩ : ∃ U, Z ++ atB ps = U := ⟨_, rfl⟩
                  obtain ⟨B, hB⟩ : ∃ B, bodyI ps of = B := ⟨_, rfl⟩
                  rw [hU] at HQ1 HL1 HBd
                  rw [hB] at HBd HB1 HSB hfile
                  have HFile := Lib.hid hfile
                  have HFl := Lib.hid hfl
                  obtain ⟨F, hF⟩ : ∃ F, fileI ps of = F := ⟨_, rfl⟩
                  rw [hF] at HFile HFl
                  have HFd := Lib.hid hF
                  have i3 := fun (g : Nat) w => slice_IDall g w
                  have HLO := Lib.hid (show Lies wq (some ⟨w.heap.size, 0, none⟩) (bytesV (idL of)) from by rw [← HOL.out]; exact (HOB.out.fr HQ1.out.fr (fun e => e)).lies)
                  have HRO := Lib.hid (WRaw_wp wo wq g v U (idL of) (some ⟨w.heap.size, 0, none⟩) 32 32 HOF.out HQ1.out HLO.out (by rw [HL1.out, HOF.out]; omega))
                  rw [HBd.out] at HRO
                  have HBY := Lib.hid (fun w' (v : Value) (h : Wp wo w' g v B) => WBytes_wp wo w' g v B h (by rw [HB1.out]; omega))
                  unfold OwnPost at HBY
                  rw [HB1.out] at HBY
                  have HSO := Lib.hid (fun w' (f : Fr (fun _ => False) wo w') P (hp : Parts w' P [B]) => SOf_one w' (HTB.out.fr f (fun e => e)) none P B (by rw [HB1.out]; omega) hp)
                  have HSC := Lib.hid (show (bytesV (sumL B)).toArray.size = 32 from by rw [List.size_toArray, bytesV_length, HSB.out])
                  have HSOn := Lib.hid (show (bytesV (sumL B)).toArray.all (·.oneCell') = true from Array.all_eq_true_iff_forall_mem.2 (fun u hu => bytesV_one (sumL B) u (by simpa using hu)))
                  obtain ⟨SV, hSV⟩ : ∃ SV, (bytesV (sumL B)).toArray = SV := ⟨_, rfl⟩
                  rw [hSV] at HSO HSC HSOn
                  have HSV := Lib.hid hSV
                  have HRS := Lib.hid (fun w' (v : Value) (h : Wp wo w' g v B) A (hl : Lies w' A (bytesV (sumL B))) => WRaw_wp wo w' g v B (sumL B) A 32 32 HSB.out h hl (by rw [HB1.out, HSB.out]; omega))
                  rw [← HFile.out] at HRS
                  have HBF := Lib.hid (fun w' (v : Value) (h : Wp wo w' g v F) => WBytes_wp wo w' g v F h (by rw [HFl.out]; omega))
                  unfold OwnPost at HBF
                  clear hU hB hF hSV hfile hfl
                  go_upto_region 27 with (go_at_call 66; refine HRO.out.mono ?_; rintro e wa ⟨rfl, va, hpa⟩; have HPa := Lib.hid hpa; clear hpa)
                  go_upto_region 28 with (first
                    | (go_at_call 69; refine (HBY.out _ _ HPa.out).mono ?_; rintro e wb ⟨vb, rfl, ob, bb⟩; obtain ⟨Ab, cb, hvb, hkb, -⟩ := own_slice ob; subst hvb; have HLb := Lib.hid (Lies.of_own ob); have HKb := Lib.hid hkb; have HPb := Lib.hid (HPa.out.frF (Fr.of_below bb)); clear ob bb hkb)
                    | (go_at_call 24; refine (HSO.out _ (HPb.out.fr.alloc _) _ (parts1 wb B Ab cb (1064 + 40 * L) HB1.out HKb.out HLb.out)).mono ?_; rintro e ws ⟨rfl, fs⟩; have HPs := Lib.hid (HPb.out.frF (((Fr.refl (fun _ => False) wb).alloc (.cells #[.slice Ab (1064 + 40 * L) cb] 28)).trans fs (fun _ _ e => e))); clear fs)
                    | (refine wpList_store_at rfl 24 _ _ rfl ws.heap.size 0 24 _ SV rfl rfl (Whole.new _ _ _) (by rw [HSC.out]; decide) (by rw [HSC.out]; exact size_IDs) HSOn.out ?_
                       intro w7 hw7 hf7
                       rw [laidAt_all _ _ (by rw [HSC.out]; rfl)] at hw7
                       have HPt := Lib.hid (HPs.out.frF (((Fr.refl (fun _ => False) ws).alloc _).trans hf7 (fun j hj e => by omega)))
                       have HL7 := Lib.hid (show Lies w7 (some ⟨ws.heap.size, 0, none⟩) (bytesV (sumL B)) from by rw [← HSV.out] at hw7; exact hw7.list)
                       clear hw7 hf7))
                  go_upto_region 29 with (go_at_call 66; refine (HRS.out _ _ HPt.out _ HL7.out).mono ?_; rintro e w8 ⟨rfl, v8, hp8⟩; have HPu := Lib.hid hp8; clear hp8)
                  go_wp2_with (go_at_call 69; refine (HBF.out _ _ HPu.out).mono ?_; rintro e w9 ⟨vz, rfl, oz, bz⟩; have HOZ := Lib.hid oz; have HFZ := Lib.hid (HPu.out.fr.then_below bz); have HSZ := Lib.hid (HPu.out.fr.size); clear oz bz)
                  go_ret
                  refine ⟨_, rfl, ?_, ?_⟩
                  · rw [HFd.out]
                    exact own_weaken HOZ.out (Nat.le_trans (Nat.le_trans (HF0.out.size) (HFb.out.size)) HSZ.out)
                  · exact ((HF0.out.trans HFb.out (fun _ _ e => e)).trans HFZ.out (fun _ _ e => e)).below (fun _ _ e => e)
end Go.Proofs.YtgbhdjncccmabaaGreatDoor

/- What is proved: which nodes have some marks and none of others, by the program. Conditions: the painting is the call's own; at most 128 nodes. -/
import Derived.Test.YtfpolfcmfdmifaaKh
namespace Go.Proofs.Ytfpolfcmfdmifaa
open Go.RowKit Go.Shelf
set_option linter.unusedVariables false

set_option maxHeartbeats 1600000 in
set_option maxRecDepth 100000 in
theorem Dawhich_any (w0 : World) (g gm : Nat) (gv : Value) (N : Nat) (M : Nat → Nat) (q : Value) (l : List Nat) (s n : Nat) (hs : s < 8) (hn : n < 8) (hN : N ≤ 128) (hM : Mk8 M) (w : World) (h : Pn w0 w g gm gv N M q l) :
    Calls Try.prog 34 #[.pointer (some ⟨g, 0, none⟩), .int .u8 s, .int .u8 n] w fun e w' => ∃ v, e = .returned v ∧ OwnN w0 w' v (selB (fun k => hasF (M k) s n) N) := by
  obtain ⟨i0, hi, hz0, hz1, hz2⟩ := info_parts info_int
  have c1 : w.cell? ⟨g, 1, none⟩ = some (.slice (some ⟨gm, 0, none⟩) N N) := by rw [h.pb.cell]; rfl
  have HMb := Lib.hid h.mb
  have HMm := Lib.hid (fun k => hM k)
  have HF0 := Lib.hid h.qb.2
  have HLm := Lib.hid h.lm
  have HS := Lib.hid (fun k => selB_succ (fun k => hasF (M k) s n) k)
  have HLen := Lib.hid (fun k => selB_len (fun k => hasF (M k) s n) k)
  clear h hM
  go_enter Try.func34, Try.ntmps34
  go_wp2
  go_loopg [7, 15] N (fun kx s7 s15 wr => ∃ (k : Nat) (v : Value), s15 = .int .i64 k ∧ v = s7 ∧ k ≤ N ∧ N - k ≤ kx ∧ Hid (OwnN w0 wr v (selB (fun k => hasF (M k) s n) k)) ∧ Hid (Whole wr gm 61 (rowC (markC M) N)))
  case atStart => exact ⟨0, .slice none 0 0, rfl, rfl, by omega, by omega, Lib.hid (OwnN.nil HF0.out), HMb⟩
  case round =>
    obtain ⟨k, v, rfl, rfl, hk, hkx, HO, HW⟩ := hrel
    obtain ⟨wo, rfl⟩ : ∃ wo, wo = wr := ⟨wr, rfl⟩
    by_cases hlt : k < N
    · have hltz : (k : Int) < N := by omega
      have cm := HW.out.rcell k hlt
      simp only [markC] at cm
      have HSk := Lib.hid (HS.out k)
      have hM8 := HMm.out k
      have hb := band hM8 hn
      have HHas := Lib.hid (fun w => Dahas_any (M k) s hM8 hs w)
      have hh : hasF (M k) s n = (decide (M k &&& s = s) && decide (M k &&& n = 0)) := rfl
      have hz : (((M k &&& n : Nat) : Int) == 0) = decide (M k &&& n = 0) := by rw [Bool.eq_iff_iff, beq_iff_eq, decide_eq_true_eq]; omega
      obtain ⟨y, hy⟩ : ∃ y, M k = y := ⟨_, rfl⟩
      rw [hy] at cm hb HHas hh hz
      simp only [hy] at HSk
      rw [hh] at HSk
      obtain ⟨b1, hb1⟩ : ∃ b, decide (y &&& s = s) = b := ⟨_, rfl⟩
      rw [hb1] at HHas HSk
      obtain ⟨r, hr⟩ : ∃ r, y &&& n = r := ⟨_, rfl⟩
      rw [hr] at hb hz HSk
      have hLk := HLen.out k
      clear hy hb1 hr hh hM8
      obtain ⟨w1, hw1⟩ : ∃ w1, wo.alloc (.cells #[.int .i64 (k : Nat)] 3) = w1 := ⟨_, rfl⟩
      have HF1 := Lib.hid (show Fr (fun _ => False) wo w1 from by subst hw1; exact (Fr.refl (fun _ => False) wo).alloc _)
      have HSrc := Lib.hid (show Src Try.prog 1 24 (.slice (some ⟨wo.heap.size, 0, none⟩) 1 1) 1 (nC [k]) w1 from by subst hw1; exact src_one Try.underlying24 wo _ rfl)
      have HO1 := Lib.hid (HO.out.fr HF1.out)
      have HW1 := Lib.hid (HW.out.fr HF1.out (fun e => e))
      obtain ⟨l, hl⟩ : ∃ l, selB (fun k => hasF (M k) s n) k = l := ⟨_, rfl⟩
      rw [hl] at HSk hLk HO1 HO
      have HBase : Hid (w0.heap.size ≤ w1.heap.size) := Lib.hid HO1.out.2.size
      clear hl
      cases b1
      · have HE : Hid (selB (fun k => hasF (M k) s n) (k + 1) = l) := Lib.hid (by rw [HSk.out]; simp)
        clear hz hb
        go_wp2_with (go_at_call 33; refine (HHas.out _).mono ?_; rintro e w' ⟨rfl, rfl⟩)
        go_roundg (N - (k + 1))
        case measure => omega
        case rel => exact ⟨k + 1, v, by go_num, rfl, by omega, Nat.le_refl _, Lib.hid (by rw [HE.out]; exact HO.out), HW⟩
      · by_cases e : r = 0
        · subst e
          have HE : Hid (selB (fun k => hasF (M k) s n) (k + 1) = l ++ [k]) := Lib.hid (by rw [HSk.out]; simp)
          clear hz
          go_wp2_with (first
            | (go_at_call 33; refine (HHas.out _).mono ?_; rintro e w' ⟨rfl, rfl⟩)
            | (at_builtin; refine wpList_append_row _ rfl (.tmp 29) (.tmp 31) 24 24 rfl w0.heap.size 3 i0 (.int .i64 0) 1 8 Try.underlying24 hi hz0 hz1 hz2 rfl v l.length (nC l) rfl HO1.out.1 (.slice (some ⟨wo.heap.size, 0, none⟩) 1 1) 1 (nC [k]) rfl HSrc.out (by unfold maxLen; omega) (by omega) HBase.out ?_
               intro v' w4 o1 g1 at1
               have HO4 := Lib.hid (HO1.out.grow o1 g1)
               have HW4 := Lib.hid (HW1.out.fr ((Fr.refl (fun k => v.ownBlock = some k) w1).grown g1 (fun k e _ => e)) (fun e => own_apart HO1.out.1 HW1.out (by decide) e))
               clear o1 g1 at1))
          go_roundg (N - (k + 1))
          case measure => omega
          case rel => exact ⟨k + 1, v', by go_num, rfl, by omega, Nat.le_refl _, Lib.hid (by rw [HE.out]; exact HO4.out), HW4⟩
        · have HE : Hid (selB (fun k => hasF (M k) s n) (k + 1) = l) := Lib.hid (by rw [HSk.out]; simp [e])
          have hzz : ((r : Int) == 0) = false := by simpa using e
          have hzd : ¬ ((r : Int) = 0) := by omega
          clear hz
          go_wp2_with (go_at_call 33; refine (HHas.out _).mono ?_; rintro e w' ⟨rfl, rfl⟩)
          go_roundg (N - (k + 1))
          case measure => omega
          case rel => exact ⟨k + 1, v, by go_num, rfl, by omega, Nat.le_refl _, Lib.hid (by rw [HE.out]; exact HO.out), HW⟩
    · obtain rfl : k = N := by omega
      go_wp2
      go_ret
      exact ⟨v, rfl, HO.out⟩
end Go.Proofs.Ytfpolfcmfdmifaa

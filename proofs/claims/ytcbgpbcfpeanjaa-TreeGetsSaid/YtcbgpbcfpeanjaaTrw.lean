/- What is proved: entries as bytes, by the document. Conditions: the list's cells are there. -/
import Derived.Test.YtcbgpbcfpeanjaaTrv
namespace Go.Proofs.Ytcbgpbcfpeanjaa
open Go.RowKit Go.Sort Go.Shelf
set_option linter.unusedVariables false

/-- A text's bytes, in a row of their own. -/
theorem conv_str (w : World) (l : List UInt8) : ∃ c w', (convert 9 30 (.string (strB l))).run Try.prog w = .ok (.slice (some ⟨w.heap.size, 0, none⟩) (strB l).size c) w' ∧ Fr (fun _ => False) w w' ∧ Lies w' (some ⟨w.heap.size, 0, none⟩) (bytesV l) := by
  refine ⟨_, _, run_bytes_of_string w 9 30 5 (strB l) Try.underlying9 Try.underlying30 Try.underlying5, (Fr.refl _ w).drew.alloc _, .inr ⟨w.heap.size, 0, rfl, fun j u hu => ?_⟩⟩
  show (w.drew.alloc _).cell? ⟨w.drew.heap.size, 0 + j, none⟩ = _
  rw [Nat.zero_add, cell_of_row _ _ _ _ _ _ (heap_alloc_new w.drew _)]
  have hj : j < l.length := by
    have := (List.getElem?_eq_some_iff.1 hu).1
    rwa [bytesV_length] at this
  rw [bytesRow, Array.getElem?_append_left (by simpa [strB] using hj), Array.getElem?_map]
  rw [bytesV, List.getElem?_map] at hu
  simpa [strB, byteV] using hu

set_option maxHeartbeats 6400000 in
theorem QtPut_any (A : Option Addr) (cap : Nat) (es : List Ent) (hn : es.length ≤ 100000) (w : World) (h : Lies w A (flatE es)) :
    Calls Try.prog 15 #[.slice A es.length cap] w fun e w' => ∃ v, e = .returned (.tuple #[v, .int .i64 (chk es)]) ∧ OwnB w w' v (putB es) := by
  have HLI := Lib.hid h
  have hc := Lib.hid (QtCheck_any A cap es hn w h)
  have HP1 : Hid (chk es ≠ 0 → putB es = []) := Lib.hid (fun e => by rw [putB, if_neg e])
  have HP2 : Hid (chk es = 0 → putB es = flatB es) := Lib.hid (fun e => by rw [putB, if_pos e])
  have HZ0 := Lib.hid (fun e => chk_zero (es := es) e)
  obtain ⟨r, hr⟩ : ∃ r, chk es = r := ⟨_, rfl⟩
  obtain ⟨i0, hi, hz0, hz1, hz2⟩ := info_parts info_u8
  obtain ⟨L, hL⟩ : ∃ L, es.length = L := ⟨_, rfl⟩
  have HLn := Lib.hid hL
  rw [hr] at hc HP1 HP2 HZ0 ⊢
  rw [hL] at hn hc HZ0 ⊢
  clear h hr hL
  go_enter Try.func15, Try.ntmps15
  by_cases hr0 : r = 0
  · subst hr0
    have hL64 := (HZ0.out rfl).2
    have HOK := Lib.hid (firstBad_ok es (HZ0.out rfl).1)
    go_wp2_with (go_at_call 11; refine hc.out.mono ?_; rintro e w1 ⟨rfl, bb⟩; have HF0 := Lib.hid (Fr.of_below (S := fun _ => False) bb); clear bb)
    go_loopg [5, 6] L (fun kx s5 s6 wr => ∃ k : Nat, s6 = .int .i64 k ∧ k ≤ L ∧ L - k ≤ kx ∧ OwnB w wr s5 (flatB (es.take k)))
    case atStart => exact ⟨0, rfl, by omega, by omega, OwnB.nil HF0.out⟩
    case round =>
      obtain ⟨k, rfl, hk, hkx, ho⟩ := hrel
      obtain ⟨wo, rfl⟩ : ∃ wo, wo = wr := ⟨wr, rfl⟩
      have wk := wrap_nat k (by omega)
      by_cases hlt : k < L
      · have hltz : (k : Int) < L := by omega
        obtain ⟨b, o, hB⟩ := HLI.out.someE (by rw [HLn.out]; omega)
        subst hB
        have hxs := flatB_len (es.take k) (fun e he => (HOK.out e (List.mem_of_mem_take he)).2)
        rw [List.length_take] at hxs
        have HNX := Lib.hid (show flatB (es.take (k + 1)) = flatB (es.take k) ++ entB es[k]! by rw [ents_snoc es k (by rw [HLn.out]; exact hlt), flatB_snoc])
        obtain ⟨xs, hxe⟩ : ∃ xs, flatB (es.take k) = xs := ⟨_, rfl⟩
        rw [hxe] at ho hxs HNX
        obtain ⟨n, hn'⟩ : ∃ n, xs.length = n := ⟨_, rfl⟩
        have hn6 : n ≤ 6432 := by rw [← hn']; omega
        have HNL := Lib.hid hn'
        have c1 : wo.cell? ⟨b, o + k * 34 + 1, none⟩ = some (.int .i64 es[k]!.mode) := mode_at HLI.out (some_of_mem (by rw [HLn.out]; omega)) ho.2
        have HCL := Lib.hid (fun w' (f : Fr (fun _ => False) w w') j v hv => cell_ent HLI.out (some_of_mem (i := k) (by rw [HLn.out]; omega)) f j v hv)
        have hok := HOK.out es[k]! (by rw [getElem!_pos es k (by rw [HLn.out]; exact hlt)]; exact List.getElem_mem _)
        obtain ⟨x, hx⟩ : ∃ x, es[k]! = x := ⟨_, rfl⟩
        rw [hx] at c1 hok HNX HCL
        have hnm := name_small hok.2
        have HSL := Lib.hid (strB_size x.name)
        have HSD := Lib.hid (strB_data x.name)
        have hm13 : 1 ≤ x.mode ∧ x.mode ≤ 3 := by
          have := hok.1
          rw [modeB, Bool.and_eq_true, decide_eq_true_eq, decide_eq_true_eq] at this
          exact this
        have HDG := Lib.hid (digB_cell x.mode hm13.1 hm13.2)
        obtain ⟨hu1, hu2⟩ := u8_digit x.mode hm13.1 hm13.2
        have HN0 : Hid ((entV x)[0]? = some (.string (strB x.name))) := Lib.hid rfl
        have HCV := Lib.hid (fun w => conv_str w x.name)
        obtain ⟨S, hS⟩ : ∃ S, strB x.name = S := ⟨_, rfl⟩
        obtain ⟨m, hm⟩ : ∃ m, x.mode = m := ⟨_, rfl⟩
        obtain ⟨N, hN'⟩ : ∃ N, x.name.length = N := ⟨_, rfl⟩
        rw [hS] at HSL HSD HN0 HCV
        rw [hm] at c1 hm13 HDG hu1 hu2
        rw [hN'] at hnm HSL
        rw [HSL.out] at HCV
        have HEB : Hid (entB x = [digB m, 32] ++ x.name ++ [0] ++ x.id) := Lib.hid (by rw [entB, hm])
        have HNN := Lib.hid hN'
        have HIL := Lib.hid x.hi
        have hmb := hm13.1
        have hmt := hm13.2
        have HOw := Lib.hid ho
        clear hx hS hm hN' hok hn' ho hxe hm13
        go_wp2_with (first
          | (at_builtin; refine wpList_append_row _ rfl (.tmp 40) (.tmp 41) 30 30 rfl w.heap.size 5 i0 (.int .u8 0) 1 1 Try.underlying30 hi hz0 hz1 hz2 rfl _ (n + 2 + N) (bytesV (xs ++ [digB m] ++ [32] ++ x.name)) rfl (by have := (K3.out.fr ((Fr.refl _ w7).alloc (.cells #[.int .u8 0] 5))).1; rwa [List.length_append, List.length_append, List.length_append, HNL.out, HNN.out] at this) _ 1 (bytesV [0]) rfl (src_lit w7 _ [0] rfl 1 rfl) (by unfold maxLen; omega) (by omega) (by have := K3.out.2.size; simp; omega) ?_
             intro v4 w8 o4 g4 at4
             have K4 := Lib.hid ((K3.out.fr ((Fr.refl _ w7).alloc _)).grow (n := n + 2 + N) (k := 1) (m := [0]) (by rw [List.length_append, List.length_append, List.length_append, HNL.out, HNN.out]; rfl) rfl o4 g4)
             clear o4 g4 at4)
          | (at_builtin; refine wpList_append_row _ rfl (.tmp 32) (.tmp 38) 30 30 rfl w.heap.size 5 i0 (.int .u8 0) 1 1 Try.underlying30 hi hz0 hz1 hz2 rfl _ (n + 2) (bytesV (xs ++ [digB m] ++ [32])) rfl (by have := (K2.out.fr hf6).1; rwa [List.length_append, List.length_append, HNL.out] at this) _ N (bytesV x.name) rfl (Lies.srcB hl6 HNN.out c6) (by unfold maxLen; omega) (by omega) (K2.out.2.trans hf6 (fun _ _ e => e)).size ?_
             intro v3 w7 o3 g3 at3
             have K3 := Lib.hid ((K2.out.fr hf6).grow (n := n + 2) (k := N) (m := x.name) (by rw [List.length_append, List.length_append, HNL.out]; rfl) HNN.out.symm o3 g3)
             clear o3 g3 at3)
          | (at_builtin; refine wpList_append_row _ rfl (.tmp 29) (.tmp 30) 30 30 rfl w.heap.size 5 i0 (.int .u8 0) 1 1 Try.underlying30 hi hz0 hz1 hz2 rfl _ (n + 1) (bytesV (xs ++ [digB m])) rfl (by have := (K1.out.fr ((Fr.refl _ w3).alloc (.cells #[.int .u8 32] 5))).1; rwa [List.length_append, HNL.out] at this) _ 1 (bytesV [32]) rfl (src_lit w3 _ [32] rfl 1 rfl) (by unfold maxLen; omega) (by omega) (by have := K1.out.2.size; simp; omega) ?_
             intro v2 w5 o2 g2 at2
             have K2 := Lib.hid ((K1.out.fr ((Fr.refl _ w3).alloc _)).grow (n := n + 1) (k := 1) (m := [32]) (by rw [List.length_append, HNL.out]; rfl) rfl o2 g2)
             have c0b : w5.cell? ⟨b, o + k * 34, none⟩ = some (.string S) := HCL.out w5 K2.out.2 0 _ HN0.out
             obtain ⟨c6, w6, hcv, hf6, hl6⟩ := HCV.out w5
             clear o2 g2 at2)
          | (at_builtin; refine wpList_append_row _ rfl (.tmp 19) (.tmp 27) 30 30 rfl w.heap.size 5 i0 (.int .u8 0) 1 1 Try.underlying30 hi hz0 hz1 hz2 rfl _ n (bytesV (xs)) rfl (by rw [← HNL.out]; exact (HOw.out.fr ((Fr.refl _ wo).alloc _)).1) _ 1 (bytesV [digB m]) rfl (src_lit wo _ [digB m] (by show [_] = [Value.int .u8 ((digB m).toNat : Int)]; rw [HDG.out]) 1 rfl) (by unfold maxLen; omega) (by omega) (by have := HOw.out.2.size; simp; omega) ?_
             intro v1 w3 o1 g1 at1
             have K1 := Lib.hid ((HOw.out.fr ((Fr.refl _ wo).alloc _)).grow (n := n) (k := 1) (m := [digB m]) HNL.out.symm rfl o1 g1)
             clear o1 g1 at1))
        obtain ⟨ys, hys⟩ : ∃ ys, xs ++ [digB m] ++ [32] ++ x.name ++ [0] = ys := ⟨_, rfl⟩
        obtain ⟨q, hq⟩ : ∃ q, ys.length = q := ⟨_, rfl⟩
        have hqn : q ≤ 7000 := by rw [← hq, ← hys, List.length_append, List.length_append, List.length_append, List.length_append, HNL.out, HNN.out]; simp; omega
        have HYS := Lib.hid hys
        have HQ := Lib.hid hq
        have k4 := K4.out
        rw [hys] at k4
        have K5 := Lib.hid k4
        clear hys hq k4 hcv
        go_loopg [5, 7] 32 (fun kx s5 s7 wr => ∃ j : Nat, s7 = .int .i64 j ∧ j ≤ 32 ∧ 32 - j ≤ kx ∧ OwnB w wr s5 (ys ++ x.id.take j))
        case atStart => exact ⟨0, rfl, by omega, by omega, by rw [List.take_zero, List.append_nil]; exact K5.out⟩
        case round =>
          obtain ⟨j, rfl, hj, hjx, hoj⟩ := hrel
          obtain ⟨wi, rfl⟩ : ∃ wi, wi = wr := ⟨wr, rfl⟩
          have wj := wrap_nat j (by omega)
          by_cases hj32 : j < 32
          · have hjz : (j : Int) < 32 := by omega
            have hjl : j < x.id.length := by rw [HIL.out]; exact hj32
            have cj : wi.cell? ⟨b, o + k * 34 + 2 + j, none⟩ = some (.int .u8 (x.id[j]!.toNat : Nat)) := by
              have := HCL.out wi hoj.2 (2 + j) (.int .u8 (x.id[j]!.toNat : Nat)) (by
                rw [entV, Nat.add_comm]
                show (bytesV x.id)[j]? = _
                rw [bytesV, List.getElem?_map, List.getElem?_eq_getElem hjl, getElem!_pos x.id j hjl]; rfl)
              rw [← Nat.add_assoc] at this
              exact this
            have HTK := Lib.hid (show x.id.take (j + 1) = x.id.take j ++ [x.id[j]!] by rw [List.take_add_one, List.getElem?_eq_getElem hjl, getElem!_pos x.id j hjl]; rfl)
            have HTL : Hid ((ys ++ x.id.take j).length = q + j) := Lib.hid (by rw [List.length_append, HQ.out, List.length_take]; omega)
            obtain ⟨bj, hbj⟩ : ∃ bj, x.id[j]! = bj := ⟨_, rfl⟩
            rw [hbj] at cj HTK
            obtain ⟨bz, hbz⟩ : ∃ bz : Int, ((bj.toNat : Nat) : Int) = bz := ⟨_, rfl⟩
            rw [hbz] at cj
            have HBZ := Lib.hid hbz
            have HOJ := Lib.hid hoj
            clear hjl hbj hbz hoj
            go_wp2_with (at_builtin; refine wpList_append_row _ rfl (.tmp 47) (.tmp 55) 30 30 rfl w.heap.size 5 i0 (.int .u8 0) 1 1 Try.underlying30 hi hz0 hz1 hz2 rfl _ (q + j) (bytesV (ys ++ x.id.take j)) rfl (by have := (HOJ.out.fr ((Fr.refl _ wi).alloc (.cells #[.int .u8 bz] 5))).1; rwa [HTL.out] at this) _ 1 (bytesV [bj]) rfl (src_lit wi _ [bj] (by show [_] = [Value.int .u8 ((bj.toNat : Nat) : Int)]; rw [HBZ.out]) 1 rfl) (by unfold maxLen; omega) (by omega) (by have := HOJ.out.2.size; simp; omega) ?_
                         intro v9 w9 o9 g9 at9
                         have K9 := Lib.hid ((HOJ.out.fr ((Fr.refl _ wi).alloc _)).grow (n := q + j) (k := 1) (m := [bj]) HTL.out.symm rfl o9 g9)
                         clear o9 g9 at9)
            go_roundg (32 - (j + 1))
            case measure => omega
            case rel => exact ⟨j + 1, by go_num, by omega, Nat.le_refl _, by rw [HTK.out, ← List.append_assoc]; exact K9.out⟩
          · have hjz : ¬ ((j : Int) < 32) := by omega
            have N4 : OwnB w wi u5 (flatB (es.take (k + 1))) := by
              rw [HNX.out, HEB.out]
              rw [List.take_of_length_le (by rw [HIL.out]; omega), ← HYS.out] at hoj
              simpa [List.append_assoc] using hoj
            have NN := Lib.hid N4
            clear N4 hoj
            go_wp2
            go_roundg (L - (k + 1))
            case measure => omega
            case rel => exact ⟨k + 1, by go_num, by omega, Nat.le_refl _, NN.out⟩
      · obtain rfl : k = L := by omega
        have hall : es.take k = es := List.take_of_length_le (by rw [HLn.out]; exact Nat.le_refl _)
        rw [hall] at ho
        have NN := Lib.hid ho
        clear ho hall
        have hltz : ¬ ((k : Int) < (k : Int)) := by omega
        go_wp2
        go_ret2
        exact ⟨_, rfl, by rw [HP2.out (by first | rfl | trivial)]; exact NN.out⟩
  · have hrz : (r == 0) = false := by simp [hr0]
    go_wp2_with (go_at_call 11; refine hc.out.mono ?_; rintro e w1 ⟨rfl, bb⟩; have HF0 := Lib.hid (Fr.of_below (S := fun _ => False) bb); clear bb)
    go_ret2
    exact ⟨_, rfl, by rw [HP1.out hr0]; exact OwnB.nil HF0.out⟩
end Go.Proofs.Ytcbgpbcfpeanjaa

/- What is proved: generations, children of one node, by the document. Conditions: the graph's cells are there, the graph is right. -/
import Derived.Test.YtfpolfcmfdmifaaKs
namespace Go.Proofs.Ytfpolfcmfdmifaa
open Go.RowKit Go.Shelf
set_option linter.unusedVariables false

/-- A node's parents, in a later world. -/
theorem kin_at {w : World} {A : Option Addr} {G : List Nd} (hG : GAt w A G) (hR : RightG G) (n : Nat) (hn : n < G.length) : ∃ (Ap : Option Addr) (cp : Nat), ∀ w', Fr (fun _ => False) w w' → ∃ bb o, A = some ⟨bb, o, none⟩ ∧ w'.cell? ⟨bb, o + n * 2, none⟩ = some (.slice Ap (prG G n).length cp) ∧ ∀ k, k < (prG G n).length → ∃ b3 o3, Ap = some ⟨b3, o3, none⟩ ∧ w'.cell? ⟨b3, o3 + k, none⟩ = some (.int .i64 ((prG G n).getD k 0 : Nat)) := by
  refine ⟨G[n].A, G[n].c, fun w' f => ?_⟩
  obtain ⟨bb, o, h1, h2, _, h3, _⟩ := hG.node f n hn
  have h4 := hR.nat n hn
  rw [h4.2] at h2
  rw [h4.1] at h3
  exact ⟨bb, o, h1, h2, fun k hk => lies_nat h3 (Fr.refl (fun _ => False) w') k hk⟩
theorem pr_lt {G : List Nd} (hR : RightG G) (n : Nat) (hn : n < G.length) (k : Nat) (hk : k < (prG G n).length) : (prG G n).getD k 0 < n := hR.dn n hn _ (by rw [List.getD_eq_getElem?_getD, List.getElem?_eq_getElem hk]; exact List.getElem_mem hk)

set_option maxHeartbeats 3200000 in
set_option maxRecDepth 100000 in
theorem QaGens_any (A : Option Addr) (c : Nat) (G : List Nd) (hR : RightG G) (w : World) (hG : GAt w A G) :
    Calls Try.prog 14 #[.slice A G.length c] w fun e w' => ∃ v, e = .returned v ∧ OwnN w w' v (genL G) := by
  obtain ⟨i0, hii, hz0, hz1, hz2⟩ := info_parts info_int
  have HKin := Lib.hid (kin_at hG hR)
  have HLt := Lib.hid (pr_lt hR)
  have HFew := Lib.hid hR.few
  have hlen := hR.len
  have HGa := Lib.hid (fun n hn => gen_at hR.dn (n := n) hn)
  have HGl := Lib.hid (gen_le (prG G) G.length)
  have HMl := Lib.hid (fun ps => most_le (genF (prG G) G.length) G.length ps (fun x _ => gen_le (prG G) G.length x))
  have HL : Hid ((List.range G.length).map (genF (prG G) G.length) = genL G) := Lib.hid rfl
  obtain ⟨N, hN⟩ : ∃ N, G.length = N := ⟨_, rfl⟩
  rw [hN] at HKin HLt HFew hlen HGa HGl HMl HL ⊢
  obtain ⟨T, hT⟩ : ∃ T, genL G = T := ⟨_, rfl⟩
  rw [hT] at HL ⊢
  obtain ⟨gf, hgf⟩ : ∃ gf, genF (prG G) N = gf := ⟨_, rfl⟩
  rw [hgf] at HGa HGl HMl HL
  have HRg : Hid (∀ n k, k < n → ((List.range n).map gf).getD k 0 = gf k) := Lib.hid (fun n k hk => by simp [List.getD_eq_getElem?_getD, hk])
  have HRl : Hid (∀ n, ((List.range n).map gf).length = n) := Lib.hid (fun n => by simp)
  have HRs : Hid (∀ n, (List.range (n + 1)).map gf = (List.range n).map gf ++ [gf n]) := Lib.hid (fun n => by rw [List.range_succ, List.map_append]; rfl)
  clear hG hR hN hT hgf
  go_enter Try.func14, Try.ntmps14
  go_wp2
  go_loopg [3, 4] N (fun kx s3 s4 wr => ∃ (k : Nat) (v : Value), s4 = .int .i64 k ∧ v = s3 ∧ k ≤ N ∧ N - k ≤ kx ∧ Hid (OwnN w wr v ((List.range k).map gf)))
  case atStart => exact ⟨0, .slice none 0 0, rfl, rfl, by omega, by omega, Lib.hid (OwnN.nil (Fr.refl _ _))⟩
  case round =>
    obtain ⟨n, v, rfl, rfl, hn, hnx, HO⟩ := hrel
    obtain ⟨wo, rfl⟩ : ∃ wo, wo = wr := ⟨wr, rfl⟩
    have wn := wrap_nat1 n (by omega)
    by_cases hlt : n < N
    · have hltz : (n : Int) < N := by omega
      have hn0 : (0 : Int) ≤ (n : Int) := by omega
      obtain ⟨Ap, cp, hkin⟩ := HKin.out n hlt
      obtain ⟨bb, o, hBk, ca, hps⟩ := hkin wo HO.out.2
      subst hBk
      have hfew := HFew.out n hlt
      have HLt1 := Lib.hid (HLt.out n hlt)
      have HGa1 := Lib.hid (HGa.out n hlt)
      have HPl := Lib.hid hps
      obtain ⟨ps, hpsd⟩ : ∃ ps, prG G n = ps := ⟨_, rfl⟩
      rw [hpsd] at ca hfew HLt1 HGa1 HPl
      have HTk := Lib.hid (nat_snoc ps)
      have HTa := Lib.hid (List.take_length (l := ps))
      have HM128 := Lib.hid (fun k => HMl.out (ps.take k))
      obtain ⟨P, hP⟩ : ∃ P, ps.length = P := ⟨_, rfl⟩
      rw [hP] at ca hfew HLt1 HPl HTk HTa
      obtain ⟨A1, c1, hv, hA1, _, _, hli⟩ := HO.out.shape
      rw [HRl.out] at hv hA1
      subst hv
      have HLo := Lib.hid (fun k (hk : k < n) => lies_nat hli (Fr.refl (fun _ => False) wo) k (by rw [HRl.out]; exact hk))
      have HOo := Lib.hid HO.out
      have hM0 : mostG gf (ps.take 0) = 0 := rfl
      have HM0 := Lib.hid hM0
      clear hkin hps hpsd hP hli hM0
      go_wp2
      go_loopg [5, 6] P (fun kx s5 s6 wr => ∃ i : Nat, s6 = .int .i64 i ∧ s5 = .int .i64 (mostG gf (ps.take i) : Nat) ∧ i ≤ P ∧ P - i ≤ kx ∧ wo = wr)
      case atStart => exact ⟨0, rfl, by rw [HM0.out]; rfl, by omega, by omega, rfl⟩
      case round =>
        obtain ⟨i, rfl, rfl, hi, hix, rfl⟩ := hrel
        have wi1 := wrap_nat1 i (by omega)
        by_cases hiP : i < P
        · have hiz : (i : Int) < P := by omega
          obtain ⟨b3, o3, hB3, cp3⟩ := HPl.out i hiP
          subst hB3
          have hxn := HLt1.out i hiP
          have HTk1 := Lib.hid (HTk.out i hiP)
          obtain ⟨x, hxd⟩ : ∃ x, ps.getD i 0 = x := ⟨_, rfl⟩
          rw [hxd] at cp3 hxn HTk1
          obtain ⟨b4, o4, hB4, cx⟩ := HLo.out x hxn
          subst hB4
          rw [HRg.out n x hxn] at cx
          have HMs := Lib.hid (show mostG gf (ps.take (i + 1)) = max (mostG gf (ps.take i)) (gf x) from by rw [HTk1.out, most_snoc])
          obtain ⟨y, hy⟩ : ∃ y, mostG gf (ps.take i) = y := ⟨_, rfl⟩
          obtain ⟨z, hz⟩ : ∃ z, gf x = z := ⟨_, rfl⟩
          rw [hy] at HMs ⊢
          rw [hz] at HMs cx
          have hx0 : (0 : Int) ≤ (x : Int) := by omega
          have hxz : (x : Int) < (n : Int) := by omega
          clear hxd hy hz
          by_cases hyz : y < z
          · have HE := Lib.hid (show mostG gf (ps.take (i + 1)) = z from by rw [HMs.out]; omega)
            have hz2 : (y : Int) < (z : Int) := by omega
            go_wp2
            go_roundg (P - (i + 1))
            case measure => omega
            case rel => exact ⟨i + 1, by go_num, by rw [HE.out], by omega, Nat.le_refl _, rfl⟩
          · have HE := Lib.hid (show mostG gf (ps.take (i + 1)) = y from by rw [HMs.out]; omega)
            have hz2 : ¬ (y : Int) < (z : Int) := by omega
            go_wp2
            go_roundg (P - (i + 1))
            case measure => omega
            case rel => exact ⟨i + 1, by go_num, by rw [HE.out], by omega, Nat.le_refl _, rfl⟩
        · obtain rfl : i = P := by omega
          rw [HTa.out]
          have hy128 := HM128.out i
          rw [HTa.out] at hy128
          have HRs1 := Lib.hid (HRs.out n)
          rw [HGa1.out] at HRs1
          obtain ⟨y, hy⟩ : ∃ y, mostG gf ps = y := ⟨_, rfl⟩
          rw [hy] at hy128 HRs1 ⊢
          have wy := wrap_nat1 y (by omega)
          obtain ⟨w1, hw1⟩ : ∃ w1, wo.alloc (.cells #[.int .i64 ((y : Int) + 1)] 3) = w1 := ⟨_, rfl⟩
          have HF1 := Lib.hid (show Fr (fun _ => False) wo w1 from by subst hw1; exact (Fr.refl (fun _ => False) wo).alloc _)
          have HSrc := Lib.hid (show Src Try.prog 1 24 (.slice (some ⟨wo.heap.size, 0, none⟩) 1 1) 1 (nC [y + 1]) w1 from by subst hw1; exact src_one Try.underlying24 wo _ rfl)
          have HO1 := Lib.hid (HOo.out.fr HF1.out)
          have HBase : Hid (w.heap.size ≤ w1.heap.size) := Lib.hid HO1.out.2.size
          have HLl := Lib.hid (HRl.out n)
          obtain ⟨l, hl⟩ : ∃ l, (List.range n).map gf = l := ⟨_, rfl⟩
          rw [hl] at HO1 HLl HRs1
          have hon := HO1.out.1
          rw [HLl.out] at hon
          have HOn := Lib.hid hon
          clear hy hl hon
          go_wp2_with (at_builtin; refine wpList_append_row _ rfl (.tmp 47) (.tmp 50) 24 24 rfl w.heap.size 3 i0 (.int .i64 0) 1 8 Try.underlying24 hii hz0 hz1 hz2 rfl (.slice A1 n c1) n (nC l) rfl HOn.out (.slice (some ⟨wo.heap.size, 0, none⟩) 1 1) 1 (nC [y + 1]) rfl HSrc.out (by unfold maxLen; omega) (by omega) HBase.out ?_
                       intro v' w4 o1 g1 at1
                       rw [show n + 1 = l.length + 1 by rw [HLl.out]] at o1
                       have HO4 := Lib.hid (HO1.out.grow o1 g1)
                       clear o1 g1 at1)
          go_roundg (N - (n + 1))
          case measure => omega
          case rel => exact ⟨n + 1, v', by go_num, rfl, by omega, Nat.le_refl _, Lib.hid (by rw [HRs1.out]; exact HO4.out)⟩
    · obtain rfl : n = N := by omega
      go_wp2
      go_ret
      exact ⟨v, rfl, by rw [← HL.out]; exact HO.out⟩

theorem kids_len {pr : Nat → List Nat} {N : Nat} (h : ∀ n, n < N → (pr n).length ≤ 6) (k : Nat) : ∀ n, n ≤ N → (kidsF pr n k).length ≤ 6 * n
  | 0, _ => by simp [kidsF]
  | n + 1, hn => by
    rw [kidsF, List.length_append, List.length_map]
    have h1 := kids_len h k n (by omega)
    have h2 := List.length_filter_le (fun p => decide (p = k)) (pr n)
    have h3 := h n (by omega)
    omega
def kidP (pr : Nat → List Nat) (n i k : Nat) : List Nat := kidsF pr n k ++ (((pr n).take i).filter (fun p => decide (p = k))).map (fun _ => n)
theorem kidP_zero (pr : Nat → List Nat) (n k : Nat) : kidP pr n 0 k = kidsF pr n k := by simp [kidP]
theorem kidP_end (pr : Nat → List Nat) (n k : Nat) : kidP pr n (pr n).length k = kidsF pr (n + 1) k := by simp [kidP, kidsF]
theorem kidP_succ (pr : Nat → List Nat) (n i k : Nat) (h : i < (pr n).length) : kidP pr n (i + 1) k = if (pr n).getD i 0 = k then kidP pr n i k ++ [n] else kidP pr n i k := by
  unfold kidP
  rw [nat_snoc (pr n) i h, List.filter_append, List.map_append, ← List.append_assoc]
  obtain ⟨x, hx⟩ : ∃ x, (pr n).getD i 0 = x := ⟨_, rfl⟩
  rw [hx]
  by_cases e : x = k
  · rw [if_pos e, show [x].filter (fun p => decide (p = k)) = [x] by simp [e]]; rfl
  · rw [if_neg e, show [x].filter (fun p => decide (p = k)) = [] by simp [e]]; simp
theorem kidP_len {pr : Nat → List Nat} {N : Nat} (h : ∀ n, n < N → (pr n).length ≤ 6) (k n i : Nat) (hn : n ≤ N) (hi : i ≤ 6) : (kidP pr n i k).length ≤ 6 * n + 6 := by
  unfold kidP
  rw [List.length_append, List.length_map]
  have h1 := kids_len h k n hn
  have h2 := List.length_filter_le (fun p => decide (p = k)) ((pr n).take i)
  rw [List.length_take] at h2
  omega

set_option maxHeartbeats 3200000 in
set_option maxRecDepth 100000 in
theorem QaChildren_any (A : Option Addr) (c : Nat) (G : List Nd) (of : Nat) (hR : RightG G) (w : World) (hG : GAt w A G) :
    Calls Try.prog 15 #[.slice A G.length c, .int .i64 of] w fun e w' => ∃ v, e = .returned v ∧ OwnN w w' v (kidsF (prG G) G.length of) := by
  obtain ⟨i0, hii, hz0, hz1, hz2⟩ := info_parts info_int
  have HKin := Lib.hid (kin_at hG hR)
  have HFew := Lib.hid hR.few
  have hlen := hR.len
  have HK0 := Lib.hid (fun n => kidP_zero (prG G) n of)
  have HK1 := Lib.hid (fun n => kidP_end (prG G) n of)
  have HKs := Lib.hid (fun n i h => kidP_succ (prG G) n i of h)
  have HKl := Lib.hid (fun n i hn hi => kidP_len hR.few of n i hn hi)
  obtain ⟨N, hN⟩ : ∃ N, G.length = N := ⟨_, rfl⟩
  rw [hN] at HKin HFew hlen HKl ⊢
  clear hG hR hN
  go_enter Try.func15, Try.ntmps15
  go_wp2
  go_loopg [5, 6] N (fun kx s5 s6 wr => ∃ (k : Nat) (v : Value), s6 = .int .i64 k ∧ v = s5 ∧ k ≤ N ∧ N - k ≤ kx ∧ Hid (OwnN w wr v (kidsF (prG G) k of)))
  case atStart => exact ⟨0, .slice none 0 0, rfl, rfl, by omega, by omega, Lib.hid (OwnN.nil (Fr.refl _ _))⟩
  case round =>
    obtain ⟨n, v, rfl, rfl, hn, hnx, HO⟩ := hrel
    obtain ⟨wo, rfl⟩ : ∃ wo, wo = wr := ⟨wr, rfl⟩
    have wn := wrap_nat1 n (by omega)
    by_cases hlt : n < N
    · have hltz : (n : Int) < N := by omega
      have hn0 : (0 : Int) ≤ (n : Int) := by omega
      obtain ⟨Ap, cp, hkin⟩ := HKin.out n hlt
      have HKi := Lib.hid hkin
      have hfew := HFew.out n hlt
      have HO0 := Lib.hid (show OwnN w wo v (kidP (prG G) n 0 of) from by rw [HK0.out]; exact HO.out)
      have HK1n := Lib.hid (HK1.out n)
      have HKsn := Lib.hid (HKs.out n)
      have HKln := Lib.hid (fun i hi => HKl.out n i (by omega) hi)
      obtain ⟨ps, hpsd⟩ : ∃ ps, prG G n = ps := ⟨_, rfl⟩
      rw [hpsd] at hfew HKi HKsn HK1n
      obtain ⟨P, hP⟩ : ∃ P, ps.length = P := ⟨_, rfl⟩
      rw [hP] at hfew HKi HKsn HK1n
      clear hkin hpsd hP
      go_wp2
      go_loopg [5, 7] P (fun kx s5 s7 wr => ∃ (i : Nat) (v : Value), s7 = .int .i64 i ∧ v = s5 ∧ i ≤ P ∧ P - i ≤ kx ∧ Hid (OwnN w wr v (kidP (prG G) n i of)))
      case atStart => exact ⟨0, v, rfl, rfl, by omega, by omega, HO0⟩
      case round =>
        obtain ⟨i, vi, rfl, rfl, hi, hix, HOi⟩ := hrel
        obtain ⟨wi, rfl⟩ : ∃ wi, wi = wr := ⟨wr, rfl⟩
        have wi1 := wrap_nat1 i (by omega)
        obtain ⟨bb, o, hBk, ca, hps⟩ := HKi.out wi HOi.out.2
        subst hBk
        by_cases hiP : i < P
        · have hiz : (i : Int) < P := by omega
          obtain ⟨b3, o3, hB3, cp3⟩ := hps i hiP
          subst hB3
          have HKs1 := Lib.hid (HKsn.out i hiP)
          obtain ⟨x, hxd⟩ : ∃ x, ps.getD i 0 = x := ⟨_, rfl⟩
          rw [hxd] at cp3 HKs1
          have hkl := HKln.out i (by omega)
          obtain ⟨l, hl⟩ : ∃ l, kidP (prG G) n i of = l := ⟨_, rfl⟩
          rw [hl] at HKs1 hkl HOi
          clear hxd hl hps
          by_cases e : x = of
          · have HE := Lib.hid (show kidP (prG G) n (i + 1) of = l ++ [n] from by rw [HKs1.out, if_pos e])
            subst e
            obtain ⟨w1, hw1⟩ : ∃ w1, wi.alloc (.cells #[.int .i64 (n : Nat)] 3) = w1 := ⟨_, rfl⟩
            have HF1 := Lib.hid (show Fr (fun _ => False) wi w1 from by subst hw1; exact (Fr.refl (fun _ => False) wi).alloc _)
            have HSrc := Lib.hid (show Src Try.prog 1 24 (.slice (some ⟨wi.heap.size, 0, none⟩) 1 1) 1 (nC [n]) w1 from by subst hw1; exact src_one Try.underlying24 wi _ rfl)
            have HO1 := Lib.hid (HOi.out.fr HF1.out)
            have HBase : Hid (w.heap.size ≤ w1.heap.size) := Lib.hid HO1.out.2.size
            go_wp2_with (at_builtin; refine wpList_append_row _ rfl (.tmp 34) (.tmp 36) 24 24 rfl w.heap.size 3 i0 (.int .i64 0) 1 8 Try.underlying24 hii hz0 hz1 hz2 rfl vi l.length (nC l) rfl HO1.out.1 (.slice (some ⟨wi.heap.size, 0, none⟩) 1 1) 1 (nC [n]) rfl HSrc.out (by unfold maxLen; omega) (by omega) HBase.out ?_
                         intro v' w4 o1 g1 at1
                         have HO4 := Lib.hid (HO1.out.grow o1 g1)
                         clear o1 g1 at1)
            go_roundg (P - (i + 1))
            case measure => omega
            case rel => exact ⟨i + 1, v', by go_num, rfl, by omega, Nat.le_refl _, Lib.hid (by rw [HE.out]; exact HO4.out)⟩
          · have HE := Lib.hid (show kidP (prG G) n (i + 1) of = l from by rw [HKs1.out, if_neg e])
            have ez : ¬ ((x : Int) = (of : Int)) := by omega
            have eb : ((x : Int) == (of : Int)) = false := by simpa using ez
            go_wp2
            go_roundg (P - (i + 1))
            case measure => omega
            case rel => exact ⟨i + 1, vi, by go_num, rfl, by omega, Nat.le_refl _, Lib.hid (by rw [HE.out]; exact HOi.out)⟩
        · obtain rfl : i = P := by omega
          go_wp2
          go_roundg (N - (n + 1))
          case measure => omega
          case rel => exact ⟨n + 1, vi, by go_num, rfl, by omega, Nat.le_refl _, Lib.hid (by rw [← HK1n.out]; exact HOi.out)⟩
    · obtain rfl : n = N := by omega
      go_wp2
      go_ret
      exact ⟨v, rfl, HO.out⟩
end Go.Proofs.Ytfpolfcmfdmifaa

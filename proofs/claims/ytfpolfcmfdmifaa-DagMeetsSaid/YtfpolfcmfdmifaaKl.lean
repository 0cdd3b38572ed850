/- What is proved: Check of the document; whether two lists of numbers are one. Conditions: the cells are there. -/
import Derived.Test.YtfpolfcmfdmifaaKj
import Derived.BigQuiet
namespace Go.Proofs.Ytfpolfcmfdmifaa
open Go.RowKit Go.Shelf
set_option linter.unusedVariables false

theorem no_take {ps : List Int} {k : Nat} {x : Int} (h : ∀ j, j < k → ¬ ps.getD j 0 = x) : (ps.take k).contains x = false := by
  rw [Bool.eq_false_iff]
  intro e
  rw [List.contains_iff_mem] at e
  obtain ⟨j, hj, he⟩ := List.getElem_of_mem e
  rw [List.length_take] at hj
  rw [List.getElem_take] at he
  exact h j (by omega) (by rw [List.getD_eq_getElem?_getD, List.getElem?_eq_getElem (by omega)]; exact he)
theorem in_take {ps : List Int} {k j : Nat} (hk : k ≤ ps.length) (hj : j < k) : (ps.take k).contains (ps.getD j 0) = true := by
  rw [List.contains_iff_mem, List.getD_eq_getElem?_getD, List.getElem?_eq_getElem (by omega)]
  exact List.mem_iff_getElem.2 ⟨j, by rw [List.length_take]; omega, by rw [List.getElem_take]; rfl⟩

set_option maxHeartbeats 3200000 in
set_option maxRecDepth 100000 in
theorem QaCheck_any (A : Option Addr) (c : Nat) (G : List Nd) (w : World) (h : GAt w A G) :
    Calls Try.prog 8 #[.slice A G.length c] w fun e w' => e = .returned (.int .i64 (chkG G)) ∧ Below w.heap.size w w' := by
  have H1 := Lib.hid (fun h => okG_many (G := G) h)
  have H2 := Lib.hid (fun n hn h => okG_bad (G := G) (n := n) hn h)
  have H3 := Lib.hid (fun h h2 => okG_ok (G := G) h h2)
  have HG := Lib.hid (fun w' (f : Fr (fun _ => False) w w') n hn => h.node f n hn)
  have HGd := Lib.hid (getD_nd G)
  obtain ⟨L, hL⟩ : ∃ L, G.length = L := ⟨_, rfl⟩
  have HL := Lib.hid hL
  obtain ⟨R, hR⟩ : ∃ R, chkG G = R := ⟨_, rfl⟩
  rw [hL] at H1 H2 H3 ⊢
  rw [hR] at H1 H2 H3 ⊢
  clear h hL hR
  by_cases h1 : 128 < L
  · have hz : (128 : Int) < (L : Int) := by omega
    have HE := Lib.hid (H1.out h1)
    go_enter Try.func8, Try.ntmps8
    go_wp2
    go_ret
    exact ⟨by rw [HE.out]; rfl, Below.refl _ _⟩
  have hz1 : ¬ (128 : Int) < (L : Int) := by omega
  have HN1 := Lib.hid h1
  clear h1
  go_enter Try.func8, Try.ntmps8
  go_wp2
  clear hz1
  go_loopg [3] L (fun kx s3 wr => ∃ k : Nat, s3 = .int .i64 k ∧ k ≤ L ∧ L - k ≤ kx ∧ Hid (Fr (fun _ => False) w wr) ∧ Hid (∀ i, i < k → okN i (G.getD i default) = true))
  case atStart => exact ⟨0, rfl, by omega, by omega, Lib.hid (Fr.refl _ _), Lib.hid (fun i hi => by omega)⟩
  case round =>
    obtain ⟨n, rfl, hn, hnx, HFr, HB⟩ := hrel
    obtain ⟨wo, rfl⟩ : ∃ wo, wo = wr := ⟨wr, rfl⟩
    by_cases hlt : n < L
    · have hltz : (n : Int) < L := by omega
      have hkG : n < G.length := by rw [HL.out]; exact hlt
      obtain ⟨b, o, hBk, ca, cb, hli, hlc⟩ := HG.out wo HFr.out n hkG
      subst hBk
      have HGk := Lib.hid (HGd.out n hkG)
      obtain ⟨d, hd⟩ : ∃ d, G[n] = d := ⟨_, rfl⟩
      rw [hd] at ca cb hli hlc HGk
      have H2k := Lib.hid (H2.out n hlt)
      rw [HGk.out] at H2k
      obtain ⟨Ad, cd, ps, t⟩ := d
      simp only at ca cb hli hlc
      have K1 := Lib.hid (fun h => H2k.out (okN_few (n := n) (d := ⟨Ad, cd, ps, t⟩) h))
      have K2 := Lib.hid (fun h => H2k.out (okN_t0 (n := n) (d := ⟨Ad, cd, ps, t⟩) h))
      have K3 := Lib.hid (fun h => H2k.out (okN_t1 (n := n) (d := ⟨Ad, cd, ps, t⟩) h))
      have K4 := Lib.hid (fun i hi h => H2k.out (okN_bad (n := n) (d := ⟨Ad, cd, ps, t⟩) (i := i) hi h))
      have K5 := Lib.hid (fun h1 h2 h3 h4 => okN_ok (n := n) (d := ⟨Ad, cd, ps, t⟩) h1 h2 h3 h4)
      simp only at K1 K2 K3 K4 K5
      obtain ⟨w1, hw1⟩ : ∃ w1, wo.alloc (.cells #[.slice Ad ps.length cd, .int .i64 t] 55) = w1 := ⟨_, rfl⟩
      have HF1 := Lib.hid (show Fr (fun _ => False) wo w1 from by subst hw1; exact (Fr.refl (fun _ => False) wo).alloc _)
      have HW1 := Lib.hid (show Whole w1 wo.heap.size 55 #[.slice Ad ps.length cd, .int .i64 t] from by subst hw1; exact Whole.new wo 55 _)
      have d0 : w1.cell? ⟨wo.heap.size, 0, none⟩ = some (.slice Ad ps.length cd) := by rw [HW1.out.cell]; rfl
      have d1 : w1.cell? ⟨wo.heap.size, 1, none⟩ = some (.int .i64 t) := by rw [HW1.out.cell]; rfl
      have HLs := Lib.hid (fun w' (f : Fr (fun _ => False) w1 w') k hk => lies_int hli (HF1.out.trans f (fun _ _ e => e)) k hk)
      have HTk := Lib.hid (fun j k (h1 : k ≤ ps.length) (h2 : j < k) => in_take (ps := ps) h1 h2)
      obtain ⟨M, hM⟩ : ∃ M, ps.length = M := ⟨_, rfl⟩
      have HM := Lib.hid hM
      rw [hM] at ca hw1 HW1 d0 K1 K4 K5 HLs HTk
      have cb2 : wo.cell? ⟨b, o + n * 2 + 1, none⟩ = some (.int .i64 t) := by rw [Nat.add_assoc]; exact cb
      have wn := wrap_nat1 n (by have := HN1.out; omega)
      have HFw := Lib.hid (HFr.out.trans HF1.out (fun _ _ e => e))
      clear hd hli hlc hkG hM
      by_cases m1 : 6 < M
      · have hz : (6 : Int) < (M : Int) := by omega
        have HE := Lib.hid (K1.out m1)
        go_wp2
        go_ret
        exact ⟨by rw [HE.out]; rfl, HFw.out.below (fun _ _ e => e)⟩
      have hz1 : ¬ (6 : Int) < (M : Int) := by omega
      by_cases m2 : t < 0
      · have HE := Lib.hid (K2.out m2)
        go_wp2
        go_ret
        exact ⟨by rw [HE.out]; rfl, HFw.out.below (fun _ _ e => e)⟩
      by_cases m3 : 1099511627776 < t
      · have HE := Lib.hid (K3.out m3)
        go_wp2
        go_ret
        exact ⟨by rw [HE.out]; rfl, HFw.out.below (fun _ _ e => e)⟩
      have M1 := Lib.hid m1
      have M2 := Lib.hid m2
      have M3 := Lib.hid m3
      clear m1
      go_wp2
      clear m2 m3 hz1 ca cb cb2
      go_loopg [5] M (fun kx s5 wr => ∃ k : Nat, s5 = .int .i64 k ∧ k ≤ M ∧ M - k ≤ kx ∧ Hid (Fr (fun _ => False) w1 wr) ∧ Hid (∀ i, i < k → badP n ps i = false))
      case atStart => exact ⟨0, rfl, by omega, by omega, Lib.hid (Fr.refl _ _), Lib.hid (fun i hi => by omega)⟩
      case round =>
        obtain ⟨k, rfl, hk, hkx, HFk, HI⟩ := hrel
        obtain ⟨wi, rfl⟩ : ∃ wi, wi = wr := ⟨wr, rfl⟩
        have e0 := HFk.out.cell d0 (fun e => e)
        have wk := wrap_nat1 k (by have := M1.out; omega)
        have HFwi := Lib.hid (HFw.out.trans HFk.out (fun _ _ e => e))
        by_cases hkl : k < M
        · have hklz : (k : Int) < M := by omega
          obtain ⟨bp, op, hBp, cx⟩ := HLs.out wi HFk.out k hkl
          subst hBp
          have HLj := Lib.hid (fun (w' : World) (f : Fr (fun _ => False) wi w') j (hj : j < M) => HLs.out w' (HFk.out.trans f (fun _ _ e => e)) j hj)
          have HBl := Lib.hid (fun h => K4.out k hkl (badP_lt (n := n) (ps := ps) (i := k) h))
          have HBg := Lib.hid (fun h => K4.out k hkl (badP_ge (n := n) (ps := ps) (i := k) h))
          have HBm := Lib.hid (fun h1 h2 => badP_mid (n := n) (ps := ps) (i := k) h1 h2)
          obtain ⟨y, hy⟩ : ∃ y, ps.getD k 0 = y := ⟨_, rfl⟩
          have HY := Lib.hid hy
          rw [hy] at cx HBl HBg HBm
          clear hy
          by_cases hy0 : y < 0
          · have HE := Lib.hid (HBl.out hy0)
            go_wp2
            go_ret
            exact ⟨by rw [HE.out]; rfl, HFwi.out.below (fun _ _ e => e)⟩
          by_cases hyn : (n : Int) ≤ y
          · have HE := Lib.hid (HBg.out hyn)
            go_wp2
            go_ret
            exact ⟨by rw [HE.out]; rfl, HFwi.out.below (fun _ _ e => e)⟩
          have HBd := Lib.hid (HBm.out hy0 hyn)
          go_wp2
          clear hy0 hyn
          go_loopg [6] M (fun kx s6 wr => ∃ j : Nat, s6 = .int .i64 j ∧ j ≤ k ∧ k - j ≤ kx ∧ Hid (Fr (fun _ => False) wi wr) ∧ Hid (∀ i, i < j → ¬ ps.getD i 0 = y))
          case atStart => exact ⟨0, rfl, by omega, by omega, Lib.hid (Fr.refl _ _), Lib.hid (fun i hi => by omega)⟩
          case round =>
            obtain ⟨j, rfl, hj, hjx, HFj, HJ⟩ := hrel
            obtain ⟨wj, rfl⟩ : ∃ wj, wj = wr := ⟨wr, rfl⟩
            have g0 := HFj.out.cell e0 (fun e => e)
            have gx := HFj.out.cell cx (fun e => e)
            have wj1 := wrap_nat1 j (by have := M1.out; omega)
            have HFwj := Lib.hid (HFwi.out.trans HFj.out (fun _ _ e => e))
            by_cases hjk : j < k
            · have hjz : (j : Int) < k := by omega
              have hjM : (j : Int) < M := by omega
              obtain ⟨bj, oj, hBj, cj⟩ := HLj.out wj HFj.out j (by omega)
              injection hBj with hBj
              injection hBj with hb1 hb2
              subst hb1; subst hb2
              have HTj := Lib.hid (HTk.out j k (by omega) hjk)
              obtain ⟨x, hx⟩ : ∃ x, ps.getD j 0 = x := ⟨_, rfl⟩
              have HX := Lib.hid hx
              rw [hx] at cj HTj
              clear hx
              by_cases e : x = y
              · subst e
                have HE := Lib.hid (K4.out k hkl (by rw [HBd.out]; exact HTj.out))
                go_upto_region 17 with fail
                go_quiet (fail)
                go_wp2
                go_ret
                exact ⟨by rw [HE.out]; rfl, (HFwj.out.drewN _).below (fun _ _ e => e)⟩
              · go_upto_region 17 with fail
                go_quiet (fail)
                go_wp2
                go_roundg (k - (j + 1))
                case measure => omega
                case rel => exact ⟨j + 1, by go_num, by omega, Nat.le_refl _, Lib.hid (HFj.out.drewN _), Lib.hid (fun i hi => (by omega : i < j ∨ i = j).elim (HJ.out i) (fun q => by rw [q, HX.out]; exact e))⟩
            · obtain rfl : j = k := by omega
              have HE := Lib.hid (show badP n ps j = false from by rw [HBd.out]; exact no_take HJ.out)
              go_wp2
              go_roundg (M - (j + 1))
              case measure => omega
              case rel => exact ⟨j + 1, by go_num, by omega, Nat.le_refl _, Lib.hid (HFk.out.trans HFj.out (fun _ _ e => e)), Lib.hid (fun i hi => (by omega : i < j ∨ i = j).elim (HI.out i) (fun q => by rw [q]; exact HE.out))⟩
        · obtain rfl : k = M := by omega
          have HE := Lib.hid (K5.out M1.out M2.out M3.out HI.out)
          go_wp2
          go_roundg (L - (n + 1))
          case measure => omega
          case rel => exact ⟨n + 1, by go_num, by omega, Nat.le_refl _, HFwi, Lib.hid (fun i hi => (by omega : i < n ∨ i = n).elim (HB.out i) (fun q => by rw [q, HGk.out]; exact HE.out))⟩
    · obtain rfl : n = L := by omega
      have HE := Lib.hid (H3.out HN1.out HB.out)
      go_wp2
      go_ret
      exact ⟨by rw [HE.out]; rfl, HFr.out.below (fun _ _ e => e)⟩
end Go.Proofs.Ytfpolfcmfdmifaa

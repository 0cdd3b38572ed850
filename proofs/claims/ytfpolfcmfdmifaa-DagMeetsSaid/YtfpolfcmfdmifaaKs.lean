/- What is proved: generations, by the program. Conditions: the graph's cells are there. -/
import Derived.Test.YtfpolfcmfdmifaaKn
import Derived.BigQuiet
namespace Go.Proofs.Ytfpolfcmfdmifaa
open Go.RowKit Go.Shelf
set_option linter.unusedVariables false

def genL (G : List Nd) : List Nat := (List.range G.length).map (genF (prG G) G.length)
theorem OwnN.of_made {w0 w : World} {g N : Nat} {f : Nat → Nat} (hN : N ≤ 128) (h : Whole w g 3 (rowC (intC f) N)) (hg : w0.heap.size ≤ g) (k : Fr (fun _ => False) w0 w) : OwnN w0 w (.slice (some ⟨g, 0, none⟩) N N) ((List.range N).map f) := by
  have e : (nC ((List.range N).map f) ++ []).toArray = rowC (intC f) N := by
    rw [List.append_nil, ← rowC_nC, Array.toArray_toList]
  have hl : ((List.range N).map f).length = N := by simp
  have := OwnN.of_row (w0 := w0) (w := w) (g := g) (c := N) (l := (List.range N).map f) (rest := []) (by rw [e]; exact h) (by rw [List.append_nil, nC_len, hl]) (by omega) (by unfold maxLen; omega) hg k
  rwa [hl] at this
theorem gen_at {pr : Nat → List Nat} {N : Nat} (hD : Dn pr N) {n : Nat} (hn : n < N) : genF pr N n = mostG (genF pr N) (pr n) + 1 := by
  rw [gen_stay pr n N hn, genF, if_pos rfl]
  congr 1
  refine most_congr (fun x hx => ?_)
  have := hD n hn x hx
  rw [gen_stay pr x n this, ← gen_stay pr x N (by omega)]

set_option maxHeartbeats 3200000 in
set_option maxRecDepth 100000 in
theorem DaGens_any (A : Option Addr) (c : Nat) (G : List Nd) (w : World) (hG : GAt w A G) :
    Calls Try.prog 9 #[.slice A G.length c] w fun e w' => NumE w w' e (chkG G) (genL G) := by
  have HChk := Lib.hid (DaCheck_any A c G w hG)
  by_cases hE : chkG G = 0
  · have hR := right_of (chk_ok hE)
    rw [hE] at HChk ⊢
    have hmk := make_ints G.length (by have := hR.len; omega)
    have HG := Lib.hid (fun w' (f : Fr (fun _ => False) w w') n hn => hG.node f n hn)
    have HNat := Lib.hid hR.nat
    have HDn := Lib.hid hR.dn
    have HFew := Lib.hid hR.few
    have hlen := hR.len
    have HL : Hid ((List.range G.length).map (genF (prG G) G.length) = genL G) := Lib.hid rfl
    have HGe := Lib.hid (gen_ge (prG G))
    have HGl := Lib.hid (gen_le (prG G))
    have HGs : Hid (∀ n j, genF (prG G) (n + 1) j = if j = n then mostG (genF (prG G) n) (prG G n) + 1 else genF (prG G) n j) := Lib.hid (fun n j => rfl)
    have HMl := Lib.hid (fun n ps => most_le (genF (prG G) n) n ps (fun x _ => gen_le (prG G) n x))
    obtain ⟨N, hN⟩ : ∃ N, G.length = N := ⟨_, rfl⟩
    have HN := Lib.hid hN
    rw [hN] at HChk hmk HDn HFew hlen HL ⊢
    obtain ⟨T, hT⟩ : ∃ T, genL G = T := ⟨_, rfl⟩
    rw [hT] at HL ⊢
    clear hE hR hG hN hT
    go_enter Try.func9, Try.ntmps9
    go_upto_region 4 with (go_at_call 11; refine HChk.out.mono ?_; rintro e w1 ⟨rfl, b1⟩; have HF1 := Lib.hid (Fr.of_below (S := fun _ => False) b1); clear b1)
    obtain ⟨w2, hw2⟩ : ∃ w2, w1.alloc (.cells (rowC (intC fun _ => 0) N) 3) = w2 := ⟨_, rfl⟩
    obtain ⟨g, hg⟩ : ∃ g, w1.heap.size = g := ⟨_, rfl⟩
    have HW2 := Lib.hid (show Whole w2 g 3 (rowC (intC (genF (prG G) 0)) N) from by subst hw2; subst hg; exact Whole.new w1 3 _)
    have HF2 := Lib.hid (show Fr (fun _ => False) w w2 from by subst hw2; exact HF1.out.alloc _)
    have HGg := Lib.hid (show w.heap.size ≤ g from by have := HF1.out.size; omega)
    have hmk1 := hmk w1
    rw [hw2, hg] at hmk1
    clear hmk hw2 hg
    go_upto_region 5 with fail
    clear hmk1
    go_wp2
    go_loopg [20] N (fun kx s20 wr => ∃ k : Nat, s20 = .int .i64 k ∧ k ≤ N ∧ N - k ≤ kx ∧ Hid (Whole wr g 3 (rowC (intC (genF (prG G) k)) N)) ∧ Hid (Fr (fun _ => False) w wr))
    case atStart => exact ⟨0, rfl, by omega, by omega, HW2, HF2⟩
    case round =>
      obtain ⟨n, rfl, hn, hnx, HW, HFr⟩ := hrel
      obtain ⟨wo, rfl⟩ : ∃ wo, wo = wr := ⟨wr, rfl⟩
      have wn := wrap_nat1 n (by omega)
      by_cases hlt : n < N
      · have hltz : (n : Int) < N := by omega
        have hn0 : (0 : Int) ≤ (n : Int) := by omega
        have hnG : n < G.length := by rw [HN.out]; omega
        obtain ⟨bb, o, hBk, ca, cb, hli, hlc⟩ := HG.out wo HFr.out n hnG
        subst hBk
        have HNt := HNat.out n hnG
        rw [HNt.2] at ca
        rw [HNt.1] at hli
        have hfew := HFew.out n hlt
        have HDp := Lib.hid (fun p hp => HDn.out n hlt p hp)
        have HGs1 := Lib.hid (HGs.out n)
        have HMl1 := Lib.hid (HMl.out n)
        have HGe1 := Lib.hid (HGe.out n n (Nat.le_refl _))
        obtain ⟨ps, hps⟩ : ∃ ps, prG G n = ps := ⟨_, rfl⟩
        obtain ⟨Ap, hAp⟩ : ∃ A, G[n].A = A := ⟨_, rfl⟩
        obtain ⟨cp, hcp⟩ : ∃ A, G[n].c = A := ⟨_, rfl⟩
        obtain ⟨td, htd⟩ : ∃ A, G[n].t = A := ⟨_, rfl⟩
        rw [hps] at HGs1 hfew HDp hli
        rw [hps, hAp, hcp] at ca
        rw [hAp] at hli
        rw [htd] at cb
        have cb2 : wo.cell? ⟨bb, o + n * 2 + 1, none⟩ = some (.int .i64 td) := by rw [Nat.add_assoc]; exact cb
        obtain ⟨P, hP⟩ : ∃ P, ps.length = P := ⟨_, rfl⟩
        have HPp := Lib.hid hP
        rw [hP] at hfew ca
        obtain ⟨w1, hw1⟩ : ∃ w1, wo.alloc (.cells #[.slice Ap P cp, .int .i64 td] 55) = w1 := ⟨_, rfl⟩
        have HF1 := Lib.hid (show Fr (fun _ => False) wo w1 from by subst hw1; exact (Fr.refl (fun _ => False) wo).alloc _)
        have hW1 : Whole w1 wo.heap.size 55 #[.slice Ap P cp, .int .i64 td] := by subst hw1; exact Whole.new wo 55 _
        have d0 : w1.cell? ⟨wo.heap.size, 0, none⟩ = some (.slice Ap P cp) := by rw [hW1.cell]; rfl
        have HW1 := Lib.hid (HW.out.fr HF1.out (fun e => e))
        have HFw := Lib.hid (HFr.out.trans HF1.out (fun _ _ e => e))
        have HPl := Lib.hid (fun (w' : World) (f : Fr (fun _ => False) w w') k (hk : k < ps.length) => lies_nat (show Lies w' Ap (nC ps) from by
          obtain ⟨_, _, _, _, _, h3, _⟩ := HG.out w' f n hnG
          rw [HNt.1, hps, hAp] at h3
          exact h3) (Fr.refl (fun _ => False) w') k hk)
        have HTk := Lib.hid (nat_snoc ps)
        have HTa := Lib.hid (List.take_length (l := ps))
        have HPx : Hid (∀ k, k < ps.length → ps.getD k 0 < n) := Lib.hid (fun k hk => HDp.out _ (by rw [List.getD_eq_getElem?_getD, List.getElem?_eq_getElem hk]; exact List.getElem_mem hk))
        rw [hP] at HPl HTk HPx HTa
        have HR0 : Hid (∀ j, genF (prG G) n j = if j = n then mostG (genF (prG G) n) (ps.take 0) else genF (prG G) n j) := Lib.hid (fun j => by
          by_cases e : j = n
          · subst e; rw [if_pos rfl, HGe1.out]; rfl
          · rw [if_neg e])
        obtain ⟨gf, hgf⟩ : ∃ gf, genF (prG G) n = gf := ⟨_, rfl⟩
        have HGl1 := Lib.hid (HGl.out n)
        rw [hgf] at HR0 HW1 HMl1 HGs1 HGl1
        have HGF := Lib.hid hgf
        clear hps hAp hcp htd hP HNt hnG hli hlc hW1 hgf
        go_wp2
        go_loopg [28] P (fun kx s28 wr => ∃ i : Nat, s28 = .int .i64 i ∧ i ≤ P ∧ P - i ≤ kx ∧ Hid (Whole wr g 3 (rowC (intC (fun j => if j = n then mostG gf (ps.take i) else gf j)) N)) ∧ Hid (Fr (fun _ => False) w wr))
        case atStart => exact ⟨0, rfl, by omega, by omega, Lib.hid (by have := HW1.out; rwa [show gf = fun j => if j = n then mostG gf (ps.take 0) else gf j from funext HR0.out] at this), HFw⟩
        case round =>
          obtain ⟨i, rfl, hi, hix, HWi, HFi⟩ := hrel
          obtain ⟨wi, rfl⟩ : ∃ wi, wi = wr := ⟨wr, rfl⟩
          have wi1 := wrap_nat1 i (by omega)
          by_cases hiP : i < P
          · have hiz : (i : Int) < P := by omega
            obtain ⟨b3, o3, hB3, cp3⟩ := HPl.out wi HFi.out i hiP
            subst hB3
            have hxn := HPx.out i hiP
            have HTk1 := Lib.hid (HTk.out i hiP)
            obtain ⟨x, hxd⟩ : ∃ x, ps.getD i 0 = x := ⟨_, rfl⟩
            rw [hxd] at cp3 hxn HTk1
            have c1 := HWi.out.rcell n hlt
            have c2 := HWi.out.rcell x (by omega)
            have f1 := HWi.out.frozen n
            simp only [intC, if_true] at c1 c2
            rw [if_neg (show ¬ x = n by omega)] at c2
            have HS := Lib.hid (fun v => HWi.out.rset n (.int .i64 (v : Nat)) hlt (intC (fun j => if j = n then v else gf j)) (fun j hj => by
              unfold intC
              by_cases e : j = n
              · simp [e]
              · simp [e]))
            have HMs := Lib.hid (show mostG gf (ps.take (i + 1)) = max (mostG gf (ps.take i)) (gf x) from by rw [HTk1.out, most_snoc])
            obtain ⟨y, hy⟩ : ∃ y, mostG gf (ps.take i) = y := ⟨_, rfl⟩
            obtain ⟨z, hz⟩ : ∃ z, gf x = z := ⟨_, rfl⟩
            rw [hy] at c1 HMs
            rw [hz] at c2 HMs
            have hx0 : (0 : Int) ≤ (x : Int) := by omega
            have hxz : (x : Int) < (N : Int) := by omega
            clear hxd hy hz
            by_cases hyz : y < z
            · have HE := Lib.hid (show mostG gf (ps.take (i + 1)) = z from by rw [HMs.out]; omega)
              go_upto_region 11 with fail
              go_region
              go_wp2
              go_roundg (P - (i + 1))
              case measure => omega
              case rel => exact ⟨i + 1, by go_num, by omega, Nat.le_refl _, Lib.hid (by rw [HE.out]; exact (HS.out z).fr (Fr.refl (fun _ => False) _).drew (fun e => e)), Lib.hid (HFi.out.trans (((Fr.refl (fun k => k = g) wi).setCell (p := ⟨g, n, none⟩) (fun _ => rfl) _).drew) (fun j hj e => by have := HGg.out; omega))⟩
            · have HE := Lib.hid (show mostG gf (ps.take (i + 1)) = y from by rw [HMs.out]; omega)
              go_upto_region 11 with fail
              go_region
              go_wp2
              go_roundg (P - (i + 1))
              case measure => omega
              case rel => exact ⟨i + 1, by go_num, by omega, Nat.le_refl _, Lib.hid (by rw [HE.out]; exact (HS.out y).fr (Fr.refl (fun _ => False) _).drew (fun e => e)), Lib.hid (HFi.out.trans (((Fr.refl (fun k => k = g) wi).setCell (p := ⟨g, n, none⟩) (fun _ => rfl) _).drew) (fun j hj e => by have := HGg.out; omega))⟩
          · obtain rfl : i = P := by omega
            have c1 := HWi.out.rcell n hlt
            have f1 := HWi.out.frozen n
            simp only [intC, if_true] at c1
            rw [HTa.out] at c1
            have hy128 := HMl1.out ps
            obtain ⟨y, hy⟩ : ∃ y, mostG gf ps = y := ⟨_, rfl⟩
            rw [hy] at c1 hy128
            have HY := Lib.hid hy
            have wy := wrap_nat1 y (by omega)
            have HS := Lib.hid (HWi.out.rset n (.int .i64 ((y : Int) + 1)) hlt (intC (genF (prG G) (n + 1))) (fun j hj => by
              unfold intC
              rw [HGs1.out]
              by_cases e : j = n
              · rw [if_pos e, if_pos e, HY.out]; congr 1
              · rw [if_neg e, if_neg e]; simp [e]))
            clear hy
            go_wp2
            go_roundg (N - (n + 1))
            case measure => omega
            case rel => exact ⟨n + 1, by go_num, by omega, Nat.le_refl _, HS, Lib.hid (HFi.out.trans ((Fr.refl (fun k => k = g) wi).setCell (p := ⟨g, n, none⟩) (fun _ => rfl) _) (fun j hj e => by have := HGg.out; omega))⟩
      · obtain rfl : n = N := by omega
        go_wp2
        go_ret2
        exact ⟨_, rfl, by rw [if_pos rfl, ← HL.out]; exact OwnN.of_made hlen HW.out HGg.out HFr.out⟩
  · obtain ⟨E, hEE⟩ : ∃ E, chkG G = E := ⟨_, rfl⟩
    rw [hEE] at hE HChk ⊢
    have HE := Lib.hid hE
    have hen : (E == 0) = false := by simpa using hE
    clear hG hEE
    go_enter Try.func9, Try.ntmps9
    go_wp2_with (go_at_call 11; refine HChk.out.mono ?_; rintro e w1 ⟨rfl, b1⟩; have HF1 := Lib.hid (Fr.of_below (S := fun _ => False) b1); clear b1)
    go_ret2
    exact ⟨_, rfl, by rw [if_neg HE.out]; exact OwnN.nil HF1.out⟩
end Go.Proofs.Ytfpolfcmfdmifaa

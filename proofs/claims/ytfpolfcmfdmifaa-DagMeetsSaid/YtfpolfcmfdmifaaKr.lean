/- What is proved: ancestors of some that are none of others, and where two nodes meet, by the document; what the program tells is that. Conditions: the cells are there, the graph right, the numbers nodes'. -/
import Derived.Test.YtfpolfcmfdmifaaKq
namespace Go.Proofs.Ytfpolfcmfdmifaa
open Go.RowKit Go.Shelf
set_option linter.unusedVariables false

theorem head_doc {G : List Nd} (hR : RightG G) (l : List Nat) (hl : ∀ x ∈ l, x < G.length) : selB (hdB (prG G) G.length (fun k => decide (k ∈ l))) G.length = headL G l := selB_congr (fun k hk => by
  rw [hd_top]; exact top_up hR.dn l hl k hk)
theorem bas_doc {G : List Nd} (a b : Nat) : selB (hdB (prG G) G.length (fun k => decide (k ∈ selB (bothB (prG G) G.length [a] [b]) G.length))) G.length = basL G a b := selB_congr (fun k hk => hd_sel _ _ _ k hk)
theorem both_at (pr : Nat → List Nat) (N : Nat) (a b : List Nat) (k : Nat) : bothB pr N a b k = (upB pr N a k && upB pr N b k) := rfl

set_option maxHeartbeats 3200000 in
set_option maxRecDepth 100000 in
theorem QaRange_any (A : Option Addr) (c : Nat) (G : List Nd) (B1 : Option Addr) (c1 : Nat) (l1 : List Nat) (B2 : Option Addr) (c2 : Nat) (l2 : List Nat) (hR : RightG G) (n1 : l1.length ≤ 100000) (hl1 : ∀ x ∈ l1, x < G.length) (n2 : l2.length ≤ 100000) (hl2 : ∀ x ∈ l2, x < G.length) (w : World) (hG : GAt w A G) (h1 : Lies w B1 (nC l1)) (h2 : Lies w B2 (nC l2)) :
    Calls Try.prog 26 #[.slice A G.length c, .slice B1 l1.length c1, .slice B2 l2.length c2] w fun e w' => ∃ v, e = .returned v ∧ OwnN w w' v (rngL G l1 l2) := by
  have HU1 := Lib.hid (QaUp_any A c G B1 c1 l1 hR n1 hl1 w hG h1)
  have HU2 := Lib.hid (fun w1 (f : Fr (fun _ => False) w w1) => QaUp_any A c G B2 c2 l2 hR n2 hl2 w1 (hG.fr f) (h2.fr f (fun _ _ e => e)))
  have HLi := Lib.hid (fun w1 g f (h1 : Whole w1 g 4 (rowC (boolC f) G.length)) => QaList_any g G.length f (by have := hR.len; omega) w1 h1)
  have HFin : Hid (selB (fun k => upB (prG G) G.length l1 k && !upB (prG G) G.length l2 k) G.length = rngL G l1 l2) := Lib.hid rfl
  have hlen := hR.len
  obtain ⟨N, hN⟩ : ∃ N, G.length = N := ⟨_, rfl⟩
  obtain ⟨L1, hL1⟩ : ∃ N, l1.length = N := ⟨_, rfl⟩
  obtain ⟨L2, hL2⟩ : ∃ N, l2.length = N := ⟨_, rfl⟩
  rw [hN] at HU1 HU2 HLi hlen HFin ⊢
  rw [hL1] at HU1 ⊢
  rw [hL2] at HU2 ⊢
  obtain ⟨u, hu1⟩ : ∃ u, upB (prG G) N l1 = u := ⟨_, rfl⟩
  obtain ⟨v, hv1⟩ : ∃ u, upB (prG G) N l2 = u := ⟨_, rfl⟩
  rw [hu1] at HU1
  rw [hv1] at HU2
  rw [show (fun k => upB (prG G) N l1 k && !upB (prG G) N l2 k) = (fun k => u k && !v k) by rw [hu1, hv1]] at HFin
  obtain ⟨T, hT⟩ : ∃ T, rngL G l1 l2 = T := ⟨_, rfl⟩
  rw [hT] at HFin ⊢
  clear hR n1 hl1 n2 hl2 hG h1 h2 hN hL1 hL2 hu1 hv1 hT
  go_enter Try.func26, Try.ntmps26
  go_wp2_with (first
    | (go_at_call 20; have _ := M1; refine (HU2.out _ HO1.out.old).mono ?_; rintro e w2 ⟨g2, rfl, h2⟩; have HO2 := Lib.hid h2; clear h2)
    | (go_at_call 20; refine HU1.out.mono ?_; rintro e w1 ⟨g1, rfl, h1⟩; have HO1 := Lib.hid h1; have M1 := True.intro; clear h1))
  have HOa := Lib.hid (HO1.out.fr HO2.out.old)
  have HNe := Lib.hid (show g2 ≠ g1 from by have h1 := HO2.out.new; have h2 := HO1.out.row.lt; omega)
  have HVr := Lib.hid HO2.out.row
  clear HO1 HO2 HU1 HU2
  go_loopg [9] N (fun kx s9 wr => ∃ j : Nat, s9 = .int .i64 j ∧ j ≤ N ∧ N - j ≤ kx ∧ Hid (OwB w wr g1 N (fun i => if i < j then u i && !v i else u i)) ∧ Hid (Whole wr g2 4 (rowC (boolC v) N)))
  case atStart => exact ⟨0, rfl, by omega, by omega, Lib.hid (by simpa using HOa.out), HVr⟩
  case round =>
    obtain ⟨j, rfl, hj, hjx, HOj, HVj⟩ := hrel
    obtain ⟨wi, rfl⟩ : ∃ wi, wi = wr := ⟨wr, rfl⟩
    have wj1 := wrap_nat1 j (by omega)
    by_cases hjl : j < N
    · have hjz : (j : Int) < (N : Int) := by omega
      have hj0 : (0 : Int) ≤ (j : Int) := by omega
      have cm := HOj.out.row.rcell j hjl
      have fm := HOj.out.row.frozen j
      have cu := HVj.out.rcell j hjl
      simp only [boolC, Nat.lt_irrefl, if_false] at cm cu
      have HS := Lib.hid (fun b (hb : (u j && !v j) = b) => HOj.out.set j hjl b (fun i => if i < j + 1 then u i && !v i else u i) (fun i hi => by
        by_cases e : i = j
        · subst e; rw [if_pos rfl, if_pos (by omega), hb]
        · rw [if_neg e]
          by_cases e2 : i < j
          · rw [if_pos e2, if_pos (by omega)]
          · rw [if_neg e2, if_neg (by omega)]))
      have HUs := Lib.hid (fun x => HVj.out.fr ((Fr.refl (fun k => k = g1) wi).setCell (p := ⟨g1, j, none⟩) (fun _ => rfl) x) HNe.out)
      obtain ⟨b1, hb1⟩ : ∃ b, u j = b := ⟨_, rfl⟩
      obtain ⟨b2, hb2⟩ : ∃ b, v j = b := ⟨_, rfl⟩
      have HSb := Lib.hid (HS.out (b1 && !b2) (by rw [hb1, hb2]))
      rw [hb1] at cm
      rw [hb2] at cu
      clear hb1 hb2 HS
      cases b1
      · go_wp2
        go_roundg (N - (j + 1))
        case measure => omega
        case rel => exact ⟨j + 1, by go_num, by omega, Nat.le_refl _, HSb, Lib.hid (HUs.out _)⟩
      · go_wp2
        go_roundg (N - (j + 1))
        case measure => omega
        case rel => exact ⟨j + 1, by go_num, by omega, Nat.le_refl _, HSb, Lib.hid (HUs.out _)⟩
    · obtain rfl : j = N := by omega
      have HE := Lib.hid (show selB (fun i => if i < j then u i && !v i else u i) j = T from by rw [← HFin.out]; exact selB_congr (fun k hk => by rw [if_pos hk]))
      go_wp2_with (go_at_call 19; refine (HLi.out _ g1 _ HOj.out.row).mono ?_; rintro e w5 ⟨x, rfl, ho⟩; rw [HE.out] at ho; have HOv := Lib.hid ho; clear ho)
      go_ret
      exact ⟨x, rfl, HOv.out.base HOj.out.old⟩

set_option maxHeartbeats 3200000 in
set_option maxRecDepth 100000 in
theorem QaBases_any (A : Option Addr) (c : Nat) (G : List Nd) (a b : Nat) (hR : RightG G) (ha : a < G.length) (hb : b < G.length) (w : World) (hG : GAt w A G) :
    Calls Try.prog 23 #[.slice A G.length c, .int .i64 a, .int .i64 b] w fun e w' => ∃ v, e = .returned v ∧ OwnN w w' v (basL G a b) := by
  obtain ⟨i0, hi, hz0, hz1, hz2⟩ := info_parts info_int
  have HUp := Lib.hid (fun (x : Nat) (hx : x < G.length) (w1 : World) (f : Fr (fun _ => False) w w1) => QaUp_any A c G (some ⟨w1.heap.size, 0, none⟩) 1 [x] hR (by simp) (by simpa using hx) (w1.alloc (.cells #[.int .i64 (x : Nat)] 3)) (hG.fr (f.alloc _)) (Lies.of_whole (Whole.new w1 3 _)))
  simp only [List.length_cons, List.length_nil, Nat.zero_add] at HUp
  have HHd := Lib.hid (fun w1 (f : Fr (fun _ => False) w w1) B cB (l : List Nat) (hl1 : l.length ≤ 100000) (hl2 : ∀ x ∈ l, x < G.length) (h1 : Lies w1 B (nC l)) => QaHeads_any A c G B cB l hR hl1 hl2 w1 (hG.fr f) h1)
  have HFin := Lib.hid (bas_doc (G := G) a b)
  have hlen := hR.len
  have HS := Lib.hid (selB_succ (bothB (prG G) G.length [a] [b]))
  have HLen := Lib.hid (selB_len (bothB (prG G) G.length [a] [b]))
  have HMem := Lib.hid (mem_selB (bothB (prG G) G.length [a] [b]))
  have HAt := Lib.hid (both_at (prG G) G.length [a] [b])
  obtain ⟨N, hN⟩ : ∃ N, G.length = N := ⟨_, rfl⟩
  have HN := Lib.hid hN
  rw [hN] at HUp HHd HFin hlen HS HLen HMem HAt ha hb ⊢
  obtain ⟨X, hX⟩ : ∃ X, bothB (prG G) N [a] [b] = X := ⟨_, rfl⟩
  rw [hX] at HFin HS HLen HMem HAt
  obtain ⟨u, hu1⟩ : ∃ u, upB (prG G) N [a] = u := ⟨_, rfl⟩
  obtain ⟨v, hv1⟩ : ∃ u, upB (prG G) N [b] = u := ⟨_, rfl⟩
  have HUa := Lib.hid (HUp.out a ha)
  have HUb := Lib.hid (HUp.out b hb)
  rw [hu1] at HUa
  rw [hv1] at HUb
  rw [hu1, hv1] at HAt
  obtain ⟨T, hT⟩ : ∃ T, basL G a b = T := ⟨_, rfl⟩
  rw [hT] at HFin ⊢
  clear hR ha hb hG hN hX hu1 hv1 hT HUp
  go_enter Try.func23, Try.ntmps23
  go_wp2_with (first
    | (go_at_call 20; have _ := M1; refine (HUb.out _ HF1.out).mono ?_; rintro e w2 ⟨g2, rfl, h2⟩; have HO2 := Lib.hid (h2.base ((Fr.refl _ _).alloc _)); clear h2)
    | (go_at_call 20; refine (HUa.out _ (Fr.refl _ _)).mono ?_; rintro e w1 ⟨g1, rfl, h1⟩; have HO1 := Lib.hid (h1.base ((Fr.refl _ _).alloc _)); have HF1 := Lib.hid (HO1.out.old); have M1 := True.intro; clear h1))
  have HOa := Lib.hid (HO1.out.fr HO2.out.old)
  have HUr := Lib.hid HOa.out.row
  have HVr := Lib.hid HO2.out.row
  have HF2 := Lib.hid HOa.out.old
  clear HO1 HO2 HUa HUb HOa
  go_loopg [9, 10] N (fun kx s9 s10 wr => ∃ (k : Nat) (v : Value), s10 = .int .i64 k ∧ v = s9 ∧ k ≤ N ∧ N - k ≤ kx ∧ Hid (OwnN w2 wr v (selB X k)))
  case atStart => exact ⟨0, .slice none 0 0, rfl, rfl, by omega, by omega, Lib.hid (OwnN.nil (Fr.refl _ _))⟩
  case round =>
    obtain ⟨k, vl, rfl, rfl, hk, hkx, HO⟩ := hrel
    obtain ⟨wo, rfl⟩ : ∃ wo, wo = wr := ⟨wr, rfl⟩
    have wk := wrap_nat1 k (by omega)
    by_cases hlt : k < N
    · have hltz : (k : Int) < N := by omega
      have cm := (HUr.out.fr HO.out.2 (fun e => e)).rcell k hlt
      have cv := (HVr.out.fr HO.out.2 (fun e => e)).rcell k hlt
      simp only [boolC] at cm cv
      have HSk := HS.out k
      rw [HAt.out k] at HSk
      have hLk := HLen.out k
      obtain ⟨b1, hb1⟩ : ∃ b, u k = b := ⟨_, rfl⟩
      obtain ⟨b2, hb2⟩ : ∃ b, v k = b := ⟨_, rfl⟩
      rw [hb1] at cm HSk
      rw [hb2] at cv HSk
      have HSK := Lib.hid HSk
      obtain ⟨w3, hw3⟩ : ∃ w1, wo.alloc (.cells #[.int .i64 (k : Nat)] 3) = w1 := ⟨_, rfl⟩
      have HF3 := Lib.hid (show Fr (fun _ => False) wo w3 from by subst hw3; exact (Fr.refl (fun _ => False) wo).alloc _)
      have HSrc := Lib.hid (show Src Try.prog 1 24 (.slice (some ⟨wo.heap.size, 0, none⟩) 1 1) 1 (nC [k]) w3 from by subst hw3; exact src_one Try.underlying24 wo _ rfl)
      have HO1 := Lib.hid (HO.out.fr HF3.out)
      obtain ⟨l, hl⟩ : ∃ l, selB X k = l := ⟨_, rfl⟩
      rw [hl] at HSK hLk HO1 HO
      have HBase : Hid (w2.heap.size ≤ w3.heap.size) := Lib.hid HO1.out.2.size
      clear hl hb1 hb2 HSk
      cases b1
      · have HE : Hid (selB X (k + 1) = l) := Lib.hid (by rw [HSK.out]; simp)
        go_wp2
        go_roundg (N - (k + 1))
        case measure => omega
        case rel => exact ⟨k + 1, vl, by go_num, rfl, by omega, Nat.le_refl _, Lib.hid (by rw [HE.out]; exact HO.out)⟩
      · cases b2
        · have HE : Hid (selB X (k + 1) = l) := Lib.hid (by rw [HSK.out]; simp)
          go_wp2
          go_roundg (N - (k + 1))
          case measure => omega
          case rel => exact ⟨k + 1, vl, by go_num, rfl, by omega, Nat.le_refl _, Lib.hid (by rw [HE.out]; exact HO.out)⟩
        · have HE : Hid (selB X (k + 1) = l ++ [k]) := Lib.hid (by rw [HSK.out]; simp)
          go_wp2_with (at_builtin; refine wpList_append_row _ rfl (.tmp 35) (.tmp 37) 24 24 rfl w2.heap.size 3 i0 (.int .i64 0) 1 8 Try.underlying24 hi hz0 hz1 hz2 rfl vl l.length (nC l) rfl HO1.out.1 (.slice (some ⟨wo.heap.size, 0, none⟩) 1 1) 1 (nC [k]) rfl HSrc.out (by unfold maxLen; omega) (by omega) HBase.out ?_
                       intro v' w4 o1 g1 at1
                       have HO4 := Lib.hid (HO1.out.grow o1 g1)
                       clear o1 g1 at1)
          go_roundg (N - (k + 1))
          case measure => omega
          case rel => exact ⟨k + 1, v', by go_num, rfl, by omega, Nat.le_refl _, Lib.hid (by rw [HE.out]; exact HO4.out)⟩
    · obtain rfl : k = N := by omega
      have HFo := Lib.hid (HF2.out.trans HO.out.2 (fun _ _ e => e))
      have hl1 := HLen.out k
      have HM2 := Lib.hid (fun x hx => ((HMem.out k x).1 hx).1)
      obtain ⟨Av, cv, hv, _, _, _, hli⟩ := HO.out.shape
      subst hv
      have HC := Lib.hid (HHd.out wo HFo.out Av cv (selB X k) (by omega) HM2.out hli)
      rw [HFin.out] at HC
      clear hli HO hl1
      go_wp2_with (go_at_call 27; refine HC.out.mono ?_; rintro e w5 ⟨x, rfl, ho⟩; have HOv := Lib.hid ho; clear ho)
      go_ret
      exact ⟨x, rfl, HOv.out.base HFo.out⟩
end Go.Proofs.Ytfpolfcmfdmifaa

/- What is proved: which nodes are to be told, and their children, by the program. Conditions: the cells are there. -/
import Derived.Test.YtpaigmmpihcdaaaJl
namespace Go.Proofs.Ytpaigmmpihcdaaa
open Go.RowKit Go.Shelf
set_option linter.unusedVariables false

structure NlR (w wr : World) (gl gh ga N : Nat) (gv : Value) (hs : Nat → Bool) (as' : Nat → Nat) : Prop where
  lb : Whole wr gl 60 #[gv, .slice (some ⟨gh, 0, none⟩) N N, .slice (some ⟨ga, 0, none⟩) N N]
  hb : Whole wr gh 4 (rowC (boolC hs) N)
  ab : Whole wr ga 3 (rowC (intC as') N)
  old : Fr (fun _ => False) w wr
  lh : w.heap.size ≤ gh
  la : w.heap.size ≤ ga
section
variable {w wr w' : World} {gl gh ga N : Nat} {gv : Value} {hs : Nat → Bool} {as' : Nat → Nat}
theorem NlR.frF (h : NlR w wr gl gh ga N gv hs as') (f : Fr (fun _ => False) wr w') : NlR w w' gl gh ga N gv hs as' :=
  ⟨h.lb.fr f (fun e => e), h.hb.fr f (fun e => e), h.ab.fr f (fun e => e), h.old.trans f (fun _ _ e => e), h.lh, h.la⟩
theorem NlR.setH (h : NlR w wr gl gh ga N gv hs as') (x : Nat) (hx : x < N) (hs' : Nat → Bool) (he : ∀ j, j < N → hs' j = if j = x then true else hs j) : NlR w (wr.setCell ⟨gh, x, none⟩ (.bool true)) gl gh ga N gv hs' as' := by
  have s : Fr (fun k => k = gh) wr (wr.setCell ⟨gh, x, none⟩ (.bool true)) := (Fr.refl (fun k => k = gh) wr).setCell (p := ⟨gh, x, none⟩) (fun _ => rfl) _
  refine ⟨h.lb.fr s (fun e => h.lb.apart h.hb (by decide) e), h.hb.rset x _ hx _ (fun j hj => ?_), h.ab.fr s (fun e => h.ab.apart h.hb (by decide) e), h.old.trans s (fun j hj e => by have e2 : j = gh := e; have := h.lh; omega), h.lh, h.la⟩
  unfold boolC
  rw [he j hj]
  by_cases e : j = x
  · subst e; simp
  · simp [e]
theorem NlR.setA (h : NlR w wr gl gh ga N gv hs as') (x v : Nat) (hx : x < N) (as2 : Nat → Nat) (he : ∀ j, j < N → as2 j = if j = x then v else as' j) : NlR w (wr.setCell ⟨ga, x, none⟩ (.int .i64 v)) gl gh ga N gv hs as2 := by
  have s : Fr (fun k => k = ga) wr (wr.setCell ⟨ga, x, none⟩ (.int .i64 v)) := (Fr.refl (fun k => k = ga) wr).setCell (p := ⟨ga, x, none⟩) (fun _ => rfl) _
  refine ⟨h.lb.fr s (fun e => h.lb.apart h.ab (by decide) e), h.hb.fr s (fun e => h.hb.apart h.ab (by decide) e), h.ab.rset x _ hx _ (fun j hj => ?_), h.old.trans s (fun j hj e => by have e2 : j = ga := e; have := h.la; omega), h.lh, h.la⟩
  unfold intC
  rw [he j hj]
  by_cases e : j = x
  · subst e; simp
  · simp [e]
theorem NlR.congr (h : NlR w wr gl gh ga N gv hs as') {hs2 : Nat → Bool} {as2 : Nat → Nat} (h1 : ∀ j, j < N → hs2 j = hs j) (h2 : ∀ j, j < N → as2 j = as' j) : NlR w wr gl gh ga N gv hs2 as2 := by
  refine ⟨h.lb, ?_, ?_, h.old, h.lh, h.la⟩
  · rw [rowC_congr (f := boolC hs) (fun k hk => by unfold boolC; rw [h1 k hk])]; exact h.hb
  · rw [rowC_congr (f := intC as') (fun k hk => by unfold intC; rw [h2 k hk])]; exact h.ab
end
theorem ahN_le (pr : Nat → List Nat) (left : Nat → Bool) (k : Nat) : ∀ n, (∀ m, m < n → (pr m).length ≤ 6) → ahN pr left n k ≤ 6 * n
  | 0, _ => Nat.zero_le _
  | n + 1, h => by
    have ih := ahN_le pr left k n (fun m hm => h m (by omega))
    have h1 := List.count_le_length (l := pr n) (a := k)
    have h2 := h n (by omega)
    rw [ahN]
    split <;> omega
theorem count_snoc (ps : List Nat) (j x : Nat) (h : j < ps.length) (hx : ps.getD j 0 = x) (k : Nat) : (ps.take (j + 1)).count k = (ps.take j).count k + (if k = x then 1 else 0) := by
  rw [nat_snoc ps j h, hx, List.count_append, List.count_cons, List.count_nil]
  by_cases e : k = x
  · subst e; simp
  · have : (x == k) = false := by simpa using fun q => e q.symm
    rw [this, if_neg e]; simp
theorem mem_nz {l : List Int} (h : ∀ z ∈ l, 0 ≤ z) (j : Nat) : (j : Int) ∈ l ↔ j ∈ nz l := by
  unfold nz
  rw [List.mem_map]
  constructor
  · intro hj; exact ⟨(j : Int), hj, by omega⟩
  · rintro ⟨z, hz, e⟩
    have := h z hz
    rwa [show (j : Int) = z by omega]
theorem int_snoc (l : List Int) (k : Nat) (h : k < l.length) : l.take (k + 1) = l.take k ++ [l.getD k 0] := by
  rw [List.take_add_one, List.getElem?_eq_getElem h, List.getD_eq_getElem?_getD, List.getElem?_eq_getElem h]; rfl

set_option maxHeartbeats 1600000 in
set_option maxRecDepth 100000 in
theorem OrnewList_no (A : Option Addr) (c : Nat) (G : List Nd) (B : Option Addr) (cB : Nat) (ls : List Int) (w : World) (hG : GAt w A G) (h0 : ¬ chkG G = 0) :
    Calls Try.prog 26 #[.slice A G.length c, .slice B ls.length cB] w fun e w' => e = .returned (.tuple #[.pointer none, .int .i64 (nodE G ls)]) ∧ Fr (fun _ => False) w w' := by
  have HChk := Lib.hid (DaCheck_any A c G w hG)
  rw [nodE_bad h0]
  obtain ⟨r, hr⟩ : ∃ r, chkG G = r := ⟨_, rfl⟩
  rw [hr] at h0 HChk ⊢
  have hbz : (r == 0) = false := by simpa using h0
  clear hr hG
  go_enter Try.func26, Try.ntmps26
  go_wp2_with (go_at_call 19; refine HChk.out.mono ?_; rintro e w1 ⟨rfl, b1⟩; have HF1 := Lib.hid (Fr.of_below (S := fun _ => False) b1); clear b1)
  go_ret2
  exact ⟨by simp, HF1.out⟩

set_option maxHeartbeats 1600000 in
set_option maxRecDepth 100000 in
theorem OrnewList_yes (A : Option Addr) (c : Nat) (G : List Nd) (B : Option Addr) (cB : Nat) (ls : List Int) (hn : ls.length ≤ 10000) (w : World) (hG : GAt w A G) (hl : Lies w B (zC ls)) (h0 : nodE G ls = 0) :
    Calls Try.prog 26 #[.slice A G.length c, .slice B ls.length cB] w fun e w' => ∃ gl gh ga, e = .returned (.tuple #[.pointer (some ⟨gl, 0, none⟩), .int .i64 0]) ∧ NlR w w' gl gh ga G.length (.slice A G.length c) (fun k => decide (k ∈ nz ls)) (ahN (prG G) (fun k => decide (k ∈ nz ls)) G.length) := by
  have HChk := Lib.hid (DaCheck_any A c G w hG)
  obtain ⟨hokG, hbad⟩ := nodE_zero h0
  have hc0 : chkG G = 0 := by unfold chkG; rw [if_pos hokG]
  have HLs := Lib.hid (fun w' (f : Fr (fun _ => False) w w') k hk => lies_int hl f k hk)
  have HNb : Hid (∀ k, k < ls.length → badZ G.length (ls.getD k 0) = false) := Lib.hid (fun k hk => hbad _ (by rw [List.getD_eq_getElem?_getD, List.getElem?_eq_getElem hk]; exact List.getElem_mem hk))
  have hR := right_of hokG
  have hlen := hR.len
  have HKin := Lib.hid (fun w' (f : Fr (fun _ => False) w w') n hn => hG.node f n hn)
  have HNat := Lib.hid hR.nat
  have HFew := Lib.hid hR.few
  have HLt := Lib.hid (pr_lt hR)
  rw [hc0] at HChk
  have hmb := fun w1 => make_bools G.length (by omega) w1
  have hmi := fun w1 => make_ints G.length (by omega) w1
  have HAle := Lib.hid (fun left n k (hn : n ≤ G.length) => ahN_le (prG G) left k n (fun m hm => hR.few m (by omega)))
  have HAs : Hid (∀ left n k, ahN (prG G) left (n + 1) k = ahN (prG G) left n k + if left n = true then (prG G n).count k else 0) := Lib.hid (fun left n k => rfl)
  have HA0 : Hid (∀ left, ahN (prG G) left 0 = fun _ => 0) := Lib.hid (fun left => by funext k; rfl)
  have HMy := Lib.hid (fun j => mem_nz (l := ls) (fun z hz => (badZ_no (hbad z hz)).1) j)
  obtain ⟨has, hhas⟩ : ∃ f : Nat → Bool, (fun k => decide (k ∈ nz ls)) = f := ⟨_, rfl⟩
  have HHs : Hid (∀ j : Nat, has j = decide ((j : Int) ∈ ls)) := Lib.hid (fun j => by rw [← hhas]; simp only [HMy.out j])
  rw [hhas]
  have HTk := Lib.hid (int_snoc ls)
  have HTa := Lib.hid (List.take_length (l := ls))
  obtain ⟨N, hN⟩ : ∃ N, G.length = N := ⟨_, rfl⟩
  have HN := Lib.hid hN
  rw [hN] at hmb hmi HAle hlen HFew HLt HNb HChk ⊢
  obtain ⟨L, hL⟩ : ∃ L, ls.length = L := ⟨_, rfl⟩
  have HL := Lib.hid hL
  rw [hL] at hn HLs HNb HTk HTa ⊢
  clear hG hl hokG hR h0 hN hL hbad hc0 hhas HMy
  go_enter Try.func26, Try.ntmps26
  go_upto_region 4 with (go_at_call 19; refine HChk.out.mono ?_; rintro e w1 ⟨rfl, b1⟩; have HF1 := Lib.hid (Fr.of_below (S := fun _ => False) b1); clear b1)
  (
    refine wp_region_held (S := fun _ => True) (by kernel_rfl) ?_
    change wpAnyH _ _ _ _ _ _ _ _ (World.drew w1)
    have HFc := Lib.hid (show Fr (fun _ => False) w w1.drew from HF1.out.drew)
    obtain ⟨wc, hwc⟩ : ∃ wc, w1.drew = wc := ⟨_, rfl⟩
    rw [hwc] at HFc ⊢
    clear hwc HF1 HChk
    (
      refine wpAnyH_takeM (i := 0) (v := .slice A N c) 19 rfl rfl (by kernel_rfl) (by kernel_rfl) (by kernel_rfl) (fun _ _ _ h => h) (.inl ⟨by rfl, ?_⟩) trivial ?_
      · intro wq hq
        go_simp)
    (
      refine wpAnyH_takeM (i := 1) (v := .slice A N c) 20 rfl rfl (by kernel_rfl) (by kernel_rfl) (by kernel_rfl) (fun _ _ _ h => h) (.inl ⟨by rfl, ?_⟩) trivial ?_
      · intro wq hq
        go_simp)
    (
      refine wpAnyH_takeM (i := 2) (v := .int .i64 N) 21 rfl rfl (by kernel_rfl) (by kernel_rfl) (by kernel_rfl) (fun _ _ _ h => h) (.inl ⟨by rfl, ?_⟩) trivial ?_
      · intro wq hq
        go_simp)
    (
      refine wpAnyH_takeM (i := 4) (v := .slice A N c) 23 rfl rfl (by kernel_rfl) (by kernel_rfl) (by kernel_rfl) (fun _ _ _ h => h) (.inl ⟨by rfl, ?_⟩) trivial ?_
      · intro wq hq
        go_simp)
    (
      refine wpAnyH_takeM (i := 5) (v := .int .i64 N) 24 rfl rfl (by kernel_rfl) (by kernel_rfl) (by kernel_rfl) (fun _ _ _ h => h) (.inl ⟨by rfl, ?_⟩) trivial ?_
      · intro wq hq
        go_simp)
    try simp only [List.setIfInBounds_toArray, List.set_cons_succ, List.set_cons_zero]
    refine wpAnyH_all (rs := [3, 6]) (by kernel_rfl) (by simp) ?_
    intro i hi
    simp only [List.mem_cons, List.not_mem_nil, or_false] at hi
    rcases hi with rfl | rfl
    · (
      refine wpOp_step rfl (fun K hK => ?_)
      go_simp
      refine hK _ _ ⟨trivial, ?_⟩
      clear hK K
      (
        try simp only [List.setIfInBounds_toArray, List.set_cons_succ, List.set_cons_zero]
        refine wpAnyH_all (rs := [6]) (by kernel_rfl) (by simp) ?_
        intro i hi
        simp only [List.mem_cons, List.not_mem_nil, or_false] at hi
        subst hi
        refine wpOp_step rfl (fun K hK => ?_)
        go_simp
        refine hK _ _ ⟨trivial, ?_⟩)
      clear hK K
      generalize hw2 : World.alloc (World.alloc wc _) _ = w2
      have HB2 := Lib.hid (show Whole w2 wc.heap.size 4 (rowC (boolC fun _ => false) N) from by
        subst hw2
        first
          | (have h := Whole.new (wc.alloc (.cells (rowC (intC fun _ => 0) N) 3)) 4 (rowC (boolC fun _ => false) N); rw [World.size_alloc] at h; exact h)
          | exact (Whole.new wc 4 (rowC (boolC fun _ => false) N)).fr ((Fr.refl (fun _ => False) _).alloc _) (fun e => e))
      have HI2 := Lib.hid (show Whole w2 (wc.heap.size + 1) 3 (rowC (intC fun _ => 0) N) from by
        subst hw2
        first
          | (have h := Whole.new (wc.alloc (.cells (rowC (boolC fun _ => false) N) 4)) 3 (rowC (intC fun _ => 0) N); rw [World.size_alloc] at h; exact h)
          | exact (Whole.new wc 3 (rowC (intC fun _ => 0) N)).fr ((Fr.refl (fun _ => False) _).alloc _) (fun e => e))
      have HF2 := Lib.hid (show Fr (fun _ => False) w w2 from by subst hw2; exact (HFc.out.alloc _).alloc _)
      have HSz : Hid (w.heap.size ≤ wc.heap.size) := Lib.hid HFc.out.size
      obtain ⟨gh, hgh⟩ : ∃ gh, wc.heap.size = gh := ⟨_, rfl⟩
      obtain ⟨ga, hga⟩ : ∃ ga, (wc.heap.size + 1) = ga := ⟨_, rfl⟩
      first
        | (rw [hga] at HI2 ⊢; rw [hgh] at HB2 ⊢)
        | (rw [hgh] at HB2 ⊢; rw [hga] at HI2 ⊢)
      have HGh : Hid (w.heap.size ≤ gh) := Lib.hid (by have := HSz.out; omega)
      have HGa : Hid (w.heap.size ≤ ga) := Lib.hid (by have := HSz.out; omega)
      clear hgh hga hw2 HSz HFc hmb hmi
      (
        try simp only [List.setIfInBounds_toArray, List.set_cons_succ, List.set_cons_zero]
        refine wpAnyH_all (rs := [7]) (by kernel_rfl) (by simp) ?_
        intro i hi
        simp only [List.mem_cons, List.not_mem_nil, or_false] at hi
        subst hi
        refine wpOp_step rfl (fun K hK => ?_)
        go_simp
        refine hK _ _ ⟨trivial, ?_⟩)
      clear hK K
      (
        try simp only [List.setIfInBounds_toArray, List.set_cons_succ, List.set_cons_zero]
        refine wpAnyH_all (rs := [8]) (by kernel_rfl) (by simp) ?_
        intro i hi
        simp only [List.mem_cons, List.not_mem_nil, or_false] at hi
        subst hi
        refine wpOp_step rfl (fun K hK => ?_)
        go_simp
        refine hK _ _ ⟨trivial, ?_⟩)
      clear hK K
      (
        try simp only [List.setIfInBounds_toArray, List.set_cons_succ, List.set_cons_zero]
        refine wpAnyH_all (rs := [9]) (by kernel_rfl) (by simp) ?_
        intro i hi
        simp only [List.mem_cons, List.not_mem_nil, or_false] at hi
        subst hi
        refine wpOp_step rfl (fun K hK => ?_)
        go_simp
        refine hK _ _ ⟨trivial, ?_⟩)
      clear hK K
      refine wpAnyH_done (by kernel_rfl) ?_ _
      obtain ⟨w3, hw3⟩ : ∃ w3, w2.alloc (.cells #[.slice A N c, .slice (some ⟨gh, 0, none⟩) N N, .slice (some ⟨ga, 0, none⟩) N N] 60) = w3 := ⟨_, rfl⟩
      have HF3 := Lib.hid (show Fr (fun _ => False) w2 w3 from by subst hw3; exact (Fr.refl _ w2).alloc _)
      have HO3 := Lib.hid (show NlR w w3 w2.heap.size gh ga N (.slice A N c) (fun j => decide ((j : Int) ∈ ls.take 0)) (fun _ => 0) from
        NlR.congr (hs := fun _ => false) (as' := fun _ => 0) ⟨by subst hw3; exact Whole.new w2 60 _, HB2.out.fr HF3.out (fun e => e), HI2.out.fr HF3.out (fun e => e), HF2.out.trans HF3.out (fun _ _ e => e), HGh.out, HGa.out⟩ (fun j hj => by simp) (fun j hj => rfl))
      rw [hw3]
      obtain ⟨gl, hgl⟩ : ∃ gl, w2.heap.size = gl := ⟨_, rfl⟩
      rw [hgl] at HO3 ⊢
      clear hw3 hgl HF3 HB2 HI2 HF2 HGh HGa)
      (
        go_wp2
        go_loopg [30] L (fun kx s30 wr => ∃ k : Nat, s30 = .int .i64 k ∧ k ≤ L ∧ L - k ≤ kx ∧ Hid (NlR w wr gl gh ga N (.slice A N c) (fun j => decide ((j : Int) ∈ ls.take k)) (fun _ => 0)))
        case atStart => exact ⟨0, rfl, by omega, by omega, HO3⟩
        case round =>
          obtain ⟨k, rfl, hk, hkx, HO⟩ := hrel
          obtain ⟨wo, rfl⟩ : ∃ wo, wo = wr := ⟨wr, rfl⟩
          have wk := wrap_nat1 k (by omega)
          by_cases hlt : k < L
          · have hltz : (k : Int) < L := by omega
            obtain ⟨bb, o, hBk, cx⟩ := HLs.out wo HO.out.old k hlt
            subst hBk
            have HTk1 := Lib.hid (HTk.out k hlt)
            have hxb := badZ_no (HNb.out k hlt)
            obtain ⟨x, hx⟩ : ∃ x : Nat, ls.getD k 0 = (x : Int) := ⟨(ls.getD k 0).toNat, by omega⟩
            rw [hx] at cx HTk1 hxb
            have hxN : x < N := by omega
            have hx0 : ¬ ((x : Int) < 0) := by omega
            have hx1 : ¬ ((x : Int) ≥ (N : Int)) := by omega
            have hx2 : (0 : Int) ≤ (x : Int) := by omega
            have hxz : (x : Int) < (N : Int) := by omega
            have c1 : wo.cell? ⟨gl, 1, none⟩ = some (.slice (some ⟨gh, 0, none⟩) N N) := by rw [HO.out.lb.cell]; rfl
            have cm := HO.out.hb.rcell x hxN
            have fm := HO.out.hb.frozen x
            simp only [boolC] at cm
            obtain ⟨b, hb⟩ : ∃ b, decide ((x : Int) ∈ ls.take k) = b := ⟨_, rfl⟩
            rw [hb] at cm
            have HS := Lib.hid (HO.out.setH x hxN (fun j => decide ((j : Int) ∈ ls.take (k + 1))) (fun j hj => by
              rw [HTk1.out]
              by_cases e : j = x
              · simp [e]
              · have : ¬ (j : Int) = (x : Int) := by omega
                simp [e, this]))
            clear hx hb hxb hxN
            go_wp2
            go_roundg (L - (k + 1))
            case measure => omega
            case rel => exact ⟨k + 1, by go_num, by omega, Nat.le_refl _, HS⟩
          · obtain rfl : k = L := by omega
            have HO2 := Lib.hid (HO.out.congr (hs2 := has) (as2 := ahN (prG G) has 0) (fun j hj => by rw [HHs.out, HTa.out]) (fun j hj => by rw [HA0.out]))
            clear HO
            go_wp2
            go_loopg [51] N (fun kx s51 wr => ∃ n : Nat, s51 = .int .i64 n ∧ n ≤ N ∧ N - n ≤ kx ∧ Hid (NlR w wr gl gh ga N (.slice A N c) has (ahN (prG G) has n)))
            case atStart => exact ⟨0, rfl, by omega, by omega, HO2⟩
            case round =>
              obtain ⟨n, rfl, hnN, hnx, HOn⟩ := hrel
              obtain ⟨wi, rfl⟩ : ∃ wi, wi = wr := ⟨wr, rfl⟩
              have wn := wrap_nat1 n (by omega)
              by_cases hnl : n < N
              · have hnz : (n : Int) < (N : Int) := by omega
                have hn0 : (0 : Int) ≤ (n : Int) := by omega
                have hnG : n < G.length := by rw [HN.out]; exact hnl
                obtain ⟨b9, o9, h91, h92, h93, hli, h94⟩ := HKin.out w (Fr.refl _ _) n hnG
                clear h91 h92 h93 h94
                obtain ⟨bb, o, hBk, ca, cb, hli2, hlc⟩ := HKin.out wi HOn.out.old n hnG
                subst hBk
                clear hli2 hlc
                rw [(HNat.out n hnG).1] at hli
                rw [(HNat.out n hnG).2] at ca
                have HPl := Lib.hid (fun w' (f : Fr (fun _ => False) w w') j hj => lies_nat hli f j hj)
                have hfew := HFew.out n hnl
                have HLt1 := Lib.hid (HLt.out n hnl)
                have HAn := Lib.hid (HAs.out has n)
                have HAl := Lib.hid (fun k => HAle.out has n k hnN)
                obtain ⟨ps, hps⟩ : ∃ ps, prG G n = ps := ⟨_, rfl⟩
                rw [hps] at hfew HLt1 HAn HPl ca
                obtain ⟨P, hP⟩ : ∃ P, ps.length = P := ⟨_, rfl⟩
                have HPp := Lib.hid hP
                rw [hP] at hfew HLt1 HPl ca
                obtain ⟨F, hF⟩ : ∃ F, ahN (prG G) has n = F := ⟨_, rfl⟩
                rw [hF] at HOn HAn HAl
                obtain ⟨b, hb⟩ : ∃ b, has n = b := ⟨_, rfl⟩
                have HBn := Lib.hid hb
                rw [hb] at HAn
                obtain ⟨Ad, hAd⟩ : ∃ A, G[n].A = A := ⟨_, rfl⟩
                obtain ⟨cd, hcd⟩ : ∃ A, G[n].c = A := ⟨_, rfl⟩
                obtain ⟨td, htd⟩ : ∃ A, G[n].t = A := ⟨_, rfl⟩
                rw [hAd] at HPl
                rw [hAd, hcd] at ca
                rw [htd] at cb
                have cb2 : wi.cell? ⟨bb, o + n * 2 + 1, none⟩ = some (.int .i64 td) := by rw [Nat.add_assoc]; exact cb
                obtain ⟨wa, hwa⟩ : ∃ w2, wi.alloc (.cells #[.slice Ad P cd, .int .i64 td] 38) = w2 := ⟨_, rfl⟩
                have HFa := Lib.hid (show Fr (fun _ => False) wi wa from by subst hwa; exact (Fr.refl (fun _ => False) wi).alloc _)
                have HWa := Lib.hid (show Whole wa wi.heap.size 38 #[.slice Ad P cd, .int .i64 td] from by subst hwa; exact Whole.new wi 38 _)
                have d0 : wa.cell? ⟨wi.heap.size, 0, none⟩ = some (.slice Ad P cd) := by rw [HWa.out.cell]; rfl
                have HOa := Lib.hid (HOn.out.frF HFa.out)
                have HSt := Lib.hid (show NlR w wa gl gh ga N (.slice (some ⟨bb, o, none⟩) N c) has (fun k => F k + if b = true then (ps.take 0).count k else 0) from HOa.out.congr (fun j hj => rfl) (fun j hj => by simp))
                clear hps hP hF hb hAd hcd htd hli hnG
                go_wp2
                go_loopg [59] P (fun kx s59 wr => ∃ j : Nat, s59 = .int .i64 j ∧ j ≤ P ∧ P - j ≤ kx ∧ Hid (NlR w wr gl gh ga N (.slice (some ⟨bb, o, none⟩) N c) has (fun k => F k + if b = true then (ps.take j).count k else 0)))
                case atStart => exact ⟨0, rfl, by omega, by omega, HSt⟩
                case round =>
                  obtain ⟨j, rfl, hj, hjx, HOj⟩ := hrel
                  obtain ⟨wj, rfl⟩ : ∃ wj, wj = wr := ⟨wr, rfl⟩
                  have wj1 := wrap_nat1 j (by omega)
                  by_cases hjP : j < P
                  · have hjz : (j : Int) < P := by omega
                    obtain ⟨b3, o3, hB3, cp3⟩ := HPl.out wj HOj.out.old j hjP
                    subst hB3
                    have hxn := HLt1.out j hjP
                    have HCt := Lib.hid (fun k => count_snoc ps j (ps.getD j 0) (by rw [HPp.out]; exact hjP) rfl k)
                    obtain ⟨x, hxd⟩ : ∃ x, ps.getD j 0 = x := ⟨_, rfl⟩
                    rw [hxd] at cp3 hxn HCt
                    have c1 : wj.cell? ⟨gl, 1, none⟩ = some (.slice (some ⟨gh, 0, none⟩) N N) := by rw [HOj.out.lb.cell]; rfl
                    have c2 : wj.cell? ⟨gl, 2, none⟩ = some (.slice (some ⟨ga, 0, none⟩) N N) := by rw [HOj.out.lb.cell]; rfl
                    have cn := HOj.out.hb.rcell n hnl
                    simp only [boolC, HBn.out] at cn
                    have hx0 : (0 : Int) ≤ (x : Int) := by omega
                    have hxz : (x : Int) < (N : Int) := by omega
                    cases b
                    · have HS := Lib.hid (HOj.out.congr (hs2 := has) (as2 := fun k => F k + if false = true then (ps.take (j + 1)).count k else 0) (fun i hi => rfl) (fun i hi => rfl))
                      clear hxd
                      go_wp2
                      go_roundg (P - (j + 1))
                      case measure => omega
                      case rel => exact ⟨j + 1, by go_num, by omega, Nat.le_refl _, HS⟩
                    · have ca3 := HOj.out.ab.rcell x (by omega)
                      have fa3 := HOj.out.ab.frozen x
                      simp only [intC, if_true] at ca3
                      have hcl := List.count_le_length (l := ps.take j) (a := x)
                      rw [List.length_take] at hcl
                      have hfl := HAl.out x
                      obtain ⟨y, hy⟩ : ∃ y, F x + (ps.take j).count x = y := ⟨_, rfl⟩
                      have hyl : y ≤ 10000 := by omega
                      have wy := wrap_nat1 y (by omega)
                      have HS := Lib.hid (HOj.out.setA x (y + 1) (by omega) (fun k => F k + if true = true then (ps.take (j + 1)).count k else 0) (fun i hi => by
                        simp only [if_true]
                        rw [HCt.out i]
                        by_cases e : i = x
                        · subst e; rw [if_pos rfl, if_pos rfl]; omega
                        · rw [if_neg e, if_neg e]; omega))
                      rw [hy] at ca3
                      have hz : ((y + 1 : Nat) : Int) = (y : Int) + 1 := by omega
                      rw [hz] at HS
                      clear hy hcl hfl hxd hyl hz
                      go_wp2
                      go_roundg (P - (j + 1))
                      case measure => omega
                      case rel => exact ⟨j + 1, by go_num, by omega, Nat.le_refl _, HS⟩
                  · obtain rfl : j = P := by omega
                    have HOe := Lib.hid (HOj.out.congr (hs2 := has) (as2 := ahN (prG G) has (n + 1)) (fun i hi => rfl) (fun i hi => by rw [HAn.out i, ← HPp.out, List.take_length]))
                    go_wp2
                    go_roundg (N - (n + 1))
                    case measure => omega
                    case rel => exact ⟨n + 1, by go_num, by omega, Nat.le_refl _, HOe⟩
              · obtain rfl : n = N := by omega
                go_wp2
                go_ret2
                exact ⟨gl, gh, ga, by simp, HOn.out⟩)
    · (
      refine wpOp_step rfl (fun K hK => ?_)
      go_simp
      refine hK _ _ ⟨trivial, ?_⟩
      clear hK K
      (
        try simp only [List.setIfInBounds_toArray, List.set_cons_succ, List.set_cons_zero]
        refine wpAnyH_all (rs := [3]) (by kernel_rfl) (by simp) ?_
        intro i hi
        simp only [List.mem_cons, List.not_mem_nil, or_false] at hi
        subst hi
        refine wpOp_step rfl (fun K hK => ?_)
        go_simp
        refine hK _ _ ⟨trivial, ?_⟩)
      clear hK K
      generalize hw2 : World.alloc (World.alloc wc _) _ = w2
      have HB2 := Lib.hid (show Whole w2 (wc.heap.size + 1) 4 (rowC (boolC fun _ => false) N) from by
        subst hw2
        first
          | (have h := Whole.new (wc.alloc (.cells (rowC (intC fun _ => 0) N) 3)) 4 (rowC (boolC fun _ => false) N); rw [World.size_alloc] at h; exact h)
          | exact (Whole.new wc 4 (rowC (boolC fun _ => false) N)).fr ((Fr.refl (fun _ => False) _).alloc _) (fun e => e))
      have HI2 := Lib.hid (show Whole w2 wc.heap.size 3 (rowC (intC fun _ => 0) N) from by
        subst hw2
        first
          | (have h := Whole.new (wc.alloc (.cells (rowC (boolC fun _ => false) N) 4)) 3 (rowC (intC fun _ => 0) N); rw [World.size_alloc] at h; exact h)
          | exact (Whole.new wc 3 (rowC (intC fun _ => 0) N)).fr ((Fr.refl (fun _ => False) _).alloc _) (fun e => e))
      have HF2 := Lib.hid (show Fr (fun _ => False) w w2 from by subst hw2; exact (HFc.out.alloc _).alloc _)
      have HSz : Hid (w.heap.size ≤ wc.heap.size) := Lib.hid HFc.out.size
      obtain ⟨gh, hgh⟩ : ∃ gh, (wc.heap.size + 1) = gh := ⟨_, rfl⟩
      obtain ⟨ga, hga⟩ : ∃ ga, wc.heap.size = ga := ⟨_, rfl⟩
      first
        | (rw [hga] at HI2 ⊢; rw [hgh] at HB2 ⊢)
        | (rw [hgh] at HB2 ⊢; rw [hga] at HI2 ⊢)
      have HGh : Hid (w.heap.size ≤ gh) := Lib.hid (by have := HSz.out; omega)
      have HGa : Hid (w.heap.size ≤ ga) := Lib.hid (by have := HSz.out; omega)
      clear hgh hga hw2 HSz HFc hmb hmi
      (
        try simp only [List.setIfInBounds_toArray, List.set_cons_succ, List.set_cons_zero]
        refine wpAnyH_all (rs := [7]) (by kernel_rfl) (by simp) ?_
        intro i hi
        simp only [List.mem_cons, List.not_mem_nil, or_false] at hi
        subst hi
        refine wpOp_step rfl (fun K hK => ?_)
        go_simp
        refine hK _ _ ⟨trivial, ?_⟩)
      clear hK K
      (
        try simp only [List.setIfInBounds_toArray, List.set_cons_succ, List.set_cons_zero]
        refine wpAnyH_all (rs := [8]) (by kernel_rfl) (by simp) ?_
        intro i hi
        simp only [List.mem_cons, List.not_mem_nil, or_false] at hi
        subst hi
        refine wpOp_step rfl (fun K hK => ?_)
        go_simp
        refine hK _ _ ⟨trivial, ?_⟩)
      clear hK K
      (
        try simp only [List.setIfInBounds_toArray, List.set_cons_succ, List.set_cons_zero]
        refine wpAnyH_all (rs := [9]) (by kernel_rfl) (by simp) ?_
        intro i hi
        simp only [List.mem_cons, List.not_mem_nil, or_false] at hi
        subst hi
        refine wpOp_step rfl (fun K hK => ?_)
        go_simp
        refine hK _ _ ⟨trivial, ?_⟩)
      clear hK K
      refine wpAnyH_done (by kernel_rfl) ?_ _
      obtain ⟨w3, hw3⟩ : ∃ w3, w2.alloc (.cells #[.slice A N c, .slice (some ⟨gh, 0, none⟩) N N, .slice (some ⟨ga, 0, none⟩) N N] 60) = w3 := ⟨_, rfl⟩
      have HF3 := Lib.hid (show Fr (fun _ => False) w2 w3 from by subst hw3; exact (Fr.refl _ w2).alloc _)
      have HO3 := Lib.hid (show NlR w w3 w2.heap.size gh ga N (.slice A N c) (fun j => decide ((j : Int) ∈ ls.take 0)) (fun _ => 0) from
        NlR.congr (hs := fun _ => false) (as' := fun _ => 0) ⟨by subst hw3; exact Whole.new w2 60 _, HB2.out.fr HF3.out (fun e => e), HI2.out.fr HF3.out (fun e => e), HF2.out.trans HF3.out (fun _ _ e => e), HGh.out, HGa.out⟩ (fun j hj => by simp) (fun j hj => rfl))
      rw [hw3]
      obtain ⟨gl, hgl⟩ : ∃ gl, w2.heap.size = gl := ⟨_, rfl⟩
      rw [hgl] at HO3 ⊢
      clear hw3 hgl HF3 HB2 HI2 HF2 HGh HGa)
      (
        go_wp2
        go_loopg [30] L (fun kx s30 wr => ∃ k : Nat, s30 = .int .i64 k ∧ k ≤ L ∧ L - k ≤ kx ∧ Hid (NlR w wr gl gh ga N (.slice A N c) (fun j => decide ((j : Int) ∈ ls.take k)) (fun _ => 0)))
        case atStart => exact ⟨0, rfl, by omega, by omega, HO3⟩
        case round =>
          obtain ⟨k, rfl, hk, hkx, HO⟩ := hrel
          obtain ⟨wo, rfl⟩ : ∃ wo, wo = wr := ⟨wr, rfl⟩
          have wk := wrap_nat1 k (by omega)
          by_cases hlt : k < L
          · have hltz : (k : Int) < L := by omega
            obtain ⟨bb, o, hBk, cx⟩ := HLs.out wo HO.out.old k hlt
            subst hBk
            have HTk1 := Lib.hid (HTk.out k hlt)
            have hxb := badZ_no (HNb.out k hlt)
            obtain ⟨x, hx⟩ : ∃ x : Nat, ls.getD k 0 = (x : Int) := ⟨(ls.getD k 0).toNat, by omega⟩
            rw [hx] at cx HTk1 hxb
            have hxN : x < N := by omega
            have hx0 : ¬ ((x : Int) < 0) := by omega
            have hx1 : ¬ ((x : Int) ≥ (N : Int)) := by omega
            have hx2 : (0 : Int) ≤ (x : Int) := by omega
            have hxz : (x : Int) < (N : Int) := by omega
            have c1 : wo.cell? ⟨gl, 1, none⟩ = some (.slice (some ⟨gh, 0, none⟩) N N) := by rw [HO.out.lb.cell]; rfl
            have cm := HO.out.hb.rcell x hxN
            have fm := HO.out.hb.frozen x
            simp only [boolC] at cm
            obtain ⟨b, hb⟩ : ∃ b, decide ((x : Int) ∈ ls.take k) = b := ⟨_, rfl⟩
            rw [hb] at cm
            have HS := Lib.hid (HO.out.setH x hxN (fun j => decide ((j : Int) ∈ ls.take (k + 1))) (fun j hj => by
              rw [HTk1.out]
              by_cases e : j = x
              · simp [e]
              · have : ¬ (j : Int) = (x : Int) := by omega
                simp [e, this]))
            clear hx hb hxb hxN
            go_wp2
            go_roundg (L - (k + 1))
            case measure => omega
            case rel => exact ⟨k + 1, by go_num, by omega, Nat.le_refl _, HS⟩
          · obtain rfl : k = L := by omega
            have HO2 := Lib.hid (HO.out.congr (hs2 := has) (as2 := ahN (prG G) has 0) (fun j hj => by rw [HHs.out, HTa.out]) (fun j hj => by rw [HA0.out]))
            clear HO
            go_wp2
            go_loopg [51] N (fun kx s51 wr => ∃ n : Nat, s51 = .int .i64 n ∧ n ≤ N ∧ N - n ≤ kx ∧ Hid (NlR w wr gl gh ga N (.slice A N c) has (ahN (prG G) has n)))
            case atStart => exact ⟨0, rfl, by omega, by omega, HO2⟩
            case round =>
              obtain ⟨n, rfl, hnN, hnx, HOn⟩ := hrel
              obtain ⟨wi, rfl⟩ : ∃ wi, wi = wr := ⟨wr, rfl⟩
              have wn := wrap_nat1 n (by omega)
              by_cases hnl : n < N
              · have hnz : (n : Int) < (N : Int) := by omega
                have hn0 : (0 : Int) ≤ (n : Int) := by omega
                have hnG : n < G.length := by rw [HN.out]; exact hnl
                obtain ⟨b9, o9, h91, h92, h93, hli, h94⟩ := HKin.out w (Fr.refl _ _) n hnG
                clear h91 h92 h93 h94
                obtain ⟨bb, o, hBk, ca, cb, hli2, hlc⟩ := HKin.out wi HOn.out.old n hnG
                subst hBk
                clear hli2 hlc
                rw [(HNat.out n hnG).1] at hli
                rw [(HNat.out n hnG).2] at ca
                have HPl := Lib.hid (fun w' (f : Fr (fun _ => False) w w') j hj => lies_nat hli f j hj)
                have hfew := HFew.out n hnl
                have HLt1 := Lib.hid (HLt.out n hnl)
                have HAn := Lib.hid (HAs.out has n)
                have HAl := Lib.hid (fun k => HAle.out has n k hnN)
                obtain ⟨ps, hps⟩ : ∃ ps, prG G n = ps := ⟨_, rfl⟩
                rw [hps] at hfew HLt1 HAn HPl ca
                obtain ⟨P, hP⟩ : ∃ P, ps.length = P := ⟨_, rfl⟩
                have HPp := Lib.hid hP
                rw [hP] at hfew HLt1 HPl ca
                obtain ⟨F, hF⟩ : ∃ F, ahN (prG G) has n = F := ⟨_, rfl⟩
                rw [hF] at HOn HAn HAl
                obtain ⟨b, hb⟩ : ∃ b, has n = b := ⟨_, rfl⟩
                have HBn := Lib.hid hb
                rw [hb] at HAn
                obtain ⟨Ad, hAd⟩ : ∃ A, G[n].A = A := ⟨_, rfl⟩
                obtain ⟨cd, hcd⟩ : ∃ A, G[n].c = A := ⟨_, rfl⟩
                obtain ⟨td, htd⟩ : ∃ A, G[n].t = A := ⟨_, rfl⟩
                rw [hAd] at HPl
                rw [hAd, hcd] at ca
                rw [htd] at cb
                have cb2 : wi.cell? ⟨bb, o + n * 2 + 1, none⟩ = some (.int .i64 td) := by rw [Nat.add_assoc]; exact cb
                obtain ⟨wa, hwa⟩ : ∃ w2, wi.alloc (.cells #[.slice Ad P cd, .int .i64 td] 38) = w2 := ⟨_, rfl⟩
                have HFa := Lib.hid (show Fr (fun _ => False) wi wa from by subst hwa; exact (Fr.refl (fun _ => False) wi).alloc _)
                have HWa := Lib.hid (show Whole wa wi.heap.size 38 #[.slice Ad P cd, .int .i64 td] from by subst hwa; exact Whole.new wi 38 _)
                have d0 : wa.cell? ⟨wi.heap.size, 0, none⟩ = some (.slice Ad P cd) := by rw [HWa.out.cell]; rfl
                have HOa := Lib.hid (HOn.out.frF HFa.out)
                have HSt := Lib.hid (show NlR w wa gl gh ga N (.slice (some ⟨bb, o, none⟩) N c) has (fun k => F k + if b = true then (ps.take 0).count k else 0) from HOa.out.congr (fun j hj => rfl) (fun j hj => by simp))
                clear hps hP hF hb hAd hcd htd hli hnG
                go_wp2
                go_loopg [59] P (fun kx s59 wr => ∃ j : Nat, s59 = .int .i64 j ∧ j ≤ P ∧ P - j ≤ kx ∧ Hid (NlR w wr gl gh ga N (.slice (some ⟨bb, o, none⟩) N c) has (fun k => F k + if b = true then (ps.take j).count k else 0)))
                case atStart => exact ⟨0, rfl, by omega, by omega, HSt⟩
                case round =>
                  obtain ⟨j, rfl, hj, hjx, HOj⟩ := hrel
                  obtain ⟨wj, rfl⟩ : ∃ wj, wj = wr := ⟨wr, rfl⟩
                  have wj1 := wrap_nat1 j (by omega)
                  by_cases hjP : j < P
                  · have hjz : (j : Int) < P := by omega
                    obtain ⟨b3, o3, hB3, cp3⟩ := HPl.out wj HOj.out.old j hjP
                    subst hB3
                    have hxn := HLt1.out j hjP
                    have HCt := Lib.hid (fun k => count_snoc ps j (ps.getD j 0) (by rw [HPp.out]; exact hjP) rfl k)
                    obtain ⟨x, hxd⟩ : ∃ x, ps.getD j 0 = x := ⟨_, rfl⟩
                    rw [hxd] at cp3 hxn HCt
                    have c1 : wj.cell? ⟨gl, 1, none⟩ = some (.slice (some ⟨gh, 0, none⟩) N N) := by rw [HOj.out.lb.cell]; rfl
                    have c2 : wj.cell? ⟨gl, 2, none⟩ = some (.slice (some ⟨ga, 0, none⟩) N N) := by rw [HOj.out.lb.cell]; rfl
                    have cn := HOj.out.hb.rcell n hnl
                    simp only [boolC, HBn.out] at cn
                    have hx0 : (0 : Int) ≤ (x : Int) := by omega
                    have hxz : (x : Int) < (N : Int) := by omega
                    cases b
                    · have HS := Lib.hid (HOj.out.congr (hs2 := has) (as2 := fun k => F k + if false = true then (ps.take (j + 1)).count k else 0) (fun i hi => rfl) (fun i hi => rfl))
                      clear hxd
                      go_wp2
                      go_roundg (P - (j + 1))
                      case measure => omega
                      case rel => exact ⟨j + 1, by go_num, by omega, Nat.le_refl _, HS⟩
                    · have ca3 := HOj.out.ab.rcell x (by omega)
                      have fa3 := HOj.out.ab.frozen x
                      simp only [intC, if_true] at ca3
                      have hcl := List.count_le_length (l := ps.take j) (a := x)
                      rw [List.length_take] at hcl
                      have hfl := HAl.out x
                      obtain ⟨y, hy⟩ : ∃ y, F x + (ps.take j).count x = y := ⟨_, rfl⟩
                      have hyl : y ≤ 10000 := by omega
                      have wy := wrap_nat1 y (by omega)
                      have HS := Lib.hid (HOj.out.setA x (y + 1) (by omega) (fun k => F k + if true = true then (ps.take (j + 1)).count k else 0) (fun i hi => by
                        simp only [if_true]
                        rw [HCt.out i]
                        by_cases e : i = x
                        · subst e; rw [if_pos rfl, if_pos rfl]; omega
                        · rw [if_neg e, if_neg e]; omega))
                      rw [hy] at ca3
                      have hz : ((y + 1 : Nat) : Int) = (y : Int) + 1 := by omega
                      rw [hz] at HS
                      clear hy hcl hfl hxd hyl hz
                      go_wp2
                      go_roundg (P - (j + 1))
                      case measure => omega
                      case rel => exact ⟨j + 1, by go_num, by omega, Nat.le_refl _, HS⟩
                  · obtain rfl : j = P := by omega
                    have HOe := Lib.hid (HOj.out.congr (hs2 := has) (as2 := ahN (prG G) has (n + 1)) (fun i hi => rfl) (fun i hi => by rw [HAn.out i, ← HPp.out, List.take_length]))
                    go_wp2
                    go_roundg (N - (n + 1))
                    case measure => omega
                    case rel => exact ⟨n + 1, by go_num, by omega, Nat.le_refl _, HOe⟩
              · obtain rfl : n = N := by omega
                go_wp2
                go_ret2
                exact ⟨gl, gh, ga, by simp, HOn.out⟩))
set_option maxHeartbeats 1600000 in
set_option maxRecDepth 100000 in
theorem OrnewList_bad (A : Option Addr) (c : Nat) (G : List Nd) (B : Option Addr) (cB : Nat) (ls : List Int) (hn : ls.length ≤ 10000) (w : World) (hG : GAt w A G) (hl : Lies w B (zC ls)) (hc0 : chkG G = 0) (h0 : ¬ nodE G ls = 0) :
    Calls Try.prog 26 #[.slice A G.length c, .slice B ls.length cB] w fun e w' => e = .returned (.tuple #[.pointer none, .int .i64 (nodE G ls)]) ∧ Fr (fun _ => False) w w' := by
  have HChk := Lib.hid (DaCheck_any A c G w hG)
  have hany : ls.any (badZ G.length) = true := by
    rw [nodE_ok hc0] at h0
    by_cases e : ls.any (badZ G.length) = true
    · exact e
    · rw [if_neg e] at h0; exact absurd rfl h0
  rw [nodE_ok hc0, if_pos hany]
  have HNo : Hid ((∀ i, i < ls.length → badZ G.length (ls.getD i 0) = false) → False) := Lib.hid (fun h => by
    obtain ⟨z, hz, hb⟩ := List.any_eq_true.1 hany
    obtain ⟨i, hi, rfl⟩ := List.mem_iff_getElem.1 hz
    have := h i hi
    rw [List.getD_eq_getElem?_getD, List.getElem?_eq_getElem hi, Option.getD_some, hb] at this
    cases this)
  have HLs := Lib.hid (fun w' (f : Fr (fun _ => False) w w') k hk => lies_int hl f k hk)
  have hlen := (right_of (chk_ok hc0)).len
  rw [hc0] at HChk
  have hmb := fun w1 => make_bools G.length (by omega) w1
  have hmi := fun w1 => make_ints G.length (by omega) w1
  obtain ⟨N, hN⟩ : ∃ N, G.length = N := ⟨_, rfl⟩
  have HN := Lib.hid hN
  rw [hN] at hmb hmi hlen HChk HNo ⊢
  obtain ⟨L, hL⟩ : ∃ L, ls.length = L := ⟨_, rfl⟩
  have HL := Lib.hid hL
  rw [hL] at hn HLs HNo ⊢
  clear hG hl h0 hN hL hc0 hany
  go_enter Try.func26, Try.ntmps26
  go_upto_region 4 with (go_at_call 19; refine HChk.out.mono ?_; rintro e w1 ⟨rfl, b1⟩; have HF1 := Lib.hid (Fr.of_below (S := fun _ => False) b1); clear b1)
  (
    refine wp_region_held (S := fun _ => True) (by kernel_rfl) ?_
    change wpAnyH _ _ _ _ _ _ _ _ (World.drew w1)
    have HFc := Lib.hid (show Fr (fun _ => False) w w1.drew from HF1.out.drew)
    obtain ⟨wc, hwc⟩ : ∃ wc, w1.drew = wc := ⟨_, rfl⟩
    rw [hwc] at HFc ⊢
    clear hwc HF1 HChk
    (
      refine wpAnyH_takeM (i := 0) (v := .slice A N c) 19 rfl rfl (by kernel_rfl) (by kernel_rfl) (by kernel_rfl) (fun _ _ _ h => h) (.inl ⟨by rfl, ?_⟩) trivial ?_
      · intro wq hq
        go_simp)
    (
      refine wpAnyH_takeM (i := 1) (v := .slice A N c) 20 rfl rfl (by kernel_rfl) (by kernel_rfl) (by kernel_rfl) (fun _ _ _ h => h) (.inl ⟨by rfl, ?_⟩) trivial ?_
      · intro wq hq
        go_simp)
    (
      refine wpAnyH_takeM (i := 2) (v := .int .i64 N) 21 rfl rfl (by kernel_rfl) (by kernel_rfl) (by kernel_rfl) (fun _ _ _ h => h) (.inl ⟨by rfl, ?_⟩) trivial ?_
      · intro wq hq
        go_simp)
    (
      refine wpAnyH_takeM (i := 4) (v := .slice A N c) 23 rfl rfl (by kernel_rfl) (by kernel_rfl) (by kernel_rfl) (fun _ _ _ h => h) (.inl ⟨by rfl, ?_⟩) trivial ?_
      · intro wq hq
        go_simp)
    (
      refine wpAnyH_takeM (i := 5) (v := .int .i64 N) 24 rfl rfl (by kernel_rfl) (by kernel_rfl) (by kernel_rfl) (fun _ _ _ h => h) (.inl ⟨by rfl, ?_⟩) trivial ?_
      · intro wq hq
        go_simp)
    try simp only [List.setIfInBounds_toArray, List.set_cons_succ, List.set_cons_zero]
    refine wpAnyH_all (rs := [3, 6]) (by kernel_rfl) (by simp) ?_
    intro i hi
    simp only [List.mem_cons, List.not_mem_nil, or_false] at hi
    rcases hi with rfl | rfl
    · (
      refine wpOp_step rfl (fun K hK => ?_)
      go_simp
      refine hK _ _ ⟨trivial, ?_⟩
      clear hK K
      (
        try simp only [List.setIfInBounds_toArray, List.set_cons_succ, List.set_cons_zero]
        refine wpAnyH_all (rs := [6]) (by kernel_rfl) (by simp) ?_
        intro i hi
        simp only [List.mem_cons, List.not_mem_nil, or_false] at hi
        subst hi
        refine wpOp_step rfl (fun K hK => ?_)
        go_simp
        refine hK _ _ ⟨trivial, ?_⟩)
      clear hK K
      generalize hw2 : World.alloc (World.alloc wc _) _ = w2
      have HB2 := Lib.hid (show Whole w2 wc.heap.size 4 (rowC (boolC fun _ => false) N) from by
        subst hw2
        first
          | (have h := Whole.new (wc.alloc (.cells (rowC (intC fun _ => 0) N) 3)) 4 (rowC (boolC fun _ => false) N); rw [World.size_alloc] at h; exact h)
          | exact (Whole.new wc 4 (rowC (boolC fun _ => false) N)).fr ((Fr.refl (fun _ => False) _).alloc _) (fun e => e))
      have HI2 := Lib.hid (show Whole w2 (wc.heap.size + 1) 3 (rowC (intC fun _ => 0) N) from by
        subst hw2
        first
          | (have h := Whole.new (wc.alloc (.cells (rowC (boolC fun _ => false) N) 4)) 3 (rowC (intC fun _ => 0) N); rw [World.size_alloc] at h; exact h)
          | exact (Whole.new wc 3 (rowC (intC fun _ => 0) N)).fr ((Fr.refl (fun _ => False) _).alloc _) (fun e => e))
      have HF2 := Lib.hid (show Fr (fun _ => False) w w2 from by subst hw2; exact (HFc.out.alloc _).alloc _)
      have HSz : Hid (w.heap.size ≤ wc.heap.size) := Lib.hid HFc.out.size
      obtain ⟨gh, hgh⟩ : ∃ gh, wc.heap.size = gh := ⟨_, rfl⟩
      obtain ⟨ga, hga⟩ : ∃ ga, (wc.heap.size + 1) = ga := ⟨_, rfl⟩
      first
        | (rw [hga] at HI2 ⊢; rw [hgh] at HB2 ⊢)
        | (rw [hgh] at HB2 ⊢; rw [hga] at HI2 ⊢)
      have HGh : Hid (w.heap.size ≤ gh) := Lib.hid (by have := HSz.out; omega)
      have HGa : Hid (w.heap.size ≤ ga) := Lib.hid (by have := HSz.out; omega)
      clear hgh hga hw2 HSz HFc hmb hmi
      (
        try simp only [List.setIfInBounds_toArray, List.set_cons_succ, List.set_cons_zero]
        refine wpAnyH_all (rs := [7]) (by kernel_rfl) (by simp) ?_
        intro i hi
        simp only [List.mem_cons, List.not_mem_nil, or_false] at hi
        subst hi
        refine wpOp_step rfl (fun K hK => ?_)
        go_simp
        refine hK _ _ ⟨trivial, ?_⟩)
      clear hK K
      (
        try simp only [List.setIfInBounds_toArray, List.set_cons_succ, List.set_cons_zero]
        refine wpAnyH_all (rs := [8]) (by kernel_rfl) (by simp) ?_
        intro i hi
        simp only [List.mem_cons, List.not_mem_nil, or_false] at hi
        subst hi
        refine wpOp_step rfl (fun K hK => ?_)
        go_simp
        refine hK _ _ ⟨trivial, ?_⟩)
      clear hK K
      (
        try simp only [List.setIfInBounds_toArray, List.set_cons_succ, List.set_cons_zero]
        refine wpAnyH_all (rs := [9]) (by kernel_rfl) (by simp) ?_
        intro i hi
        simp only [List.mem_cons, List.not_mem_nil, or_false] at hi
        subst hi
        refine wpOp_step rfl (fun K hK => ?_)
        go_simp
        refine hK _ _ ⟨trivial, ?_⟩)
      clear hK K
      refine wpAnyH_done (by kernel_rfl) ?_ _
      obtain ⟨w3, hw3⟩ : ∃ w3, w2.alloc (.cells #[.slice A N c, .slice (some ⟨gh, 0, none⟩) N N, .slice (some ⟨ga, 0, none⟩) N N] 60) = w3 := ⟨_, rfl⟩
      have HF3 := Lib.hid (show Fr (fun _ => False) w2 w3 from by subst hw3; exact (Fr.refl _ w2).alloc _)
      have HO3 := Lib.hid (show NlR w w3 w2.heap.size gh ga N (.slice A N c) (fun j => decide ((j : Int) ∈ ls.take 0)) (fun _ => 0) from
        NlR.congr (hs := fun _ => false) (as' := fun _ => 0) ⟨by subst hw3; exact Whole.new w2 60 _, HB2.out.fr HF3.out (fun e => e), HI2.out.fr HF3.out (fun e => e), HF2.out.trans HF3.out (fun _ _ e => e), HGh.out, HGa.out⟩ (fun j hj => by simp) (fun j hj => rfl))
      rw [hw3]
      obtain ⟨gl, hgl⟩ : ∃ gl, w2.heap.size = gl := ⟨_, rfl⟩
      rw [hgl] at HO3 ⊢
      clear hw3 hgl HF3 HB2 HI2 HF2 HGh HGa)
      (
        go_wp2
        go_loopg [30] L (fun kx s30 wr => ∃ (k : Nat) (hs : Nat → Bool), s30 = .int .i64 k ∧ k ≤ L ∧ L - k ≤ kx ∧ Hid (∀ i, i < k → badZ N (ls.getD i 0) = false) ∧ Hid (NlR w wr gl gh ga N (.slice A N c) hs (fun _ => 0)))
        case atStart => exact ⟨0, _, rfl, by omega, by omega, Lib.hid (fun i hi => by omega), HO3⟩
        case round =>
          obtain ⟨k, hs, rfl, hk, hkx, HI, HO⟩ := hrel
          obtain ⟨wo, rfl⟩ : ∃ wo, wo = wr := ⟨wr, rfl⟩
          have wk := wrap_nat1 k (by omega)
          by_cases hlt : k < L
          · have hltz : (k : Int) < L := by omega
            obtain ⟨bb, o, hBk, cx⟩ := HLs.out wo HO.out.old k hlt
            subst hBk
            by_cases hb : badZ N (ls.getD k 0) = true
            · obtain ⟨z, hz⟩ : ∃ z, ls.getD k 0 = z := ⟨_, rfl⟩
              rw [hz] at cx hb
              have hz2 : z < 0 ∨ ¬ z < 0 ∧ z ≥ (N : Int) := by
                unfold badZ at hb
                rw [Bool.or_eq_true, decide_eq_true_eq, decide_eq_true_eq] at hb
                omega
              have HF := Lib.hid HO.out.old
              clear hz hb HI HO
              rcases hz2 with hz2 | ⟨hz2, hz3⟩
              · go_wp2
                go_ret2
                exact ⟨by simp, HF.out⟩
              · go_wp2
                go_ret2
                exact ⟨by simp, HF.out⟩
            · have hb2 : badZ N (ls.getD k 0) = false := by simpa using hb
              have hxb := badZ_no hb2
              have HI2 := Lib.hid (show ∀ i, i < k + 1 → badZ N (ls.getD i 0) = false from fun i hi => (by omega : i < k ∨ i = k).elim (HI.out i) (fun e => by rw [e]; exact hb2))
              obtain ⟨x, hx⟩ : ∃ x : Nat, ls.getD k 0 = (x : Int) := ⟨(ls.getD k 0).toNat, by omega⟩
              rw [hx] at cx hxb
              have hxN : x < N := by omega
              have hx0 : ¬ ((x : Int) < 0) := by omega
              have hx1 : ¬ ((x : Int) ≥ (N : Int)) := by omega
              have hx2 : (0 : Int) ≤ (x : Int) := by omega
              have hxz : (x : Int) < (N : Int) := by omega
              have c1 : wo.cell? ⟨gl, 1, none⟩ = some (.slice (some ⟨gh, 0, none⟩) N N) := by rw [HO.out.lb.cell]; rfl
              have cm := HO.out.hb.rcell x hxN
              have fm := HO.out.hb.frozen x
              simp only [boolC] at cm
              obtain ⟨b, hb⟩ : ∃ b, hs x = b := ⟨_, rfl⟩
              rw [hb] at cm
              have HS := Lib.hid (HO.out.setH x hxN (fun j => if j = x then true else hs j) (fun j hj => rfl))
              clear hx hb hxb hxN hb2
              go_wp2
              go_roundg (L - (k + 1))
              case measure => omega
              case rel => exact ⟨k + 1, _, by go_num, by omega, Nat.le_refl _, HI2, HS⟩
          · obtain rfl : k = L := by omega
            exact (HNo.out HI.out).elim)
    · (
      refine wpOp_step rfl (fun K hK => ?_)
      go_simp
      refine hK _ _ ⟨trivial, ?_⟩
      clear hK K
      (
        try simp only [List.setIfInBounds_toArray, List.set_cons_succ, List.set_cons_zero]
        refine wpAnyH_all (rs := [3]) (by kernel_rfl) (by simp) ?_
        intro i hi
        simp only [List.mem_cons, List.not_mem_nil, or_false] at hi
        subst hi
        refine wpOp_step rfl (fun K hK => ?_)
        go_simp
        refine hK _ _ ⟨trivial, ?_⟩)
      clear hK K
      generalize hw2 : World.alloc (World.alloc wc _) _ = w2
      have HB2 := Lib.hid (show Whole w2 (wc.heap.size + 1) 4 (rowC (boolC fun _ => false) N) from by
        subst hw2
        first
          | (have h := Whole.new (wc.alloc (.cells (rowC (intC fun _ => 0) N) 3)) 4 (rowC (boolC fun _ => false) N); rw [World.size_alloc] at h; exact h)
          | exact (Whole.new wc 4 (rowC (boolC fun _ => false) N)).fr ((Fr.refl (fun _ => False) _).alloc _) (fun e => e))
      have HI2 := Lib.hid (show Whole w2 wc.heap.size 3 (rowC (intC fun _ => 0) N) from by
        subst hw2
        first
          | (have h := Whole.new (wc.alloc (.cells (rowC (boolC fun _ => false) N) 4)) 3 (rowC (intC fun _ => 0) N); rw [World.size_alloc] at h; exact h)
          | exact (Whole.new wc 3 (rowC (intC fun _ => 0) N)).fr ((Fr.refl (fun _ => False) _).alloc _) (fun e => e))
      have HF2 := Lib.hid (show Fr (fun _ => False) w w2 from by subst hw2; exact (HFc.out.alloc _).alloc _)
      have HSz : Hid (w.heap.size ≤ wc.heap.size) := Lib.hid HFc.out.size
      obtain ⟨gh, hgh⟩ : ∃ gh, (wc.heap.size + 1) = gh := ⟨_, rfl⟩
      obtain ⟨ga, hga⟩ : ∃ ga, wc.heap.size = ga := ⟨_, rfl⟩
      first
        | (rw [hga] at HI2 ⊢; rw [hgh] at HB2 ⊢)
        | (rw [hgh] at HB2 ⊢; rw [hga] at HI2 ⊢)
      have HGh : Hid (w.heap.size ≤ gh) := Lib.hid (by have := HSz.out; omega)
      have HGa : Hid (w.heap.size ≤ ga) := Lib.hid (by have := HSz.out; omega)
      clear hgh hga hw2 HSz HFc hmb hmi
      (
        try simp only [List.setIfInBounds_toArray, List.set_cons_succ, List.set_cons_zero]
        refine wpAnyH_all (rs := [7]) (by kernel_rfl) (by simp) ?_
        intro i hi
        simp only [List.mem_cons, List.not_mem_nil, or_false] at hi
        subst hi
        refine wpOp_step rfl (fun K hK => ?_)
        go_simp
        refine hK _ _ ⟨trivial, ?_⟩)
      clear hK K
      (
        try simp only [List.setIfInBounds_toArray, List.set_cons_succ, List.set_cons_zero]
        refine wpAnyH_all (rs := [8]) (by kernel_rfl) (by simp) ?_
        intro i hi
        simp only [List.mem_cons, List.not_mem_nil, or_false] at hi
        subst hi
        refine wpOp_step rfl (fun K hK => ?_)
        go_simp
        refine hK _ _ ⟨trivial, ?_⟩)
      clear hK K
      (
        try simp only [List.setIfInBounds_toArray, List.set_cons_succ, List.set_cons_zero]
        refine wpAnyH_all (rs := [9]) (by kernel_rfl) (by simp) ?_
        intro i hi
        simp only [List.mem_cons, List.not_mem_nil, or_false] at hi
        subst hi
        refine wpOp_step rfl (fun K hK => ?_)
        go_simp
        refine hK _ _ ⟨trivial, ?_⟩)
      clear hK K
      refine wpAnyH_done (by kernel_rfl) ?_ _
      obtain ⟨w3, hw3⟩ : ∃ w3, w2.alloc (.cells #[.slice A N c, .slice (some ⟨gh, 0, none⟩) N N, .slice (some ⟨ga, 0, none⟩) N N] 60) = w3 := ⟨_, rfl⟩
      have HF3 := Lib.hid (show Fr (fun _ => False) w2 w3 from by subst hw3; exact (Fr.refl _ w2).alloc _)
      have HO3 := Lib.hid (show NlR w w3 w2.heap.size gh ga N (.slice A N c) (fun j => decide ((j : Int) ∈ ls.take 0)) (fun _ => 0) from
        NlR.congr (hs := fun _ => false) (as' := fun _ => 0) ⟨by subst hw3; exact Whole.new w2 60 _, HB2.out.fr HF3.out (fun e => e), HI2.out.fr HF3.out (fun e => e), HF2.out.trans HF3.out (fun _ _ e => e), HGh.out, HGa.out⟩ (fun j hj => by simp) (fun j hj => rfl))
      rw [hw3]
      obtain ⟨gl, hgl⟩ : ∃ gl, w2.heap.size = gl := ⟨_, rfl⟩
      rw [hgl] at HO3 ⊢
      clear hw3 hgl HF3 HB2 HI2 HF2 HGh HGa)
      (
        go_wp2
        go_loopg [30] L (fun kx s30 wr => ∃ (k : Nat) (hs : Nat → Bool), s30 = .int .i64 k ∧ k ≤ L ∧ L - k ≤ kx ∧ Hid (∀ i, i < k → badZ N (ls.getD i 0) = false) ∧ Hid (NlR w wr gl gh ga N (.slice A N c) hs (fun _ => 0)))
        case atStart => exact ⟨0, _, rfl, by omega, by omega, Lib.hid (fun i hi => by omega), HO3⟩
        case round =>
          obtain ⟨k, hs, rfl, hk, hkx, HI, HO⟩ := hrel
          obtain ⟨wo, rfl⟩ : ∃ wo, wo = wr := ⟨wr, rfl⟩
          have wk := wrap_nat1 k (by omega)
          by_cases hlt : k < L
          · have hltz : (k : Int) < L := by omega
            obtain ⟨bb, o, hBk, cx⟩ := HLs.out wo HO.out.old k hlt
            subst hBk
            by_cases hb : badZ N (ls.getD k 0) = true
            · obtain ⟨z, hz⟩ : ∃ z, ls.getD k 0 = z := ⟨_, rfl⟩
              rw [hz] at cx hb
              have hz2 : z < 0 ∨ ¬ z < 0 ∧ z ≥ (N : Int) := by
                unfold badZ at hb
                rw [Bool.or_eq_true, decide_eq_true_eq, decide_eq_true_eq] at hb
                omega
              have HF := Lib.hid HO.out.old
              clear hz hb HI HO
              rcases hz2 with hz2 | ⟨hz2, hz3⟩
              · go_wp2
                go_ret2
                exact ⟨by simp, HF.out⟩
              · go_wp2
                go_ret2
                exact ⟨by simp, HF.out⟩
            · have hb2 : badZ N (ls.getD k 0) = false := by simpa using hb
              have hxb := badZ_no hb2
              have HI2 := Lib.hid (show ∀ i, i < k + 1 → badZ N (ls.getD i 0) = false from fun i hi => (by omega : i < k ∨ i = k).elim (HI.out i) (fun e => by rw [e]; exact hb2))
              obtain ⟨x, hx⟩ : ∃ x : Nat, ls.getD k 0 = (x : Int) := ⟨(ls.getD k 0).toNat, by omega⟩
              rw [hx] at cx hxb
              have hxN : x < N := by omega
              have hx0 : ¬ ((x : Int) < 0) := by omega
              have hx1 : ¬ ((x : Int) ≥ (N : Int)) := by omega
              have hx2 : (0 : Int) ≤ (x : Int) := by omega
              have hxz : (x : Int) < (N : Int) := by omega
              have c1 : wo.cell? ⟨gl, 1, none⟩ = some (.slice (some ⟨gh, 0, none⟩) N N) := by rw [HO.out.lb.cell]; rfl
              have cm := HO.out.hb.rcell x hxN
              have fm := HO.out.hb.frozen x
              simp only [boolC] at cm
              obtain ⟨b, hb⟩ : ∃ b, hs x = b := ⟨_, rfl⟩
              rw [hb] at cm
              have HS := Lib.hid (HO.out.setH x hxN (fun j => if j = x then true else hs j) (fun j hj => rfl))
              clear hx hb hxb hxN hb2
              go_wp2
              go_roundg (L - (k + 1))
              case measure => omega
              case rel => exact ⟨k + 1, _, by go_num, by omega, Nat.le_refl _, HI2, HS⟩
          · obtain rfl : k = L := by omega
            exact (HNo.out HI.out).elim))
end Go.Proofs.Ytpaigmmpihcdaaa

/- What is proved: what the walks of this seat need of layers below, merged out of the texts Kc Kj Kk Kl Km (of each just what is needed). Conditions: each theorem names its own. -/
import Derived.Shelf.Abstract
import Derived.BigQuiet
import Derived.Test.YtpaigmmpihcdaaaOb
/- What is proved: the library's Index, Contains, IndexFunc, ContainsFunc, Less at numbers. Conditions: the lists' cells are there. -/
namespace Go.Proofs.Ytpaigmmpihcdaaa
open Go.RowKit Go.Shelf
set_option linter.unusedVariables false
set_option maxHeartbeats 1600000 in
theorem GnIndex_any (A : Option Addr) (c : Nat) (l : List Int) (x : Int) (w : World) (hn : l.length ≤ 1000000) (h : Lies w A (zC l)) :
    Calls Try.prog 42 #[.slice A l.length c, .int .i64 x] w fun e w' => ∃ r : Int, e = .returned (.int .i64 r) ∧ decide (r ≥ 0) = l.contains x ∧ w = w' := by
  have HL := Lib.hid (lies_int h (Fr.refl _ w))
  have HC : Hid (∀ k, k < l.length → l.getD k 0 = x → l.contains x = true) := Lib.hid (fun k hk e => by
    rw [List.contains_iff_mem, ← e, List.getD_eq_getElem?_getD, List.getElem?_eq_getElem hk]; exact List.getElem_mem hk)
  have HN : Hid ((∀ k, k < l.length → ¬ x = l.getD k 0) → l.contains x = false) := Lib.hid (fun hh => by
    rw [Bool.eq_false_iff]; intro e
    rw [List.contains_iff_mem] at e
    obtain ⟨k, hk, rfl⟩ := List.getElem_of_mem e
    exact hh k hk (by rw [List.getD_eq_getElem?_getD, List.getElem?_eq_getElem hk]; rfl))
  obtain ⟨n, hn'⟩ : ∃ n, l.length = n := ⟨_, rfl⟩
  rw [hn'] at hn HL HC HN ⊢
  obtain ⟨R, hR⟩ : ∃ R, l.contains x = R := ⟨_, rfl⟩
  rw [hR] at HC HN ⊢
  clear h hn' hR
  go_enter Try.func42, Try.ntmps42
  go_wp2
  go_loopg [8] n (fun kx i wr => ∃ k : Nat, k ≤ n ∧ i = .int .i64 k ∧ n - k ≤ kx ∧ w = wr ∧ Hid (∀ j, j < k → ¬ x = l.getD j 0))
  case atStart => exact ⟨0, by omega, rfl, by omega, rfl, Lib.hid (fun j hj => by omega)⟩
  case round =>
    obtain ⟨k, hk, rfl, hkx, rfl, hI⟩ := hrel
    by_cases hlt : k < n
    · obtain ⟨b, o, rfl, hc⟩ := HL.out k hlt
      have HCk := Lib.hid (HC.out k hlt)
      obtain ⟨y, hy⟩ : ∃ y, l.getD k 0 = y := ⟨_, rfl⟩
      have HY := Lib.hid hy
      rw [hy] at hc HCk
      clear hy
      by_cases e : x = y
      · subst e
        go_wp2
        go_ret
        exact ⟨k, rfl, by rw [HCk.out (by simp)]; simp, rfl⟩
      · go_wp2
        go_roundg (n - (k + 1))
        case measure => omega
        case rel => exact ⟨k + 1, by omega, by go_num, Nat.le_refl _, rfl, Lib.hid (fun j hj => (by omega : j < k ∨ j = k).elim (hI.out j) (fun q => by subst q; rw [HY.out]; exact e))⟩
    · obtain rfl : k = n := by omega
      go_wp2
      go_ret
      exact ⟨-1, rfl, by rw [HN.out hI.out]; rfl, rfl⟩
set_option maxHeartbeats 800000 in
theorem GnContains_any (A : Option Addr) (c : Nat) (l : List Int) (x : Int) (w : World) (hn : l.length ≤ 1000000) (h : Lies w A (zC l)) :
    Calls Try.prog 35 #[.slice A l.length c, .int .i64 x] w fun e w' => e = .returned (.bool (l.contains x)) ∧ w = w' := by
  have HC := Lib.hid (GnIndex_any A c l x w hn h)
  obtain ⟨R, hR⟩ : ∃ R, l.contains x = R := ⟨_, rfl⟩
  rw [hR] at HC ⊢
  clear h hR
  go_enter Try.func35, Try.ntmps35
  go_wp2_with (go_at_call 42; refine HC.out.mono ?_; rintro e w' ⟨r, rfl, hr, rfl⟩; have HR := Lib.hid hr; clear hr)
  go_ret
  exact ⟨by rw [← HR.out]; rfl, rfl⟩
end Go.Proofs.Ytpaigmmpihcdaaa
/- What is proved: whether a graph is right, by the program and by the document. Conditions: the graph's cells are there. -/
namespace Go.Proofs.Ytpaigmmpihcdaaa
open Go.RowKit Go.Shelf
set_option linter.unusedVariables false
/-- Is a node's parent at a place no parent that it may have? -/
def badP (n : Nat) (ps : List Int) (i : Nat) : Bool := decide (ps.getD i 0 < 0) || (decide (ps.getD i 0 ≥ (n : Int)) || (ps.take i).contains (ps.getD i 0))
def okN (n : Nat) (d : Nd) : Bool := decide (d.ps.length ≤ 6) && (decide (0 ≤ d.t) && (decide (d.t ≤ 1099511627776) && !((List.range d.ps.length).any (badP n d.ps))))
def okG (G : List Nd) : Bool := decide (G.length ≤ 128) && !((List.range G.length).any fun n => !okN n (G.getD n default))
def chkG (G : List Nd) : Int := if okG G = true then 0 else 12
theorem okN_few {n : Nat} {d : Nd} (h : 6 < d.ps.length) : okN n d = false := by
  unfold okN; rw [decide_eq_false (by omega), Bool.false_and]
theorem okN_t0 {n : Nat} {d : Nd} (h : d.t < 0) : okN n d = false := by
  unfold okN; rw [decide_eq_false (p := 0 ≤ d.t) (by omega), Bool.false_and, Bool.and_false]
theorem okN_t1 {n : Nat} {d : Nd} (h : 1099511627776 < d.t) : okN n d = false := by
  unfold okN; rw [decide_eq_false (p := d.t ≤ 1099511627776) (by omega), Bool.false_and, Bool.and_false, Bool.and_false]
theorem okN_bad {n : Nat} {d : Nd} {i : Nat} (hi : i < d.ps.length) (h : badP n d.ps i = true) : okN n d = false := by
  have : (List.range d.ps.length).any (badP n d.ps) = true := List.any_eq_true.2 ⟨i, List.mem_range.2 hi, h⟩
  unfold okN
  rw [this]
  simp
theorem okN_ok {n : Nat} {d : Nd} (h1 : ¬ 6 < d.ps.length) (h2 : ¬ d.t < 0) (h3 : ¬ 1099511627776 < d.t) (h4 : ∀ i, i < d.ps.length → badP n d.ps i = false) : okN n d = true := by
  have : (List.range d.ps.length).any (badP n d.ps) = false := by
    rw [List.any_eq_false]
    intro i hi
    rw [h4 i (List.mem_range.1 hi)]; simp
  unfold okN
  rw [this, decide_eq_true (by omega), decide_eq_true (p := 0 ≤ d.t) (by omega), decide_eq_true (p := d.t ≤ 1099511627776) (by omega)]
  rfl
theorem badP_lt {n : Nat} {ps : List Int} {i : Nat} (h : ps.getD i 0 < 0) : badP n ps i = true := by
  unfold badP; rw [decide_eq_true h, Bool.true_or]
theorem badP_ge {n : Nat} {ps : List Int} {i : Nat} (h : (n : Int) ≤ ps.getD i 0) : badP n ps i = true := by
  unfold badP; rw [decide_eq_true (p := ps.getD i 0 ≥ (n : Int)) h, Bool.true_or, Bool.or_true]
theorem badP_mid {n : Nat} {ps : List Int} {i : Nat} (h1 : ¬ ps.getD i 0 < 0) (h2 : ¬ (n : Int) ≤ ps.getD i 0) : badP n ps i = (ps.take i).contains (ps.getD i 0) := by
  unfold badP; rw [decide_eq_false h1, decide_eq_false (p := ps.getD i 0 ≥ (n : Int)) h2, Bool.false_or, Bool.false_or]
theorem okG_many {G : List Nd} (h : 128 < G.length) : chkG G = 12 := by
  unfold chkG okG; rw [decide_eq_false (by omega)]; rfl
theorem okG_bad {G : List Nd} {n : Nat} (hn : n < G.length) (h : okN n (G.getD n default) = false) : chkG G = 12 := by
  have : ((List.range G.length).any fun n => !okN n (G.getD n default)) = true := List.any_eq_true.2 ⟨n, List.mem_range.2 hn, by rw [h]; rfl⟩
  unfold chkG okG
  rw [this]; simp
theorem okG_ok {G : List Nd} (h : ¬ 128 < G.length) (h2 : ∀ n, n < G.length → okN n (G.getD n default) = true) : chkG G = 0 := by
  have : ((List.range G.length).any fun n => !okN n (G.getD n default)) = false := by
    rw [List.any_eq_false]
    intro i hi
    rw [h2 i (List.mem_range.1 hi)]; simp
  unfold chkG okG
  rw [this, decide_eq_true (by omega)]; rfl
theorem getD_nd (G : List Nd) (n : Nat) (h : n < G.length) : G.getD n default = G[n] := by rw [List.getD_eq_getElem?_getD, List.getElem?_eq_getElem h]; rfl
theorem Lies.takeZ {w : World} {A : Option Addr} {l : List Int} (h : Lies w A (zC l)) (m : Nat) : Lies w A (zC (l.take m)) := by
  rw [show zC (l.take m) = (zC l).take m by simp [zC]]
  rcases h with h | ⟨b, o, rfl, hc⟩
  · rw [h]; exact .inl (by simp)
  · refine .inr ⟨b, o, rfl, fun j u hu => hc j u ?_⟩
    rw [List.getElem?_take] at hu
    split at hu
    · exact hu
    · simp at hu
set_option maxHeartbeats 3200000 in
set_option maxRecDepth 100000 in
theorem DaisNode_any (n : Nat) (d : Nd) (hd : d.ps.length ≤ d.c) (w : World) (h : Lies w d.A (zC d.ps)) :
    Calls Try.prog 29 #[.int .i64 n, .agg #[.slice d.A d.ps.length d.c, .int .i64 d.t]] w fun e w' => e = .returned (.bool (okN n d)) ∧ Below w.heap.size w w' := by
  have H1 := Lib.hid (fun h => okN_few (n := n) (d := d) h)
  have H2 := Lib.hid (fun h => okN_t0 (n := n) (d := d) h)
  have H3 := Lib.hid (fun h => okN_t1 (n := n) (d := d) h)
  have H4 := Lib.hid (fun i hi h => okN_bad (n := n) (d := d) (i := i) hi h)
  have H5 := Lib.hid (fun h1 h2 h3 h4 => okN_ok (n := n) (d := d) h1 h2 h3 h4)
  have HLs := Lib.hid (fun w' (f : Fr (fun _ => False) w w') k hk => lies_int h f k hk)
  have HCn := Lib.hid (fun w' (f : Fr (fun _ => False) w w') k x (hk : k ≤ 6) => GnContains_any d.A d.c (d.ps.take k) x w' (by rw [List.length_take]; omega) ((h.fr f (fun _ _ e => e)).takeZ k))
  obtain ⟨A, c, ps, t⟩ := d
  simp only at *
  obtain ⟨R, hR⟩ : ∃ R, okN n ⟨A, c, ps, t⟩ = R := ⟨_, rfl⟩
  rw [hR] at H1 H2 H3 H4 H5 ⊢
  obtain ⟨L, hL⟩ : ∃ L, ps.length = L := ⟨_, rfl⟩
  have HL := Lib.hid hL
  rw [hL] at H1 H4 H5 HLs hd ⊢
  obtain ⟨w1, hw1⟩ : ∃ w1, w.alloc (.cells #[.slice A L c, .int .i64 t] 38) = w1 := ⟨_, rfl⟩
  have HF1 := Lib.hid (show Fr (fun _ => False) w w1 from by subst hw1; exact (Fr.refl (fun _ => False) w).alloc _)
  have HW1 := Lib.hid (show Whole w1 w.heap.size 38 #[.slice A L c, .int .i64 t] from by subst hw1; exact Whole.new w 38 _)
  have c0 : w1.cell? ⟨w.heap.size, 0, none⟩ = some (.slice A L c) := by rw [HW1.out.cell]; rfl
  have c1 : w1.cell? ⟨w.heap.size, 1, none⟩ = some (.int .i64 t) := by rw [HW1.out.cell]; rfl
  clear h hR hL
  by_cases h1 : 6 < L
  · have hz : (6 : Int) < (L : Int) := by omega
    go_enter Try.func29, Try.ntmps29
    go_wp2
    go_ret
    exact ⟨by rw [H1.out h1]; rfl, HF1.out.below (fun _ _ e => e)⟩
  have hz1 : ¬ (6 : Int) < (L : Int) := by omega
  by_cases h2 : t < 0
  · go_enter Try.func29, Try.ntmps29
    go_wp2
    go_ret
    exact ⟨by rw [H2.out h2]; rfl, HF1.out.below (fun _ _ e => e)⟩
  by_cases h3 : 1099511627776 < t
  · go_enter Try.func29, Try.ntmps29
    go_wp2
    go_ret
    exact ⟨by rw [H3.out h3]; rfl, HF1.out.below (fun _ _ e => e)⟩
  have HN1 := Lib.hid h1
  have HN2 := Lib.hid h2
  have HN3 := Lib.hid h3
  have HD := Lib.hid hd
  clear h1 hd
  go_enter Try.func29, Try.ntmps29
  go_wp2
  clear h2 h3 hz1
  go_loopg [24] L (fun kx s24 wr => ∃ k : Nat, s24 = .int .i64 k ∧ k ≤ L ∧ L - k ≤ kx ∧ w1 = wr ∧ Hid (∀ i, i < k → badP n ps i = false))
  case atStart => exact ⟨0, rfl, by omega, by omega, rfl, Lib.hid (fun i hi => by omega)⟩
  case round =>
    obtain ⟨k, rfl, hk, hkx, rfl, HB⟩ := hrel
    by_cases hlt : k < L
    · have hltz : (k : Int) < L := by omega
      obtain ⟨b, o, rfl, cx⟩ := HLs.out w1 HF1.out k hlt
      have HBl := Lib.hid (fun h => badP_lt (n := n) (ps := ps) (i := k) h)
      have HBg := Lib.hid (fun h => badP_ge (n := n) (ps := ps) (i := k) h)
      have HBm := Lib.hid (fun h1 h2 => badP_mid (n := n) (ps := ps) (i := k) h1 h2)
      have HCk := Lib.hid (HCn.out w1 HF1.out k (ps.getD k 0) (by have := HN1.out; omega))
      rw [show (ps.take k).length = k by rw [List.length_take, HL.out]; omega] at HCk
      have hsl := fun w => slice_hdN (some ⟨b, o, none⟩) (.inr ⟨b, o, rfl⟩) L c k (by have := HD.out; omega) w
      obtain ⟨y, hy⟩ : ∃ y, ps.getD k 0 = y := ⟨_, rfl⟩
      rw [hy] at cx HBl HBg HBm HCk
      have wk := wrap_nat1 k (by have := HN1.out; omega)
      clear hy
      by_cases hy0 : y < 0
      · have HE := Lib.hid (H4.out k hlt (HBl.out hy0))
        go_wp2
        go_ret
        exact ⟨by rw [HE.out]; rfl, HF1.out.below (fun _ _ e => e)⟩
      by_cases hyn : (n : Int) ≤ y
      · have HE := Lib.hid (H4.out k hlt (HBg.out hyn))
        go_wp2
        go_ret
        exact ⟨by rw [HE.out]; rfl, HF1.out.below (fun _ _ e => e)⟩
      have hb := HBm.out hy0 hyn
      obtain ⟨r, hr⟩ : ∃ r, (ps.take k).contains y = r := ⟨_, rfl⟩
      rw [hr] at hb HCk
      clear hr
      cases r
      · have HE := Lib.hid hb
        clear hb
        go_wp2_with (go_at_call 35; refine HCk.out.mono ?_; rintro e w' ⟨rfl, rfl⟩)
        go_roundg (L - (k + 1))
        case measure => omega
        case rel => exact ⟨k + 1, by go_num, by omega, Nat.le_refl _, rfl, Lib.hid (fun i hi => (by omega : i < k ∨ i = k).elim (HB.out i) (fun e => by rw [e]; exact HE.out))⟩
      · have HE := Lib.hid (H4.out k hlt hb)
        clear hb
        go_wp2_with (go_at_call 35; refine HCk.out.mono ?_; rintro e w' ⟨rfl, rfl⟩)
        go_ret
        exact ⟨by rw [HE.out]; rfl, HF1.out.below (fun _ _ e => e)⟩
    · obtain rfl : k = L := by omega
      have HE := Lib.hid (H5.out HN1.out HN2.out HN3.out HB.out)
      go_wp2
      go_ret
      exact ⟨by rw [HE.out]; rfl, HF1.out.below (fun _ _ e => e)⟩
end Go.Proofs.Ytpaigmmpihcdaaa
/- What is proved: Check of the program and of the document. Conditions: the graph's cells are there. -/
namespace Go.Proofs.Ytpaigmmpihcdaaa
open Go.RowKit Go.Shelf
set_option linter.unusedVariables false
set_option maxHeartbeats 1600000 in
set_option maxRecDepth 100000 in
theorem DaCheck_any (A : Option Addr) (c : Nat) (G : List Nd) (w : World) (h : GAt w A G) :
    Calls Try.prog 19 #[.slice A G.length c] w fun e w' => e = .returned (.int .i64 (chkG G)) ∧ Below w.heap.size w w' := by
  have H1 := Lib.hid (fun h => okG_many (G := G) h)
  have H2 := Lib.hid (fun n hn h => okG_bad (G := G) (n := n) hn h)
  have H3 := Lib.hid (fun h h2 => okG_ok (G := G) h h2)
  have HG := Lib.hid (fun w' (f : Fr (fun _ => False) w w') n hn => h.node f n hn)
  have HGd := Lib.hid (getD_nd G)
  obtain ⟨L, hL⟩ : ∃ L, G.length = L := ⟨_, rfl⟩
  have HL := Lib.hid hL
  obtain ⟨R, hR⟩ : ∃ R, chkG G = R := ⟨_, rfl⟩
  rw [hL] at H1 H2 H3 ⊢
  rw [hR] at H1 H2 H3 ⊢
  clear h hL hR
  by_cases h1 : 128 < L
  · have hz : (128 : Int) < (L : Int) := by omega
    have HE := Lib.hid (H1.out h1)
    go_enter Try.func19, Try.ntmps19
    go_wp2
    go_ret
    exact ⟨by rw [HE.out]; rfl, Below.refl _ _⟩
  have hz1 : ¬ (128 : Int) < (L : Int) := by omega
  have HN1 := Lib.hid h1
  clear h1
  go_enter Try.func19, Try.ntmps19
  go_wp2
  clear hz1
  go_loopg [10] L (fun kx s10 wr => ∃ k : Nat, s10 = .int .i64 k ∧ k ≤ L ∧ L - k ≤ kx ∧ Hid (Fr (fun _ => False) w wr) ∧ Hid (∀ i, i < k → okN i (G.getD i default) = true))
  case atStart => exact ⟨0, rfl, by omega, by omega, Lib.hid (Fr.refl _ _), Lib.hid (fun i hi => by omega)⟩
  case round =>
    obtain ⟨k, rfl, hk, hkx, HFr, HB⟩ := hrel
    obtain ⟨wo, rfl⟩ : ∃ wo, wo = wr := ⟨wr, rfl⟩
    by_cases hlt : k < L
    · have hltz : (k : Int) < L := by omega
      have hkG : k < G.length := by rw [HL.out]; exact hlt
      obtain ⟨b, o, hBk, ca, cb, hli, hlc⟩ := HG.out wo HFr.out k hkG
      subst hBk
      have HGk := Lib.hid (HGd.out k hkG)
      obtain ⟨d, hd⟩ : ∃ d, G[k] = d := ⟨_, rfl⟩
      rw [hd] at ca cb hli hlc HGk
      have HNode := Lib.hid (fun (w1 : World) (f : Fr (fun _ => False) wo w1) => DaisNode_any k d hlc w1 (hli.fr f (fun _ _ e => e)))
      have H2k := Lib.hid (H2.out k hlt)
      rw [HGk.out] at H2k
      obtain ⟨r, hr⟩ : ∃ r, okN k d = r := ⟨_, rfl⟩
      rw [hr] at H2k HNode
      have HR := Lib.hid hr
      obtain ⟨cells, hcl⟩ : ∃ c, (#[.slice d.A d.ps.length d.c, .int .i64 d.t] : Array Value) = c := ⟨_, rfl⟩
      obtain ⟨Ad, hAd⟩ : ∃ A, d.A = A := ⟨_, rfl⟩
      obtain ⟨pd, hpd⟩ : ∃ A, d.ps.length = A := ⟨_, rfl⟩
      obtain ⟨cd, hcd⟩ : ∃ A, d.c = A := ⟨_, rfl⟩
      obtain ⟨td, htd⟩ : ∃ A, d.t = A := ⟨_, rfl⟩
      rw [hAd, hpd, hcd] at ca HNode
      rw [htd] at cb HNode
      have cb2 : wo.cell? ⟨b, o + k * 2 + 1, none⟩ = some (.int .i64 td) := by rw [Nat.add_assoc]; exact cb
      obtain ⟨w1, hw1⟩ : ∃ w1, wo.alloc (.cells #[.slice Ad pd cd, .int .i64 td] 38) = w1 := ⟨_, rfl⟩
      have HF1 := Lib.hid (show Fr (fun _ => False) wo w1 from by subst hw1; exact (Fr.refl (fun _ => False) wo).alloc _)
      have HW1 := Lib.hid (show Whole w1 wo.heap.size 38 #[.slice Ad pd cd, .int .i64 td] from by subst hw1; exact Whole.new wo 38 _)
      have d0 : w1.cell? ⟨wo.heap.size, 0, none⟩ = some (.slice Ad pd cd) := by rw [HW1.out.cell]; rfl
      have d1 : w1.cell? ⟨wo.heap.size, 1, none⟩ = some (.int .i64 td) := by rw [HW1.out.cell]; rfl
      clear hcl hAd hpd hcd htd hr hd hli hlc hkG
      have wk := wrap_nat1 k (by have := HN1.out; omega)
      cases r
      · have HE := Lib.hid (H2k.out rfl)
        go_wp2_with (go_at_call 29; refine (HNode.out _ HF1.out).mono ?_; rintro e w2 ⟨rfl, b2⟩)
        go_ret
        exact ⟨by rw [HE.out]; rfl, ((HFr.out.trans HF1.out (fun _ _ e => e)).then_below b2).below (fun _ _ e => e)⟩
      · go_wp2_with (go_at_call 29; refine (HNode.out _ HF1.out).mono ?_; rintro e w2 ⟨rfl, b2⟩; have HF2 := Lib.hid ((HFr.out.trans HF1.out (fun _ _ e => e)).then_below b2); clear b2)
        go_roundg (L - (k + 1))
        case measure => omega
        case rel => exact ⟨k + 1, by go_num, by omega, Nat.le_refl _, HF2, Lib.hid (fun i hi => (by omega : i < k ∨ i = k).elim (HB.out i) (fun e => by rw [e, HGk.out]; exact HR.out))⟩
    · obtain rfl : k = L := by omega
      have HE := Lib.hid (H3.out HN1.out HB.out)
      go_wp2
      go_ret
      exact ⟨by rw [HE.out]; rfl, HFr.out.below (fun _ _ e => e)⟩
end Go.Proofs.Ytpaigmmpihcdaaa
/- What is proved: Check of the document; whether two lists of numbers are one. Conditions: the cells are there. -/
namespace Go.Proofs.Ytpaigmmpihcdaaa
open Go.RowKit Go.Shelf
set_option linter.unusedVariables false
theorem no_take {ps : List Int} {k : Nat} {x : Int} (h : ∀ j, j < k → ¬ ps.getD j 0 = x) : (ps.take k).contains x = false := by
  rw [Bool.eq_false_iff]
  intro e
  rw [List.contains_iff_mem] at e
  obtain ⟨j, hj, he⟩ := List.getElem_of_mem e
  rw [List.length_take] at hj
  rw [List.getElem_take] at he
  exact h j (by omega) (by rw [List.getD_eq_getElem?_getD, List.getElem?_eq_getElem (by omega)]; exact he)
theorem in_take {ps : List Int} {k j : Nat} (hk : k ≤ ps.length) (hj : j < k) : (ps.take k).contains (ps.getD j 0) = true := by
  rw [List.contains_iff_mem, List.getD_eq_getElem?_getD, List.getElem?_eq_getElem (by omega)]
  exact List.mem_iff_getElem.2 ⟨j, by rw [List.length_take]; omega, by rw [List.getElem_take]; rfl⟩
set_option maxHeartbeats 3200000 in
set_option maxRecDepth 100000 in
theorem QaCheck_any (A : Option Addr) (c : Nat) (G : List Nd) (w : World) (h : GAt w A G) :
    Calls Try.prog 30 #[.slice A G.length c] w fun e w' => e = .returned (.int .i64 (chkG G)) ∧ Below w.heap.size w w' := by
  have H1 := Lib.hid (fun h => okG_many (G := G) h)
  have H2 := Lib.hid (fun n hn h => okG_bad (G := G) (n := n) hn h)
  have H3 := Lib.hid (fun h h2 => okG_ok (G := G) h h2)
  have HG := Lib.hid (fun w' (f : Fr (fun _ => False) w w') n hn => h.node f n hn)
  have HGd := Lib.hid (getD_nd G)
  obtain ⟨L, hL⟩ : ∃ L, G.length = L := ⟨_, rfl⟩
  have HL := Lib.hid hL
  obtain ⟨R, hR⟩ : ∃ R, chkG G = R := ⟨_, rfl⟩
  rw [hL] at H1 H2 H3 ⊢
  rw [hR] at H1 H2 H3 ⊢
  clear h hL hR
  by_cases h1 : 128 < L
  · have hz : (128 : Int) < (L : Int) := by omega
    have HE := Lib.hid (H1.out h1)
    go_enter Try.func30, Try.ntmps30
    go_wp2
    go_ret
    exact ⟨by rw [HE.out]; rfl, Below.refl _ _⟩
  have hz1 : ¬ (128 : Int) < (L : Int) := by omega
  have HN1 := Lib.hid h1
  clear h1
  go_enter Try.func30, Try.ntmps30
  go_wp2
  clear hz1
  go_loopg [3] L (fun kx s3 wr => ∃ k : Nat, s3 = .int .i64 k ∧ k ≤ L ∧ L - k ≤ kx ∧ Hid (Fr (fun _ => False) w wr) ∧ Hid (∀ i, i < k → okN i (G.getD i default) = true))
  case atStart => exact ⟨0, rfl, by omega, by omega, Lib.hid (Fr.refl _ _), Lib.hid (fun i hi => by omega)⟩
  case round =>
    obtain ⟨n, rfl, hn, hnx, HFr, HB⟩ := hrel
    obtain ⟨wo, rfl⟩ : ∃ wo, wo = wr := ⟨wr, rfl⟩
    by_cases hlt : n < L
    · have hltz : (n : Int) < L := by omega
      have hkG : n < G.length := by rw [HL.out]; exact hlt
      obtain ⟨b, o, hBk, ca, cb, hli, hlc⟩ := HG.out wo HFr.out n hkG
      subst hBk
      have HGk := Lib.hid (HGd.out n hkG)
      obtain ⟨d, hd⟩ : ∃ d, G[n] = d := ⟨_, rfl⟩
      rw [hd] at ca cb hli hlc HGk
      have H2k := Lib.hid (H2.out n hlt)
      rw [HGk.out] at H2k
      obtain ⟨Ad, cd, ps, t⟩ := d
      simp only at ca cb hli hlc
      have K1 := Lib.hid (fun h => H2k.out (okN_few (n := n) (d := ⟨Ad, cd, ps, t⟩) h))
      have K2 := Lib.hid (fun h => H2k.out (okN_t0 (n := n) (d := ⟨Ad, cd, ps, t⟩) h))
      have K3 := Lib.hid (fun h => H2k.out (okN_t1 (n := n) (d := ⟨Ad, cd, ps, t⟩) h))
      have K4 := Lib.hid (fun i hi h => H2k.out (okN_bad (n := n) (d := ⟨Ad, cd, ps, t⟩) (i := i) hi h))
      have K5 := Lib.hid (fun h1 h2 h3 h4 => okN_ok (n := n) (d := ⟨Ad, cd, ps, t⟩) h1 h2 h3 h4)
      simp only at K1 K2 K3 K4 K5
      obtain ⟨w1, hw1⟩ : ∃ w1, wo.alloc (.cells #[.slice Ad ps.length cd, .int .i64 t] 38) = w1 := ⟨_, rfl⟩
      have HF1 := Lib.hid (show Fr (fun _ => False) wo w1 from by subst hw1; exact (Fr.refl (fun _ => False) wo).alloc _)
      have HW1 := Lib.hid (show Whole w1 wo.heap.size 38 #[.slice Ad ps.length cd, .int .i64 t] from by subst hw1; exact Whole.new wo 38 _)
      have d0 : w1.cell? ⟨wo.heap.size, 0, none⟩ = some (.slice Ad ps.length cd) := by rw [HW1.out.cell]; rfl
      have d1 : w1.cell? ⟨wo.heap.size, 1, none⟩ = some (.int .i64 t) := by rw [HW1.out.cell]; rfl
      have HLs := Lib.hid (fun w' (f : Fr (fun _ => False) w1 w') k hk => lies_int hli (HF1.out.trans f (fun _ _ e => e)) k hk)
      have HTk := Lib.hid (fun j k (h1 : k ≤ ps.length) (h2 : j < k) => in_take (ps := ps) h1 h2)
      obtain ⟨M, hM⟩ : ∃ M, ps.length = M := ⟨_, rfl⟩
      have HM := Lib.hid hM
      rw [hM] at ca hw1 HW1 d0 K1 K4 K5 HLs HTk
      have cb2 : wo.cell? ⟨b, o + n * 2 + 1, none⟩ = some (.int .i64 t) := by rw [Nat.add_assoc]; exact cb
      have wn := wrap_nat1 n (by have := HN1.out; omega)
      have HFw := Lib.hid (HFr.out.trans HF1.out (fun _ _ e => e))
      clear hd hli hlc hkG hM
      by_cases m1 : 6 < M
      · have hz : (6 : Int) < (M : Int) := by omega
        have HE := Lib.hid (K1.out m1)
        go_wp2
        go_ret
        exact ⟨by rw [HE.out]; rfl, HFw.out.below (fun _ _ e => e)⟩
      have hz1 : ¬ (6 : Int) < (M : Int) := by omega
      by_cases m2 : t < 0
      · have HE := Lib.hid (K2.out m2)
        go_wp2
        go_ret
        exact ⟨by rw [HE.out]; rfl, HFw.out.below (fun _ _ e => e)⟩
      by_cases m3 : 1099511627776 < t
      · have HE := Lib.hid (K3.out m3)
        go_wp2
        go_ret
        exact ⟨by rw [HE.out]; rfl, HFw.out.below (fun _ _ e => e)⟩
      have M1 := Lib.hid m1
      have M2 := Lib.hid m2
      have M3 := Lib.hid m3
      clear m1
      go_wp2
      clear m2 m3 hz1 ca cb cb2
      go_loopg [5] M (fun kx s5 wr => ∃ k : Nat, s5 = .int .i64 k ∧ k ≤ M ∧ M - k ≤ kx ∧ Hid (Fr (fun _ => False) w1 wr) ∧ Hid (∀ i, i < k → badP n ps i = false))
      case atStart => exact ⟨0, rfl, by omega, by omega, Lib.hid (Fr.refl _ _), Lib.hid (fun i hi => by omega)⟩
      case round =>
        obtain ⟨k, rfl, hk, hkx, HFk, HI⟩ := hrel
        obtain ⟨wi, rfl⟩ : ∃ wi, wi = wr := ⟨wr, rfl⟩
        have e0 := HFk.out.cell d0 (fun e => e)
        have wk := wrap_nat1 k (by have := M1.out; omega)
        have HFwi := Lib.hid (HFw.out.trans HFk.out (fun _ _ e => e))
        by_cases hkl : k < M
        · have hklz : (k : Int) < M := by omega
          obtain ⟨bp, op, hBp, cx⟩ := HLs.out wi HFk.out k hkl
          subst hBp
          have HLj := Lib.hid (fun (w' : World) (f : Fr (fun _ => False) wi w') j (hj : j < M) => HLs.out w' (HFk.out.trans f (fun _ _ e => e)) j hj)
          have HBl := Lib.hid (fun h => K4.out k hkl (badP_lt (n := n) (ps := ps) (i := k) h))
          have HBg := Lib.hid (fun h => K4.out k hkl (badP_ge (n := n) (ps := ps) (i := k) h))
          have HBm := Lib.hid (fun h1 h2 => badP_mid (n := n) (ps := ps) (i := k) h1 h2)
          obtain ⟨y, hy⟩ : ∃ y, ps.getD k 0 = y := ⟨_, rfl⟩
          have HY := Lib.hid hy
          rw [hy] at cx HBl HBg HBm
          clear hy
          by_cases hy0 : y < 0
          · have HE := Lib.hid (HBl.out hy0)
            go_wp2
            go_ret
            exact ⟨by rw [HE.out]; rfl, HFwi.out.below (fun _ _ e => e)⟩
          by_cases hyn : (n : Int) ≤ y
          · have HE := Lib.hid (HBg.out hyn)
            go_wp2
            go_ret
            exact ⟨by rw [HE.out]; rfl, HFwi.out.below (fun _ _ e => e)⟩
          have HBd := Lib.hid (HBm.out hy0 hyn)
          go_wp2
          clear hy0 hyn
          go_loopg [6] M (fun kx s6 wr => ∃ j : Nat, s6 = .int .i64 j ∧ j ≤ k ∧ k - j ≤ kx ∧ Hid (Fr (fun _ => False) wi wr) ∧ Hid (∀ i, i < j → ¬ ps.getD i 0 = y))
          case atStart => exact ⟨0, rfl, by omega, by omega, Lib.hid (Fr.refl _ _), Lib.hid (fun i hi => by omega)⟩
          case round =>
            obtain ⟨j, rfl, hj, hjx, HFj, HJ⟩ := hrel
            obtain ⟨wj, rfl⟩ : ∃ wj, wj = wr := ⟨wr, rfl⟩
            have g0 := HFj.out.cell e0 (fun e => e)
            have gx := HFj.out.cell cx (fun e => e)
            have wj1 := wrap_nat1 j (by have := M1.out; omega)
            have HFwj := Lib.hid (HFwi.out.trans HFj.out (fun _ _ e => e))
            by_cases hjk : j < k
            · have hjz : (j : Int) < k := by omega
              have hjM : (j : Int) < M := by omega
              obtain ⟨bj, oj, hBj, cj⟩ := HLj.out wj HFj.out j (by omega)
              injection hBj with hBj
              injection hBj with hb1 hb2
              subst hb1; subst hb2
              have HTj := Lib.hid (HTk.out j k (by omega) hjk)
              obtain ⟨x, hx⟩ : ∃ x, ps.getD j 0 = x := ⟨_, rfl⟩
              have HX := Lib.hid hx
              rw [hx] at cj HTj
              clear hx
              by_cases e : x = y
              · subst e
                have HE := Lib.hid (K4.out k hkl (by rw [HBd.out]; exact HTj.out))
                go_upto_region 17 with fail
                go_quiet (fail)
                go_wp2
                go_ret
                exact ⟨by rw [HE.out]; rfl, (HFwj.out.drewN _).below (fun _ _ e => e)⟩
              · go_upto_region 17 with fail
                go_quiet (fail)
                go_wp2
                go_roundg (k - (j + 1))
                case measure => omega
                case rel => exact ⟨j + 1, by go_num, by omega, Nat.le_refl _, Lib.hid (HFj.out.drewN _), Lib.hid (fun i hi => (by omega : i < j ∨ i = j).elim (HJ.out i) (fun q => by rw [q, HX.out]; exact e))⟩
            · obtain rfl : j = k := by omega
              have HE := Lib.hid (show badP n ps j = false from by rw [HBd.out]; exact no_take HJ.out)
              go_wp2
              go_roundg (M - (j + 1))
              case measure => omega
              case rel => exact ⟨j + 1, by go_num, by omega, Nat.le_refl _, Lib.hid (HFk.out.trans HFj.out (fun _ _ e => e)), Lib.hid (fun i hi => (by omega : i < j ∨ i = j).elim (HI.out i) (fun q => by rw [q]; exact HE.out))⟩
        · obtain rfl : k = M := by omega
          have HE := Lib.hid (K5.out M1.out M2.out M3.out HI.out)
          go_wp2
          go_roundg (L - (n + 1))
          case measure => omega
          case rel => exact ⟨n + 1, by go_num, by omega, Nat.le_refl _, HFwi, Lib.hid (fun i hi => (by omega : i < n ∨ i = n).elim (HB.out i) (fun q => by rw [q, HGk.out]; exact HE.out))⟩
    · obtain rfl : n = L := by omega
      have HE := Lib.hid (H3.out HN1.out HB.out)
      go_wp2
      go_ret
      exact ⟨by rw [HE.out]; rfl, HFr.out.below (fun _ _ e => e)⟩
end Go.Proofs.Ytpaigmmpihcdaaa
/- What is proved: whether all of some numbers are nodes of a graph that is right, by the program and by the document. Conditions: the cells are there; at most ten lists, of at most a thousand numbers each. -/
namespace Go.Proofs.Ytpaigmmpihcdaaa
open Go.RowKit Go.Shelf
set_option linter.unusedVariables false
/-- Is a number no node's? -/
def badZ (N : Nat) (z : Int) : Bool := decide (z < 0) || decide (z ≥ (N : Int))
def nodE (G : List Nd) (l : List Int) : Int := if okG G = true then (if l.any (badZ G.length) = true then 2 else 0) else 12
theorem nodE_bad {G : List Nd} {l : List Int} (h : ¬ chkG G = 0) : nodE G l = chkG G := by
  unfold chkG at h ⊢
  unfold nodE
  split
  · rename_i e; rw [if_pos e] at h; exact absurd rfl h
  · rfl
theorem chk_ok {G : List Nd} (h : chkG G = 0) : okG G = true := by
  unfold chkG at h
  by_cases e : okG G = true
  · exact e
  · rw [if_neg e] at h; exact absurd h (by decide)
theorem nodE_ok {G : List Nd} {l : List Int} (h : chkG G = 0) : nodE G l = if l.any (badZ G.length) = true then 2 else 0 := by
  unfold nodE; rw [if_pos (chk_ok h)]
/-- A list of numbers, and where it lies. -/
structure Il where
  A : Option Addr
  c : Nat
  l : List Int
instance : Inhabited Il := ⟨⟨none, 0, []⟩⟩
def LAt (w : World) (A : Option Addr) (Ls : List Il) : Prop := ∀ w', Fr (fun _ => False) w w' → ∀ i (h : i < Ls.length), ∃ b o, A = some ⟨b, o, none⟩ ∧ w'.cell? ⟨b, o + i, none⟩ = some (.slice Ls[i].A Ls[i].l.length Ls[i].c) ∧ Lies w' Ls[i].A (zC Ls[i].l)
set_option maxHeartbeats 3200000 in
set_option maxRecDepth 100000 in
theorem QaNodes_any (A : Option Addr) (c : Nat) (G : List Nd) (w : World) (h : GAt w A G) (B : Option Addr) (cB : Nat) (l : List Int) (hn : l.length ≤ 10000) (hl : Lies w B (zC l)) :
    Calls Try.prog 21 #[.slice A G.length c, .slice B l.length cB] w fun e w' => e = .returned (.int .i64 (nodE G l)) ∧ Below w.heap.size w w' := by
  have HChk := Lib.hid (QaCheck_any A c G w h)
  have HLs := Lib.hid (fun w' (f : Fr (fun _ => False) w w') k hk => lies_int hl f k hk)
  have HBad := Lib.hid (fun hh => nodE_bad (G := G) (l := l) hh)
  have HOk := Lib.hid (fun hh => nodE_ok (G := G) (l := l) hh)
  have HAny : Hid (∀ k, k < l.length → ∀ p : Int → Bool, p (l.getD k 0) = true → l.any p = true) := Lib.hid (fun k hk p e => by
    rw [List.any_eq_true]
    refine ⟨_, ?_, e⟩
    rw [List.getD_eq_getElem?_getD, List.getElem?_eq_getElem hk]; exact List.getElem_mem hk)
  have HNone : Hid (∀ p : Int → Bool, (∀ k, k < l.length → p (l.getD k 0) = false) → l.any p = false) := Lib.hid (fun p hh => by
    rw [List.any_eq_false]
    intro z hz
    obtain ⟨k, hk, rfl⟩ := List.getElem_of_mem hz
    have := hh k hk
    rw [List.getD_eq_getElem?_getD, List.getElem?_eq_getElem hk, Option.getD_some] at this
    rw [this]; simp)
  obtain ⟨K, hK⟩ : ∃ K, l.length = K := ⟨_, rfl⟩
  rw [hK] at hn HLs HAny HNone ⊢
  obtain ⟨N, hN⟩ : ∃ N, G.length = N := ⟨_, rfl⟩
  rw [hN] at HChk HOk ⊢
  obtain ⟨ck, hck⟩ : ∃ x, chkG G = x := ⟨_, rfl⟩
  rw [hck] at HChk HBad HOk
  clear h hl hK hN hck
  by_cases he : ck = 0
  · subst he
    have HNo := Lib.hid (HOk.out rfl)
    go_enter Try.func21, Try.ntmps21
    go_wp2_with (go_at_call 30; refine HChk.out.mono ?_; rintro e w2 ⟨rfl, b2⟩; have HF2 := Lib.hid (Fr.of_below (S := fun _ => False) b2); clear b2)
    go_loopg [6] K (fun kx s6 wr => ∃ k : Nat, s6 = .int .i64 k ∧ k ≤ K ∧ K - k ≤ kx ∧ Hid (Fr (fun _ => False) w wr) ∧ Hid (∀ i, i < k → badZ N (l.getD i 0) = false))
    case atStart => exact ⟨0, rfl, by omega, by omega, HF2, Lib.hid (fun i hi => by omega)⟩
    case round =>
      obtain ⟨k, rfl, hk, hkx, HFr, HB⟩ := hrel
      obtain ⟨wo, rfl⟩ : ∃ wo, wo = wr := ⟨wr, rfl⟩
      have wk := wrap_nat1 k (by omega)
      by_cases hlt : k < K
      · have hltz : (k : Int) < K := by omega
        obtain ⟨b, o, hBk, cx⟩ := HLs.out wo HFr.out k hlt
        subst hBk
        have HAk := Lib.hid (HAny.out k hlt (badZ N))
        obtain ⟨y, hy⟩ : ∃ y, l.getD k 0 = y := ⟨_, rfl⟩
        have HY := Lib.hid hy
        rw [hy] at cx HAk
        clear hy
        by_cases hy0 : y < 0
        · have HE : Hid (nodE G l = 2) := Lib.hid (by rw [HNo.out, HAk.out (by unfold badZ; rw [decide_eq_true hy0]; rfl)]; rfl)
          go_wp2
          go_ret
          exact ⟨by rw [HE.out]; rfl, HFr.out.below (fun _ _ e => e)⟩
        by_cases hyn : (N : Int) ≤ y
        · have HE : Hid (nodE G l = 2) := Lib.hid (by rw [HNo.out, HAk.out (by unfold badZ; rw [decide_eq_true (p := y ≥ (N : Int)) hyn, Bool.or_true])]; rfl)
          go_wp2
          go_ret
          exact ⟨by rw [HE.out]; rfl, HFr.out.below (fun _ _ e => e)⟩
        have HE : Hid (badZ N y = false) := Lib.hid (by unfold badZ; rw [decide_eq_false hy0, decide_eq_false (p := y ≥ (N : Int)) hyn]; rfl)
        go_wp2
        go_roundg (K - (k + 1))
        case measure => omega
        case rel => exact ⟨k + 1, by go_num, by omega, Nat.le_refl _, HFr, Lib.hid (fun i hi => (by omega : i < k ∨ i = k).elim (HB.out i) (fun q => by rw [q, HY.out]; exact HE.out))⟩
      · obtain rfl : k = K := by omega
        have HE : Hid (nodE G l = 0) := Lib.hid (by rw [HNo.out, HNone.out (badZ N) HB.out]; rfl)
        go_wp2
        go_ret
        exact ⟨by rw [HE.out]; rfl, HFr.out.below (fun _ _ e => e)⟩
  · have HE := Lib.hid (HBad.out he)
    have hen : (ck == 0) = false := by simpa using he
    go_enter Try.func21, Try.ntmps21
    go_wp2_with (go_at_call 30; refine HChk.out.mono ?_; rintro e w2 ⟨rfl, b2⟩; have HF2 := Lib.hid (Fr.of_below (S := fun _ => False) b2); clear b2)
    go_ret
    exact ⟨by rw [HE.out]; rfl, HF2.out.below (fun _ _ e => e)⟩
end Go.Proofs.Ytpaigmmpihcdaaa

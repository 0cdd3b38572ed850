/- What is proved: whether a graph is right, by the program and by the document. Conditions: the graph's cells are there. -/
import Derived.Test.YtfpolfcmfdmifaaKc
namespace Go.Proofs.Ytfpolfcmfdmifaa
open Go.RowKit Go.Shelf
set_option linter.unusedVariables false

/-- Is a node's parent at a place no parent that it may have? -/
def badP (n : Nat) (ps : List Int) (i : Nat) : Bool := decide (ps.getD i 0 < 0) || (decide (ps.getD i 0 ≥ (n : Int)) || (ps.take i).contains (ps.getD i 0))
def okN (n : Nat) (d : Nd) : Bool := decide (d.ps.length ≤ 6) && (decide (0 ≤ d.t) && (decide (d.t ≤ 1099511627776) && !((List.range d.ps.length).any (badP n d.ps))))
def okG (G : List Nd) : Bool := decide (G.length ≤ 128) && !((List.range G.length).any fun n => !okN n (G.getD n default))
def chkG (G : List Nd) : Int := if okG G = true then 0 else 12
theorem okN_few {n : Nat} {d : Nd} (h : 6 < d.ps.length) : okN n d = false := by
  unfold okN; rw [decide_eq_false (by omega), Bool.false_and]
theorem okN_t0 {n : Nat} {d : Nd} (h : d.t < 0) : okN n d = false := by
  unfold okN; rw [decide_eq_false (p := 0 ≤ d.t) (by omega), Bool.false_and, Bool.and_false]
theorem okN_t1 {n : Nat} {d : Nd} (h : 1099511627776 < d.t) : okN n d = false := by
  unfold okN; rw [decide_eq_false (p := d.t ≤ 1099511627776) (by omega), Bool.false_and, Bool.and_false, Bool.and_false]
theorem okN_bad {n : Nat} {d : Nd} {i : Nat} (hi : i < d.ps.length) (h : badP n d.ps i = true) : okN n d = false := by
  have : (List.range d.ps.length).any (badP n d.ps) = true := List.any_eq_true.2 ⟨i, List.mem_range.2 hi, h⟩
  unfold okN
  rw [this]
  simp
theorem okN_ok {n : Nat} {d : Nd} (h1 : ¬ 6 < d.ps.length) (h2 : ¬ d.t < 0) (h3 : ¬ 1099511627776 < d.t) (h4 : ∀ i, i < d.ps.length → badP n d.ps i = false) : okN n d = true := by
  have : (List.range d.ps.length).any (badP n d.ps) = false := by
    rw [List.any_eq_false]
    intro i hi
    rw [h4 i (List.mem_range.1 hi)]; simp
  unfold okN
  rw [this, decide_eq_true (by omega), decide_eq_true (p := 0 ≤ d.t) (by omega), decide_eq_true (p := d.t ≤ 1099511627776) (by omega)]
  rfl
theorem badP_lt {n : Nat} {ps : List Int} {i : Nat} (h : ps.getD i 0 < 0) : badP n ps i = true := by
  unfold badP; rw [decide_eq_true h, Bool.true_or]
theorem badP_ge {n : Nat} {ps : List Int} {i : Nat} (h : (n : Int) ≤ ps.getD i 0) : badP n ps i = true := by
  unfold badP; rw [decide_eq_true (p := ps.getD i 0 ≥ (n : Int)) h, Bool.true_or, Bool.or_true]
theorem badP_mid {n : Nat} {ps : List Int} {i : Nat} (h1 : ¬ ps.getD i 0 < 0) (h2 : ¬ (n : Int) ≤ ps.getD i 0) : badP n ps i = (ps.take i).contains (ps.getD i 0) := by
  unfold badP; rw [decide_eq_false h1, decide_eq_false (p := ps.getD i 0 ≥ (n : Int)) h2, Bool.false_or, Bool.false_or]
theorem okG_many {G : List Nd} (h : 128 < G.length) : chkG G = 12 := by
  unfold chkG okG; rw [decide_eq_false (by omega)]; rfl
theorem okG_bad {G : List Nd} {n : Nat} (hn : n < G.length) (h : okN n (G.getD n default) = false) : chkG G = 12 := by
  have : ((List.range G.length).any fun n => !okN n (G.getD n default)) = true := List.any_eq_true.2 ⟨n, List.mem_range.2 hn, by rw [h]; rfl⟩
  unfold chkG okG
  rw [this]; simp
theorem okG_ok {G : List Nd} (h : ¬ 128 < G.length) (h2 : ∀ n, n < G.length → okN n (G.getD n default) = true) : chkG G = 0 := by
  have : ((List.range G.length).any fun n => !okN n (G.getD n default)) = false := by
    rw [List.any_eq_false]
    intro i hi
    rw [h2 i (List.mem_range.1 hi)]; simp
  unfold chkG okG
  rw [this, decide_eq_true (by omega)]; rfl
theorem getD_nd (G : List Nd) (n : Nat) (h : n < G.length) : G.getD n default = G[n] := by rw [List.getD_eq_getElem?_getD, List.getElem?_eq_getElem h]; rfl
theorem Lies.takeZ {w : World} {A : Option Addr} {l : List Int} (h : Lies w A (zC l)) (m : Nat) : Lies w A (zC (l.take m)) := by
  rw [show zC (l.take m) = (zC l).take m by simp [zC]]
  rcases h with h | ⟨b, o, rfl, hc⟩
  · rw [h]; exact .inl (by simp)
  · refine .inr ⟨b, o, rfl, fun j u hu => hc j u ?_⟩
    rw [List.getElem?_take] at hu
    split at hu
    · exact hu
    · simp at hu

set_option maxHeartbeats 3200000 in
set_option maxRecDepth 100000 in
theorem DaisNode_any (n : Nat) (d : Nd) (hd : d.ps.length ≤ d.c) (w : World) (h : Lies w d.A (zC d.ps)) :
    Calls Try.prog 28 #[.int .i64 n, .agg #[.slice d.A d.ps.length d.c, .int .i64 d.t]] w fun e w' => e = .returned (.bool (okN n d)) ∧ Below w.heap.size w w' := by
  have H1 := Lib.hid (fun h => okN_few (n := n) (d := d) h)
  have H2 := Lib.hid (fun h => okN_t0 (n := n) (d := d) h)
  have H3 := Lib.hid (fun h => okN_t1 (n := n) (d := d) h)
  have H4 := Lib.hid (fun i hi h => okN_bad (n := n) (d := d) (i := i) hi h)
  have H5 := Lib.hid (fun h1 h2 h3 h4 => okN_ok (n := n) (d := d) h1 h2 h3 h4)
  have HLs := Lib.hid (fun w' (f : Fr (fun _ => False) w w') k hk => lies_int h f k hk)
  have HCn := Lib.hid (fun w' (f : Fr (fun _ => False) w w') k x (hk : k ≤ 6) => GnContains_any d.A d.c (d.ps.take k) x w' (by rw [List.length_take]; omega) ((h.fr f (fun _ _ e => e)).takeZ k))
  obtain ⟨A, c, ps, t⟩ := d
  simp only at *
  obtain ⟨R, hR⟩ : ∃ R, okN n ⟨A, c, ps, t⟩ = R := ⟨_, rfl⟩
  rw [hR] at H1 H2 H3 H4 H5 ⊢
  obtain ⟨L, hL⟩ : ∃ L, ps.length = L := ⟨_, rfl⟩
  have HL := Lib.hid hL
  rw [hL] at H1 H4 H5 HLs hd ⊢
  obtain ⟨w1, hw1⟩ : ∃ w1, w.alloc (.cells #[.slice A L c, .int .i64 t] 55) = w1 := ⟨_, rfl⟩
  have HF1 := Lib.hid (show Fr (fun _ => False) w w1 from by subst hw1; exact (Fr.refl (fun _ => False) w).alloc _)
  have HW1 := Lib.hid (show Whole w1 w.heap.size 55 #[.slice A L c, .int .i64 t] from by subst hw1; exact Whole.new w 55 _)
  have c0 : w1.cell? ⟨w.heap.size, 0, none⟩ = some (.slice A L c) := by rw [HW1.out.cell]; rfl
  have c1 : w1.cell? ⟨w.heap.size, 1, none⟩ = some (.int .i64 t) := by rw [HW1.out.cell]; rfl
  clear h hR hL
  by_cases h1 : 6 < L
  · have hz : (6 : Int) < (L : Int) := by omega
    go_enter Try.func28, Try.ntmps28
    go_wp2
    go_ret
    exact ⟨by rw [H1.out h1]; rfl, HF1.out.below (fun _ _ e => e)⟩
  have hz1 : ¬ (6 : Int) < (L : Int) := by omega
  by_cases h2 : t < 0
  · go_enter Try.func28, Try.ntmps28
    go_wp2
    go_ret
    exact ⟨by rw [H2.out h2]; rfl, HF1.out.below (fun _ _ e => e)⟩
  by_cases h3 : 1099511627776 < t
  · go_enter Try.func28, Try.ntmps28
    go_wp2
    go_ret
    exact ⟨by rw [H3.out h3]; rfl, HF1.out.below (fun _ _ e => e)⟩
  have HN1 := Lib.hid h1
  have HN2 := Lib.hid h2
  have HN3 := Lib.hid h3
  have HD := Lib.hid hd
  clear h1 hd
  go_enter Try.func28, Try.ntmps28
  go_wp2
  clear h2 h3 hz1
  go_loopg [24] L (fun kx s24 wr => ∃ k : Nat, s24 = .int .i64 k ∧ k ≤ L ∧ L - k ≤ kx ∧ w1 = wr ∧ Hid (∀ i, i < k → badP n ps i = false))
  case atStart => exact ⟨0, rfl, by omega, by omega, rfl, Lib.hid (fun i hi => by omega)⟩
  case round =>
    obtain ⟨k, rfl, hk, hkx, rfl, HB⟩ := hrel
    by_cases hlt : k < L
    · have hltz : (k : Int) < L := by omega
      obtain ⟨b, o, rfl, cx⟩ := HLs.out w1 HF1.out k hlt
      have HBl := Lib.hid (fun h => badP_lt (n := n) (ps := ps) (i := k) h)
      have HBg := Lib.hid (fun h => badP_ge (n := n) (ps := ps) (i := k) h)
      have HBm := Lib.hid (fun h1 h2 => badP_mid (n := n) (ps := ps) (i := k) h1 h2)
      have HCk := Lib.hid (HCn.out w1 HF1.out k (ps.getD k 0) (by have := HN1.out; omega))
      rw [show (ps.take k).length = k by rw [List.length_take, HL.out]; omega] at HCk
      have hsl := fun w => slice_hdN (some ⟨b, o, none⟩) (.inr ⟨b, o, rfl⟩) L c k (by have := HD.out; omega) w
      obtain ⟨y, hy⟩ : ∃ y, ps.getD k 0 = y := ⟨_, rfl⟩
      rw [hy] at cx HBl HBg HBm HCk
      have wk := wrap_nat1 k (by have := HN1.out; omega)
      clear hy
      by_cases hy0 : y < 0
      · have HE := Lib.hid (H4.out k hlt (HBl.out hy0))
        go_wp2
        go_ret
        exact ⟨by rw [HE.out]; rfl, HF1.out.below (fun _ _ e => e)⟩
      by_cases hyn : (n : Int) ≤ y
      · have HE := Lib.hid (H4.out k hlt (HBg.out hyn))
        go_wp2
        go_ret
        exact ⟨by rw [HE.out]; rfl, HF1.out.below (fun _ _ e => e)⟩
      have hb := HBm.out hy0 hyn
      obtain ⟨r, hr⟩ : ∃ r, (ps.take k).contains y = r := ⟨_, rfl⟩
      rw [hr] at hb HCk
      clear hr
      cases r
      · have HE := Lib.hid hb
        clear hb
        go_wp2_with (go_at_call 35; refine HCk.out.mono ?_; rintro e w' ⟨rfl, rfl⟩)
        go_roundg (L - (k + 1))
        case measure => omega
        case rel => exact ⟨k + 1, by go_num, by omega, Nat.le_refl _, rfl, Lib.hid (fun i hi => (by omega : i < k ∨ i = k).elim (HB.out i) (fun e => by rw [e]; exact HE.out))⟩
      · have HE := Lib.hid (H4.out k hlt hb)
        clear hb
        go_wp2_with (go_at_call 35; refine HCk.out.mono ?_; rintro e w' ⟨rfl, rfl⟩)
        go_ret
        exact ⟨by rw [HE.out]; rfl, HF1.out.below (fun _ _ e => e)⟩
    · obtain rfl : k = L := by omega
      have HE := Lib.hid (H5.out HN1.out HN2.out HN3.out HB.out)
      go_wp2
      go_ret
      exact ⟨by rw [HE.out]; rfl, HF1.out.below (fun _ _ e => e)⟩
end Go.Proofs.Ytfpolfcmfdmifaa

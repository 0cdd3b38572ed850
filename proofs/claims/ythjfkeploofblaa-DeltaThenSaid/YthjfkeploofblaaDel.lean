/- What is proved: the longest part of a base that a text begins with, by the program. Conditions: the map is the base's, the bytes are there. -/
import Derived.Test.YthjfkeploofblaaDek
namespace Go.Proofs.Ythjfkeploofblaa
open Go.RowKit
set_option linter.unusedVariables false

/-- A part counts from six bytes on. -/
def gd (r : Nat × Nat) : Nat × Nat := if 6 ≤ r.2 then r else (0, 0)
theorem lcp_ge (a b : List UInt8) (n : Nat) (h1 : n ≤ a.length) (h2 : n ≤ b.length) (h : a.take n = b.take n) : n ≤ lcp a b := by
  induction n generalizing a b with
  | zero => omega
  | succ n ih =>
    match a, b with
    | [], _ => simp at h1
    | _ :: _, [] => simp at h2
    | x :: a, y :: b =>
      simp at h h1 h2
      unfold lcp
      rw [if_pos h.1]
      have := ih a b h1 h2 h.2
      omega
theorem take_of_lcp {a b : List UInt8} {n : Nat} (h : n ≤ lcp a b) : a.take n = b.take n := by
  have e := congrArg (List.take n) (lcp_take a b)
  rwa [List.take_take, List.take_take, Nat.min_eq_left h] at e
theorem mem_plc {base text : List UInt8} {j : Nat} (h : 6 ≤ lcp (base.drop j) text) : j ∈ plc base (base.length - 5) (text.take 6) := by
  have h1 := lcp_le_left (base.drop j) text
  rw [List.length_drop] at h1
  unfold plc
  rw [List.mem_filter]
  exact ⟨List.mem_range.2 (by omega), by simpa using take_of_lcp h⟩
theorem lcp_of_mem {base text : List UInt8} {j : Nat} (h6 : 6 ≤ text.length) (h : j ∈ plc base (base.length - 5) (text.take 6)) : 6 ≤ lcp (base.drop j) text ∧ j + 6 ≤ base.length := by
  unfold plc at h
  rw [List.mem_filter] at h
  have h1 := List.mem_range.1 h.1
  have h2 : (base.drop j).take 6 = text.take 6 := by simpa using h.2
  exact ⟨lcp_ge _ _ 6 (by rw [List.length_drop]; omega) h6 h2, by omega⟩
theorem plc_sorted (base : List UInt8) (n : Nat) (k : List UInt8) : (plc base n k).Pairwise (· < ·) := by
  unfold plc
  exact List.Pairwise.filter _ List.pairwise_lt_range
theorem bestK_lt6 (base text : List UInt8) (lo hi : Nat) (hl : lo ≤ hi) (h0 : (bestK base text lo).2 < 6) (h : ∀ j, lo ≤ j → j < hi → lcp (base.drop j) text < 6) : (bestK base text hi).2 < 6 := by
  induction hi with
  | zero => have : lo = 0 := by omega
            subst this; exact h0
  | succ hi ih =>
    rcases (by omega : lo ≤ hi ∨ lo = hi + 1) with h1 | rfl
    · rw [bestK_succ]
      split
      · exact h hi h1 (by omega)
      · exact ih h1 (fun j a b => h j a (by omega))
    · exact h0
theorem bestK_gap (base text : List UInt8) (lo hi : Nat) (hl : lo ≤ hi) (h : ∀ j, lo ≤ j → j < hi → lcp (base.drop j) text < 6) : gd (bestK base text hi) = gd (bestK base text lo) := by
  by_cases h6 : 6 ≤ (bestK base text lo).2
  · rw [bestK_skip base text lo hi hl (fun j a b => by have := h j a b; omega)]
  · have := bestK_lt6 base text lo hi hl (by omega) h
    unfold gd
    rw [if_neg (by omega), if_neg h6]
/-- The k-th place, or the base's end. -/
def bnd (pl : List Nat) (X k : Nat) : Nat := pl.getD k X
section
variable {base text : List UInt8} {pl : List Nat} (hpl : plc base (base.length - 5) (text.take 6) = pl) (h6 : 6 ≤ text.length)
include hpl h6
omit h6 in
theorem bnd_start : gd (bestK base text (bnd pl base.length 0)) = (0, 0) := by
  have := bestK_gap base text 0 (bnd pl base.length 0) (Nat.zero_le _) (fun j _ hj => by
    refine Nat.lt_of_not_le (fun h => ?_)
    have hm := mem_plc h
    rw [hpl] at hm
    have hs := plc_sorted base (base.length - 5) (text.take 6)
    rw [hpl] at hs
    cases pl with
    | nil => simp at hm
    | cons p pl =>
      simp [bnd] at hj
      rcases List.mem_cons.1 hm with rfl | hm
      · omega
      · have := (List.pairwise_cons.1 hs).1 j hm
        omega)
  rw [this]
  rfl
omit h6 hpl in
theorem bnd_last (k : Nat) (h : pl.length ≤ k) : gd (bestK base text (bnd pl base.length k)) = gd (bestO base text) := by
  unfold bnd bestO
  rw [List.getD_eq_getElem?_getD, List.getElem?_eq_none h]
  rfl
theorem bnd_step {k a : Nat} (ha : pl[k]? = some a) : bnd pl base.length k = a ∧ a + 6 ≤ base.length ∧
    gd (bestK base text (bnd pl base.length (k + 1))) = if (gd (bestK base text a)).2 < lcp (base.drop a) text then (a, lcp (base.drop a) text) else gd (bestK base text a) := by
  have hk := (List.getElem?_eq_some_iff.1 ha).1
  have hm : a ∈ plc base (base.length - 5) (text.take 6) := by rw [hpl]; exact List.mem_of_getElem? ha
  obtain ⟨hl6, hal⟩ := lcp_of_mem h6 hm
  have hs := plc_sorted base (base.length - 5) (text.take 6)
  rw [hpl] at hs
  have hlt : a < bnd pl base.length (k + 1) ∧ bnd pl base.length (k + 1) ≤ base.length := by
    unfold bnd
    rw [List.getD_eq_getElem?_getD]
    cases he : pl[k + 1]? with
    | none => simp; omega
    | some b =>
      obtain ⟨hkb, hb⟩ := List.getElem?_eq_some_iff.1 he
      obtain ⟨_, ha'⟩ := List.getElem?_eq_some_iff.1 ha
      have := (List.pairwise_iff_getElem.1 hs) k (k + 1) hk hkb (by omega)
      have hmb : b ∈ plc base (base.length - 5) (text.take 6) := by rw [hpl]; exact List.mem_of_getElem? he
      have := (lcp_of_mem h6 hmb).2
      simp
      omega
  refine ⟨by unfold bnd; rw [List.getD_eq_getElem?_getD, ha]; rfl, hal, ?_⟩
  have hgap := bestK_gap base text (a + 1) (bnd pl base.length (k + 1)) hlt.1 (fun j h1 h2 => by
    refine Nat.lt_of_not_le (fun h => ?_)
    have hmj := mem_plc h
    rw [hpl] at hmj
    obtain ⟨i, hi⟩ := List.mem_iff_getElem?.1 hmj
    obtain ⟨hil, hie⟩ := List.getElem?_eq_some_iff.1 hi
    obtain ⟨_, ha'⟩ := List.getElem?_eq_some_iff.1 ha
    have hpw := List.pairwise_iff_getElem.1 hs
    rcases (by omega : i ≤ k ∨ k < i) with h3 | h3
    · rcases (by omega : i = k ∨ i < k) with rfl | h4
      · omega
      · have := hpw i k hil hk h4; omega
    · unfold bnd at h2
      rw [List.getD_eq_getElem?_getD] at h2
      rcases (by omega : i = k + 1 ∨ k + 1 < i) with rfl | h4
      · rw [hi] at h2; simp at h2
      · have hk1 : k + 1 < pl.length := by omega
        rw [List.getElem?_eq_getElem hk1] at h2
        simp at h2
        have := hpw (k + 1) i hk1 hil h4
        omega)
  rw [hgap, bestK_succ]
  by_cases hb : (bestK base text a).2 < lcp (base.drop a) text
  · rw [if_pos hb]
    have hg : (gd (bestK base text a)).2 < lcp (base.drop a) text := by
      unfold gd
      split
      · exact hb
      · simp; omega
    rw [if_pos hg]
    unfold gd
    rw [if_pos hl6]
  · rw [if_neg hb]
    have h7 : 6 ≤ (bestK base text a).2 := by omega
    have hgd : gd (bestK base text a) = bestK base text a := by unfold gd; rw [if_pos h7]
    rw [hgd, if_neg hb]
theorem bnd_break {k a : Nat} (ha : pl[k]? = some a) (hn : base.length - a ≤ (gd (bestK base text a)).2 ∨ text.length ≤ (gd (bestK base text a)).2) : gd (bestO base text) = gd (bestK base text a) := by
  have hm : a ∈ plc base (base.length - 5) (text.take 6) := by rw [hpl]; exact List.mem_of_getElem? ha
  obtain ⟨hl6, hal⟩ := lcp_of_mem h6 hm
  have h7 : 6 ≤ (bestK base text a).2 := by
    unfold gd at hn
    split at hn
    · assumption
    · have e : ((0, 0) : Nat × Nat).2 = 0 := rfl
      rw [e] at hn
      omega
  have hgd : gd (bestK base text a) = bestK base text a := by unfold gd; rw [if_pos h7]
  rw [hgd] at hn
  unfold bestO
  rw [bestK_skip base text a base.length (by omega) (fun j h1 h2 => by
    have e1 := lcp_le_left (base.drop j) text
    have e2 := lcp_le_right (base.drop j) text
    rw [List.length_drop] at e1
    omega)]
end
theorem gd_short {base text : List UInt8} (h : text.length < 6) : gd (bestO base text) = (0, 0) := by
  have := (bestK_le base text base.length (Nat.le_refl _)).1
  unfold gd bestO
  rw [if_neg (by omega)]

set_option maxHeartbeats 6400000 in
set_option maxRecDepth 100000 in
theorem Dlongest_any (mb base0 : Nat) (A B : Option Addr) (c d : Nat) (xs ys : List UInt8) (h1 : xs.length ≤ 4000) (h2 : ys.length ≤ 4000) (hc : xs.length ≤ c) (w : World) (ha : Lies w A (bytesV xs)) (hb : Lies w B (bytesV ys)) (hm : MapIs w base0 mb (plc xs (xs.length - 5))) :
    Calls Try.prog 46 #[.map (some mb), .slice A xs.length c, .slice B ys.length d] w fun e w' => e = .returned (.tuple #[.int .i64 (gd (bestO xs ys)).1, .int .i64 (gd (bestO xs ys)).2]) ∧ Below w.heap.size w w' := by
  obtain ⟨F, hF⟩ : ∃ F : Int, (((gd (bestO xs ys)).1 : Nat) : Int) = F := ⟨_, rfl⟩
  obtain ⟨Z, hZ⟩ : ∃ Z : Int, (((gd (bestO xs ys)).2 : Nat) : Int) = Z := ⟨_, rfl⟩
  have HFZ := Lib.hid (And.intro hF hZ)
  rw [hF, hZ]
  obtain ⟨X, hX⟩ : ∃ X, xs.length = X := ⟨_, rfl⟩
  obtain ⟨Y, hY⟩ : ∃ Y, ys.length = Y := ⟨_, rfl⟩
  have HX := Lib.hid hX
  have HY := Lib.hid hY
  by_cases h6 : (Y : Int) < 6
  · have HE : Hid (F = 0 ∧ Z = 0) := Lib.hid (by
      rw [gd_short (by omega)] at hF hZ
      exact ⟨hF.symm, hZ.symm⟩)
    rw [hX, hY]
    clear ha hb hm hF hZ hX hY
    go_enter Try.func46, Try.ntmps46
    go_wp2_with fail
    go_ret2
    exact ⟨by rw [HE.out.1, HE.out.2]; rfl, Below.refl _ _⟩
  · obtain ⟨kk, hkk⟩ : ∃ kk, ys.take 6 = kk := ⟨_, rfl⟩
    have hl6 : kk.length = 6 := by rw [← hkk, List.length_take]; omega
    obtain ⟨pl, hpl⟩ : ∃ pl, plc xs (xs.length - 5) (ys.take 6) = pl := ⟨_, rfl⟩
    have HPL := Lib.hid hpl
    obtain ⟨v, hlook, hown⟩ := map_look hm kk hl6
    rw [← hkk, hpl] at hown
    obtain ⟨Av, cv, hv, hcv, -⟩ := own_slice hown
    subst hv
    have HLv := Lib.hid (Lies.of_own hown)
    have HK := Lib.hid hkk
    have hL2 : Lies w B (bytesV kk) := by rw [← hkk]; exact hb.takeB 6
    obtain ⟨bb, bo, hT⟩ := hL2.someB (by omega)
    subst hT
    have harr : ∀ w, (Instr.arrayAt 109 (.slice (some ⟨bb, bo, none⟩) Y d)).run Try.prog w = .ok (.pointer (some ⟨bb, bo, none⟩)) w := fun w => arr6 _ _ _ (by omega) w
    have HA := Lib.hid ha
    have HB := Lib.hid hb
    have H6 := Lib.hid (show 6 ≤ ys.length by omega)
    obtain ⟨M, hM⟩ : ∃ M, pl.length = M := ⟨_, rfl⟩
    have HM := Lib.hid hM
    have hM4 : M ≤ 4000 := by
      have := plc_len xs (xs.length - 5) (ys.take 6)
      rw [hpl] at this
      omega
    rw [hX, hY]
    rw [hX] at h1 hc
    rw [hY] at h2
    rw [hM] at hown hlook
    clear ha hb hm hF hZ hX hY hown hpl hkk hM
    match kk, hl6 with
    | [b0, b1, b2, b3, b4, b5], _ =>
      have q0 : w.cell? ⟨bb, bo, none⟩ = some (.int .u8 b0.toNat) := by have := hL2.byteAt (j := 0) (c := b0) rfl; obtain ⟨_, _, e, h⟩ := this; cases e; exact h
      have q1 : w.cell? ⟨bb, bo + 1, none⟩ = some (.int .u8 b1.toNat) := by have := hL2.byteAt (j := 1) (c := b1) rfl; obtain ⟨_, _, e, h⟩ := this; cases e; exact h
      have q2 : w.cell? ⟨bb, bo + 2, none⟩ = some (.int .u8 b2.toNat) := by have := hL2.byteAt (j := 2) (c := b2) rfl; obtain ⟨_, _, e, h⟩ := this; cases e; exact h
      have q3 : w.cell? ⟨bb, bo + 3, none⟩ = some (.int .u8 b3.toNat) := by have := hL2.byteAt (j := 3) (c := b3) rfl; obtain ⟨_, _, e, h⟩ := this; cases e; exact h
      have q4 : w.cell? ⟨bb, bo + 4, none⟩ = some (.int .u8 b4.toNat) := by have := hL2.byteAt (j := 4) (c := b4) rfl; obtain ⟨_, _, e, h⟩ := this; cases e; exact h
      have q5 : w.cell? ⟨bb, bo + 5, none⟩ = some (.int .u8 b5.toNat) := by have := hL2.byteAt (j := 5) (c := b5) rfl; obtain ⟨_, _, e, h⟩ := this; cases e; exact h
      have hlk : (Instr.lookup 86 (.map (some mb)) (.agg #[.int .u8 b0.toNat, .int .u8 b1.toNat, .int .u8 b2.toNat, .int .u8 b3.toNat, .int .u8 b4.toNat, .int .u8 b5.toNat]) false).run Try.prog w = .ok (.slice Av M cv) w := hlook
      clear hlook hL2
      go_enter Try.func46, Try.ntmps46
      go_wp2_with fail
      go_loopw [6, 7, 20] (fun f n i wr => ∃ (k r1 r2 : Nat), k ≤ M ∧ i = .int .i64 k ∧ f = .int .i64 r1 ∧ n = .int .i64 r2 ∧ r1 ≤ X ∧ r2 ≤ X ∧ Hid (gd (bestK xs ys (bnd pl X k)) = (r1, r2)) ∧ Hid (Fr (fun _ => False) w wr)) (fun _ _ i _ => M - (intOf i).toNat)
      case atStart => exact ⟨0, 0, 0, by omega, rfl, rfl, rfl, by omega, by omega, Lib.hid (by rw [← HX.out]; exact bnd_start HPL.out), Lib.hid (Fr.refl _ _)⟩
      case round =>
        obtain ⟨k, r1, r2, hk, rfl, rfl, rfl, hr1, hr2, HR, HF⟩ := hrel
        have hk1 : (0 : Int) ≤ k := by omega
        by_cases hlt : k < M
        · have hk2 : (k : Int) < M := by omega
          obtain ⟨a, ha⟩ : ∃ a, pl[k]? = some a := ⟨pl[k]'(by rw [HM.out]; exact hlt), List.getElem?_eq_getElem (by rw [HM.out]; exact hlt)⟩
          obtain ⟨hb1, hb2, hb3⟩ := bnd_step HPL.out H6.out ha
          have hbr := bnd_break HPL.out H6.out ha
          rw [HX.out] at hb1 hb2 hb3 hbr
          rw [hb1] at HR
          rw [HR.out] at hb3 hbr
          rw [HY.out] at hbr
          simp only at hb3 hbr
          have HB3 := Lib.hid hb3
          have HBR := Lib.hid hbr
          have hcell : ∃ vb vo, Av = some ⟨vb, vo, none⟩ ∧ wr.cell? ⟨vb, vo + k, none⟩ = some (.int .i64 a) := by
            have hu : (natsV pl)[k]? = some (.int .i64 a) := by rw [natsV, List.getElem?_map, ha]; rfl
            rcases HLv.out.fr HF.out (fun _ _ e => e) with h | ⟨vb, vo, he, hcl⟩
            · rw [h] at hu; simp at hu
            · exact ⟨vb, vo, he, hcl k _ hu⟩
          obtain ⟨vb, vo, hAv, hac⟩ := hcell
          subst hAv
          obtain ⟨m, hm⟩ : ∃ m, lcp (xs.drop a) ys = m := ⟨_, rfl⟩
          have hmx : m ≤ X := by
            have := lcp_le_left (xs.drop a) ys
            rw [hm, List.length_drop, HX.out] at this
            omega
          rw [hm] at HB3
          have hsl : ∀ w, (Instr.slice 26 (.slice A X c) (some (.int .i64 a)) none none).run Try.prog w = .ok (.slice (tlB A c a) (X - a) (c - a)) w := fun w => slice_tlB A X c a (by omega) w
          have hSh : ∀ w', Fr (fun _ => False) w w' → Calls Try.prog 61 #[.slice (tlB A c a) (X - a) (c - a), .slice (some ⟨bb, bo, none⟩) Y d] w' (Ans w' (.int .i64 m)) := fun w' f => by
            have h := Dshared_any (tlB A c a) (some ⟨bb, bo, none⟩) (c - a) d (xs.drop a) ys (by rw [List.length_drop, HX.out]; omega) (by rw [HY.out]; omega) w' ((HA.out.tlB c a (by rw [HX.out]; exact hc)).fr f (fun _ _ e => e)) (HB.out.fr f (fun _ _ e => e))
            rw [List.length_drop, HX.out, HY.out, hm] at h
            exact h
          have HSh := Lib.hid (hSh wr HF.out)
          obtain ⟨TA, hTA⟩ : ∃ TA, tlB A c a = TA := ⟨_, rfl⟩
          obtain ⟨N2, hN2⟩ : ∃ N2, X - a = N2 := ⟨_, rfl⟩
          obtain ⟨C2, hC2⟩ : ∃ C2, c - a = C2 := ⟨_, rfl⟩
          rw [hTA, hN2, hC2] at hsl HSh
          have hwr : IntKind.i64.wrap ((X : Int) - a) = (X : Int) - a := by rw [IntKind.wrap_i64]; omega
          have haX : (a : Int) + 6 ≤ X := by omega
          clear hb1 hb2 hb3 hbr ha hm hSh hTA hN2 hC2
          rcases (by omega : (X : Int) - a < Y ∨ (X : Int) - a = Y ∨ (Y : Int) < (X : Int) - a) with hxy | hxy | hxy
          · (
            by_cases hq : (X : Int) - a ≤ r2 ∨ (Y : Int) ≤ r2
            · have HE : Hid (F = r1 ∧ Z = r2) := Lib.hid (by
                have h := HBR.out (by omega)
                have := HFZ.out
                rw [h] at this
                exact ⟨this.1.symm, this.2.symm⟩)
              go_wp2_with fail
              go_ret2
              exact ⟨by rw [HE.out.1, HE.out.2]; rfl, HF.out.below (fun _ _ e => e)⟩
            · have hq1 : ¬ ((X : Int) - a ≤ r2) := by omega
              have hq2 : ¬ ((Y : Int) ≤ r2) := by omega
              by_cases hmr : (r2 : Int) < m
              · have HB4 : Hid (gd (bestK xs ys (bnd pl X (k + 1))) = (a, m)) := Lib.hid (by rw [HB3.out, if_pos (by omega)])
                go_wp2_with (go_at_call 61; refine HSh.out.mono ?_; rintro e w5 ⟨rfl, b5⟩; have HB5 := Lib.hid b5; clear b5)
                go_roundw
                case rel => exact ⟨k + 1, a, m, by omega, by go_num, rfl, rfl, by omega, by omega, HB4, Lib.hid (HF.out.then_below HB5.out)⟩
                case measure => simp [intOf]; omega
              · have HB4 : Hid (gd (bestK xs ys (bnd pl X (k + 1))) = (r1, r2)) := Lib.hid (by rw [HB3.out, if_neg (by omega)])
                go_wp2_with (go_at_call 61; refine HSh.out.mono ?_; rintro e w5 ⟨rfl, b5⟩; have HB5 := Lib.hid b5; clear b5)
                go_roundw
                case rel => exact ⟨k + 1, r1, r2, by omega, by go_num, rfl, rfl, by omega, by omega, HB4, Lib.hid (HF.out.then_below HB5.out)⟩
                case measure => simp [intOf]; omega)
          · have hxy2 : ¬ ((X : Int) - a < Y) := by omega
            have hxy3 : ¬ ((Y : Int) < (X : Int) - a) := by omega
            (
              by_cases hq : (X : Int) - a ≤ r2 ∨ (Y : Int) ≤ r2
              · have HE : Hid (F = r1 ∧ Z = r2) := Lib.hid (by
                  have h := HBR.out (by omega)
                  have := HFZ.out
                  rw [h] at this
                  exact ⟨this.1.symm, this.2.symm⟩)
                go_wp2_with fail
                go_ret2
                exact ⟨by rw [HE.out.1, HE.out.2]; rfl, HF.out.below (fun _ _ e => e)⟩
              · have hq1 : ¬ ((X : Int) - a ≤ r2) := by omega
                have hq2 : ¬ ((Y : Int) ≤ r2) := by omega
                by_cases hmr : (r2 : Int) < m
                · have HB4 : Hid (gd (bestK xs ys (bnd pl X (k + 1))) = (a, m)) := Lib.hid (by rw [HB3.out, if_pos (by omega)])
                  go_wp2_with (go_at_call 61; refine HSh.out.mono ?_; rintro e w5 ⟨rfl, b5⟩; have HB5 := Lib.hid b5; clear b5)
                  go_roundw
                  case rel => exact ⟨k + 1, a, m, by omega, by go_num, rfl, rfl, by omega, by omega, HB4, Lib.hid (HF.out.then_below HB5.out)⟩
                  case measure => simp [intOf]; omega
                · have HB4 : Hid (gd (bestK xs ys (bnd pl X (k + 1))) = (r1, r2)) := Lib.hid (by rw [HB3.out, if_neg (by omega)])
                  go_wp2_with (go_at_call 61; refine HSh.out.mono ?_; rintro e w5 ⟨rfl, b5⟩; have HB5 := Lib.hid b5; clear b5)
                  go_roundw
                  case rel => exact ⟨k + 1, r1, r2, by omega, by go_num, rfl, rfl, by omega, by omega, HB4, Lib.hid (HF.out.then_below HB5.out)⟩
                  case measure => simp [intOf]; omega)
          · (
            by_cases hq : (X : Int) - a ≤ r2 ∨ (Y : Int) ≤ r2
            · have HE : Hid (F = r1 ∧ Z = r2) := Lib.hid (by
                have h := HBR.out (by omega)
                have := HFZ.out
                rw [h] at this
                exact ⟨this.1.symm, this.2.symm⟩)
              go_wp2_with fail
              go_ret2
              exact ⟨by rw [HE.out.1, HE.out.2]; rfl, HF.out.below (fun _ _ e => e)⟩
            · have hq1 : ¬ ((X : Int) - a ≤ r2) := by omega
              have hq2 : ¬ ((Y : Int) ≤ r2) := by omega
              by_cases hmr : (r2 : Int) < m
              · have HB4 : Hid (gd (bestK xs ys (bnd pl X (k + 1))) = (a, m)) := Lib.hid (by rw [HB3.out, if_pos (by omega)])
                go_wp2_with (go_at_call 61; refine HSh.out.mono ?_; rintro e w5 ⟨rfl, b5⟩; have HB5 := Lib.hid b5; clear b5)
                go_roundw
                case rel => exact ⟨k + 1, a, m, by omega, by go_num, rfl, rfl, by omega, by omega, HB4, Lib.hid (HF.out.then_below HB5.out)⟩
                case measure => simp [intOf]; omega
              · have HB4 : Hid (gd (bestK xs ys (bnd pl X (k + 1))) = (r1, r2)) := Lib.hid (by rw [HB3.out, if_neg (by omega)])
                go_wp2_with (go_at_call 61; refine HSh.out.mono ?_; rintro e w5 ⟨rfl, b5⟩; have HB5 := Lib.hid b5; clear b5)
                go_roundw
                case rel => exact ⟨k + 1, r1, r2, by omega, by go_num, rfl, rfl, by omega, by omega, HB4, Lib.hid (HF.out.then_below HB5.out)⟩
                case measure => simp [intOf]; omega)
        · obtain rfl : k = M := by omega
          have HE : Hid (F = r1 ∧ Z = r2) := Lib.hid (by
            have h := bnd_last (base := xs) (text := ys) (pl := pl) k (by rw [HM.out]; exact Nat.le_refl _)
            rw [HX.out, HR.out] at h
            have := HFZ.out
            rw [← h] at this
            exact ⟨this.1.symm, this.2.symm⟩)
          go_wp2_with fail
          go_ret2
          exact ⟨by rw [HE.out.1, HE.out.2]; rfl, HF.out.below (fun _ _ e => e)⟩
end Go.Proofs.Ythjfkeploofblaa

/- What is proved: what Sum and Of answer. Conditions: the table of constants holds what start-up lays; the Hash lies alone in its block; the parts' bytes lie where they are said to lie. -/
import Derived.Test.YtbbjappmaigobaaDoorShw
namespace Go.Proofs.YtbbjappmaigobaaDoor
open Go.RowKit
set_option linter.unusedVariables false

/-- The sum of bytes, as a value's cells. -/
def sumV (l : List UInt8) : Array Value := idC (stOf (l ++ padB l.length)) 32
theorem sumV_size (l : List UInt8) : (sumV l).size = 32 := idC_size _ _ (by omega)
theorem sumV_one (l : List UInt8) : (sumV l).all (·.oneCell') = true := idC_one _ _
def zero32 : Array Value := (List.replicate 32 (Value.int .u8 0)).toArray
def zero74 : Array Value := hcells 0 S8.zero (List.replicate 64 0) |>.setIfInBounds 0 (.bool false)
theorem zeroH : (Tryd.prog.info? 56).map (fun i => (i.zero, i.size)) = some (some (.agg zero74), 74) := by kernel_rfl

theorem hcells_one (n : Nat) (s : S8) (r : List UInt8) : (hcells n s r).all (·.oneCell') = true := by
  refine Array.all_eq_true_iff_forall_mem.2 (fun v hv => ?_)
  simp only [hcells, S8.vals, List.mem_toArray, List.mem_append, List.mem_cons, List.not_mem_nil, or_false] at hv
  rcases hv with ((rfl | rfl) | hv) | hv
  · rfl
  · rfl
  · rcases hv with rfl | rfl | rfl | rfl | rfl | rfl | rfl | rfl <;> rfl
  · exact bytesV_one r v hv

set_option maxHeartbeats 1600000 in
theorem HSum_any (g : Nat) (l r : List UInt8) (w : World) (h : HashAt w g l r) (ht : Tab w) (hg : g ≠ 0) (hm : l.length ≤ 70368744177664) :
    Calls Tryd.prog 19 #[.pointer (some ⟨g, 0, none⟩)] w fun e w' => e = .returned (.agg (sumV l)) ∧ Below w.heap.size w w' := by
  obtain ⟨w1, hw1⟩ : ∃ w1, w.alloc (.cells zero32 38) = w1 := ⟨_, rfl⟩
  have hF : Fr (fun _ => False) w w1 := by subst hw1; exact (Fr.refl _ w).alloc _
  have hZ : Whole w1 w.heap.size 38 zero32 := by subst hw1; exact Whole.new w 38 zero32
  have hs1 : w1.heap.size = w.heap.size + 1 := by subst hw1; simp
  have hh1 := h.fr hF (fun e => e)
  have ht1 := ht.fr hF (fun e => e)
  have hglt := h.whole.lt
  unfold zero32 at hw1
  simp [List.replicate] at hw1
  have hz := (zero_of_info zeroH).1
  have c1 := hh1.whole.cell 1
  rw [hcells_n] at c1
  have HF := Lib.hid hF
  have HZ := Lib.hid hZ
  have HH1 := Lib.hid hh1
  have HT1 := Lib.hid ht1
  have HS1 := Lib.hid hs1
  clear hF hZ hh1 ht1 hs1 h ht
  go_enter Tryd.func19, Tryd.ntmps19
  go_wp2_with (first
    | (go_at_call 25; refine (Hgood_any g l r _ HH1.out).mono ?_; rintro e w2 ⟨rfl, rfl⟩)
    | (refine wpList_load_row rfl 56 _ rfl _ rfl 56 _ _ _ HH1.out.whole Tryd.underlying56 rfl (by rw [hcells_size, HH1.out.len]; exact sizeH) ?_)
    | (refine wpList_store_at rfl 56 _ _ rfl w1.heap.size 0 56 _ _ rfl rfl (Whole.new w1 56 zero74) (by rw [hcells_size, HH1.out.len]; decide) (by rw [hcells_size, HH1.out.len]; exact sizeH) (hcells_one _ _ _) ?_
       intro w2 hw2 hf2
       rw [laidAt_all _ _ (by rw [hcells_size, HH1.out.len]; rfl)] at hw2
       have hf3 : Fr (fun _ => False) w1 w2 := ((Fr.refl (fun _ => False) w1).alloc _).trans hf2 (fun i hi e => by omega)
       have c2 := hf3.cell c1 (fun e => e)
       have hh2 : HashAt w2 w1.heap.size l r := ⟨HH1.out.len, HH1.out.rest, hw2⟩)
    | (go_at_call 12; refine (SPad_any l.length (by omega) _).mono ?_; rintro e w3 ⟨gp, rfl, hgp, hwp, b3⟩)
    | (go_at_call 18
       have hp3 : Lies w3 (some ⟨gp, 0, none⟩) (bytesV (padB l.length)) := .inr ⟨gp, 0, rfl, fun j u hu => by rw [Nat.zero_add, hwp.cell]; simpa using hu⟩
       have hlt2 := hh2.whole.lt
       refine (HWrite_any w1.heap.size l r _ _ (padB l.length) w3 (hh2.fr (Fr.of_below (S := fun _ => False) b3) (fun e => e)) ((HT1.out.fr hf3 (fun e => e)).fr (Fr.of_below (S := fun _ => False) b3) (fun e => e)) (by have := HT1.out.lt; omega) hp3 (fun _ ad had => by cases had; show gp ≠ _; omega) (Nat.le_refl _) (by rw [padB_length]; have := noughts_lt l.length; omega)).mono ?_
       rintro e w4 ⟨rfl, r4, hh4, hf4⟩
       have hld := hcells_range hh4.whole)
    | (refine wpList_load_mid rfl 23 _ rfl w1.heap.size 2 rfl _ _ hld Tryd.underlying23 rfl size8 ?_)
    | (go_at_call 26; refine (Sjoined_any (stOf (l ++ padB l.length)) (stN_ok _ _) _).mono ?_; rintro e w5 ⟨rfl, b5⟩
       have F5 : Fr (fun _ => False) w1 w5 := ((hf3.then_below b3).trans hf4 (fun i hi e => by omega)).then_below b5
       have hz5 := HZ.out.fr F5 (fun e => e))
    | (refine wpList_store_at rfl 38 _ _ rfl w.heap.size 0 38 _ (sumV l) rfl rfl hz5 (by rw [sumV_size]; decide) (by rw [sumV_size]; exact size32) (sumV_one _) ?_
       intro w6 hw6 hf6))
  have e6 := laidAt_all zero32 (sumV l) (by rw [sumV_size]; rfl)
  rw [e6] at hw6
  refine bodyPost_ret (v := .agg (sumV l)) (results_cell_row (p := 2) rfl _ _ _ _ _ _ _ rfl hw6 Tryd.underlying38 rfl (by rw [sumV_size]; exact size32)) rfl ?_
  exact ⟨rfl, ((HF.out.trans F5 (fun i hi e => e)).trans hf6 (fun i hi e => by omega)).below (fun _ _ e => e)⟩

theorem HSum_nil (w : World) : Calls Tryd.prog 19 #[.pointer none] w fun e w' => e = .returned (.agg zero32) ∧ Below w.heap.size w w' := by
  obtain ⟨w1, hw1⟩ : ∃ w1, w.alloc (.cells zero32 38) = w1 := ⟨_, rfl⟩
  have hF : Fr (fun _ => False) w w1 := by subst hw1; exact (Fr.refl _ w).alloc _
  have hZ : Whole w1 w.heap.size 38 zero32 := by subst hw1; exact Whole.new w 38 zero32
  unfold zero32 at hw1
  simp [List.replicate] at hw1
  have hone : zero32.all (·.oneCell') = true := by
    refine Array.all_eq_true_iff_forall_mem.2 (fun v hv => ?_)
    simp only [zero32, List.mem_toArray, List.mem_replicate] at hv
    rw [hv.2]
    rfl
  go_enter Tryd.func19, Tryd.ntmps19
  go_wp2_with (first
    | (go_at_call 25; refine (Hgood_nil _).mono ?_; rintro e w2 ⟨rfl, rfl⟩)
    | (refine wpList_store_at rfl 38 _ _ rfl w.heap.size 0 38 _ zero32 rfl rfl hZ (by decide) size32 hone ?_
       intro w6 hw6 hf6))
  rw [laidAt_all _ _ rfl] at hw6
  refine bodyPost_ret (v := .agg zero32) (results_cell_row (p := 2) rfl _ _ _ _ _ _ _ rfl hw6 Tryd.underlying38 rfl size32) rfl ?_
  exact ⟨rfl, (hF.trans hf6 (fun i hi e => by omega)).below (fun _ _ e => e)⟩

/-- Parts: where their bytes lie. -/
def Parts (w : World) (A : Option Addr) (ps : List (List UInt8)) : Prop :=
  ps = [] ∨ ∃ b o, A = some ⟨b, o, none⟩ ∧ ∀ i p, ps[i]? = some p → ∃ Ai ci, w.cell? ⟨b, o + i, none⟩ = some (.slice Ai p.length ci) ∧ p.length ≤ ci ∧ Lies w Ai (bytesV p)
theorem Parts.fr {w w' : World} {A : Option Addr} {ps : List (List UInt8)} (h : Parts w A ps) (f : Fr (fun _ => False) w w') : Parts w' A ps := by
  rcases h with h | ⟨b, o, rfl, hc⟩
  · exact .inl h
  · refine .inr ⟨b, o, rfl, fun i p hi => ?_⟩
    obtain ⟨Ai, ci, h1, h2, h3⟩ := hc i p hi
    exact ⟨Ai, ci, f.cell h1 (fun e => e), h2, h3.fr f (fun _ _ e => e)⟩

theorem flatten_take_succ (ps : List (List UInt8)) (k : Nat) (p : List UInt8) (h : ps[k]? = some p) : (ps.take (k + 1)).flatten = (ps.take k).flatten ++ p := by
  rw [List.take_add_one, h, Option.toList_some, List.flatten_append]
  simp
theorem flatten_take_le (ps : List (List UInt8)) (k : Nat) : (ps.take k).flatten.length ≤ ps.flatten.length := by
  conv => rhs; rw [← List.take_append_drop k ps, List.flatten_append, List.length_append]
  omega

set_option maxHeartbeats 1600000 in
theorem SOf_any (A : Option Addr) (cap : Nat) (ps : List (List UInt8)) (w : World) (hp : Parts w A ps) (hps : ps.length ≤ 9223372036854775807) (ht : Tab w) (hm : ps.flatten.length ≤ 70368744177664) :
    Calls Tryd.prog 16 #[.slice A ps.length cap] w fun e w' => e = .returned (.agg (sumV ps.flatten)) ∧ Below w.heap.size w w' := by
  obtain ⟨w1, hw1⟩ : ∃ w1, w.alloc (.cells zero32 38) = w1 := ⟨_, rfl⟩
  have hF : Fr (fun _ => False) w w1 := by subst hw1; exact (Fr.refl _ w).alloc _
  have hZ : Whole w1 w.heap.size 38 zero32 := by subst hw1; exact Whole.new w 38 zero32
  have hs1 : w1.heap.size = w.heap.size + 1 := by subst hw1; simp
  unfold zero32 at hw1
  simp [List.replicate] at hw1
  have htlt := ht.lt
  have HF := Lib.hid hF
  have HZ := Lib.hid hZ
  have HS1 := Lib.hid hs1
  have HP := Lib.hid (hp.fr hF)
  have HT := Lib.hid (ht.fr hF (fun e => e))
  have HM := Lib.hid hm
  clear hF hZ hs1 hp ht hm
  go_enter Tryd.func16, Tryd.ntmps16
  go_wp2_with (go_at_call 17; refine (SNew_any _).mono ?_; rintro e w2 ⟨g, r, rfl, hg, hh, b2⟩)
  have HH := Lib.hid hh
  have hg0 : g ≠ 0 := by have := HS1.out; omega
  clear hw1 hh
  go_loopw [9] (fun i wr => ∃ (k : Nat) (r' : List UInt8), k ≤ ps.length ∧ i = .int .i64 k ∧ HashAt wr g (ps.take k).flatten r' ∧ Fr (fun _ => False) w1 wr) (fun i _ => ps.length - (intOf i).toNat)
  case atStart => exact ⟨0, r, by omega, rfl, HH.out, Fr.of_below b2⟩
  case round =>
    obtain ⟨k, r', hk, rfl, hh, hf⟩ := hrel
    by_cases hlt : k < ps.length
    · obtain ⟨p, hpk⟩ : ∃ p, ps[k]? = some p := ⟨_, List.getElem?_eq_getElem hlt⟩
      rcases HP.out with h0 | ⟨b, o, hA, hc⟩
      · rw [h0] at hlt
        simp at hlt
      · obtain ⟨Ai, ci, c1, c2, c3⟩ := hc k p hpk
        have c1' := hf.cell c1 (fun e => e)
        subst hA
        have hft := flatten_take_succ ps k p hpk
        have hfl := flatten_take_le ps (k + 1)
        have hpl : (ps.take k).flatten.length + p.length ≤ 140737488355328 := by
          rw [hft, List.length_append] at hfl
          have := HM.out
          omega
        have HHr := Lib.hid hh
        have HC3 := Lib.hid c3
        have HFT := Lib.hid hft
        clear hh c3 c1 hft hfl
        go_wp2_with (go_at_call 18; refine (HWrite_any g _ r' Ai ci p _ HHr.out (HT.out.fr hf (fun e => e)) hg0 (HC3.out.fr hf (fun _ _ e => e)) (fun hne ad had => by have := HC3.out.lt (by intro e; exact hne (List.eq_nil_of_length_eq_zero (by rw [← bytesV_length, e]; rfl))) ad had; omega) c2 hpl).mono ?_; rintro e w3 ⟨rfl, r3, hh3, hf3⟩)
        go_roundw
        case rel => exact ⟨k + 1, r3, by omega, by go_num, by rw [HFT.out]; exact hh3, hf.trans hf3 (fun i hi e => by omega)⟩
        case measure => simp [intOf]; omega
    · obtain rfl : k = ps.length := by omega
      rw [List.take_length] at hh
      have HHr := Lib.hid hh
      clear hh
      go_wp2_with (first
        | (go_at_call 19; refine (HSum_any g _ r' _ HHr.out (HT.out.fr hf (fun e => e)) hg0 HM.out).mono ?_; rintro e w4 ⟨rfl, b4⟩; have hz4 := HZ.out.fr (hf.then_below b4) (fun e => e))
        | (refine wpList_store_at rfl 38 _ _ rfl w.heap.size 0 38 _ (sumV ps.flatten) rfl rfl hz4 (by rw [sumV_size]; decide) (by rw [sumV_size]; exact size32) (sumV_one _) ?_
           intro w6 hw6 hf6))
      have e6 := laidAt_all zero32 (sumV ps.flatten) (by rw [sumV_size]; rfl)
      rw [e6] at hw6
      refine bodyPost_ret (v := .agg (sumV ps.flatten)) (results_cell_row (p := 2) rfl _ _ _ _ _ _ _ rfl hw6 Tryd.underlying38 rfl (by rw [sumV_size]; exact size32)) rfl ?_
      exact ⟨rfl, ((HF.out.trans (hf.then_below b4) (fun i hi e => e)).trans hf6 (fun i hi e => by omega)).below (fun _ _ e => e)⟩
end Go.Proofs.YtbbjappmaigobaaDoor

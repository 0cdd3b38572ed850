/- What is proved: works, the example of the laws, is true; the document's error. Conditions: the cells are there. -/
import Derived.Test.YtpaigmmpihcdaaaJq
namespace Go.Proofs.Ytpaigmmpihcdaaa
open Go.RowKit Go.Shelf
set_option linter.unusedVariables false

theorem QoAsked_any (A : Option Addr) (c : Nat) (G : List Nd) (B : Option Addr) (cB : Nat) (l : List Int) (hn : l.length ≤ 10000) (w : World) (h : GAt w A G) (hl : Lies w B (zC l)) :
    Calls Try.prog 9 #[.slice A G.length c, .slice B l.length cB] w fun e w' => e = .returned (.int .i64 (nodE G l)) ∧ Fr (fun _ => False) w w' := by
  have HN := Lib.hid (QaNodes_any A c G w h B cB l hn hl)
  obtain ⟨r, hr⟩ : ∃ r, nodE G l = r := ⟨_, rfl⟩
  obtain ⟨N, hN⟩ : ∃ N, G.length = N := ⟨_, rfl⟩
  obtain ⟨L, hL⟩ : ∃ L, l.length = L := ⟨_, rfl⟩
  rw [hr, hN, hL] at HN
  rw [hr, hN, hL]
  clear hr hN hL h hl hn
  go_enter Try.func9, Try.ntmps9
  go_wp2_with (go_at_call 21; refine HN.out.mono ?_; rintro e w1 ⟨rfl, b1⟩; have HF1 := Lib.hid (Fr.of_below (S := fun _ => False) b1); clear b1)
  go_ret
  exact ⟨rfl, HF1.out⟩

def G15 (a b c : Nat) : List Nd := [⟨none, 0, [], 0⟩, ⟨some ⟨a, 0, none⟩, 1, [0], 5⟩, ⟨some ⟨b, 0, none⟩, 1, [0], 1⟩, ⟨some ⟨c, 0, none⟩, 2, [1, 2], 6⟩]
theorem G15_ok (a b c : Nat) : nodE (G15 a b c) [0, 1, 2, 3] = 0 := by kernel_rfl
theorem G15_topo (a b c : Nat) : topoL (prG (G15 a b c)) (fun n => (timeL (G15 a b c)).getD n 0) 4 (nz [0, 1, 2, 3]) = [3, 1, 2, 0] := by kernel_rfl
theorem G15_date (a b c : Nat) : dateL (prG (G15 a b c)) (fun n => (timeL (G15 a b c)).getD n 0) 4 (nz [0, 1, 2, 3]) = [3, 1, 2, 0] := by kernel_rfl
theorem build15_none (w : World) : (Instr.build 38 #[]).run Try.prog w = .ok (.agg #[.slice none 0 0, .int .i64 0]) w := by kernel_rfl
theorem build15_node (A : Option Addr) (n c : Nat) (t : Int) (w : World) : (Instr.build 38 #[(0, .slice A n c), (1, .int .i64 t)]).run Try.prog w = .ok (.agg #[.slice A n c, .int .i64 t]) w := by kernel_rfl
theorem build15_g (a b c : Nat) (w : World) : (Instr.buildSlice 22 4 #[(0, .agg #[.slice none 0 0, .int .i64 0]), (1, .agg #[.slice (some ⟨a, 0, none⟩) 1 1, .int .i64 5]), (2, .agg #[.slice (some ⟨b, 0, none⟩) 1 1, .int .i64 1]), (3, .agg #[.slice (some ⟨c, 0, none⟩) 2 2, .int .i64 6])]).run Try.prog w =
    .ok (.slice (some ⟨w.heap.size, 0, none⟩) 4 4) (w.alloc (.cells (flatG (G15 a b c)).toArray 38)) := by kernel_rfl

set_option maxHeartbeats 1600000 in
set_option maxRecDepth 100000 in
theorem works15_any (w : World) : Calls Try.prog 7 #[] w fun e w' => e = .returned (.bool true) ∧ Fr (fun _ => False) w w' := by
  obtain ⟨w1, hw1⟩ : ∃ w1, w.alloc (.cells #[.int .i64 0] 3) = w1 := ⟨_, rfl⟩
  obtain ⟨w2, hw2⟩ : ∃ w2, w1.alloc (.cells #[.int .i64 0] 3) = w2 := ⟨_, rfl⟩
  obtain ⟨w3, hw3⟩ : ∃ w3, w2.alloc (.cells #[.int .i64 1, .int .i64 2] 3) = w3 := ⟨_, rfl⟩
  have f1 : Fr (fun _ => False) w w1 := by subst hw1; exact (Fr.refl _ w).alloc _
  have f2 : Fr (fun _ => False) w1 w2 := by subst hw2; exact (Fr.refl _ w1).alloc _
  have f3 : Fr (fun _ => False) w2 w3 := by subst hw3; exact (Fr.refl _ w2).alloc _
  have l1 : Lies w1 (some ⟨w.heap.size, 0, none⟩) (zC [0]) := by subst hw1; exact Lies.of_whole (Whole.new w 3 _)
  have l2 : Lies w2 (some ⟨w1.heap.size, 0, none⟩) (zC [0]) := by subst hw2; exact Lies.of_whole (Whole.new w1 3 _)
  have l3 : Lies w3 (some ⟨w2.heap.size, 0, none⟩) (zC [1, 2]) := by subst hw3; exact Lies.of_whole (Whole.new w2 3 _)
  obtain ⟨a, ha⟩ : ∃ a, w.heap.size = a := ⟨_, rfl⟩
  obtain ⟨b, hb⟩ : ∃ a, w1.heap.size = a := ⟨_, rfl⟩
  obtain ⟨c, hc⟩ : ∃ a, w2.heap.size = a := ⟨_, rfl⟩
  obtain ⟨w4, hw4⟩ : ∃ w4, w3.alloc (.cells (flatG (G15 a b c)).toArray 38) = w4 := ⟨_, rfl⟩
  have f4 : Fr (fun _ => False) w3 w4 := by subst hw4; exact (Fr.refl _ w3).alloc _
  have HF4 := Lib.hid (((f1.trans f2 (fun _ _ e => e)).trans f3 (fun _ _ e => e)).trans f4 (fun _ _ e => e))
  have HG4 := Lib.hid (show GAt w4 (some ⟨w3.heap.size, 0, none⟩) (G15 a b c) from by
    refine ⟨by subst hw4; exact Lies.of_whole (Whole.new w3 38 _), fun d hd => ?_⟩
    simp only [G15, List.mem_cons, List.not_mem_nil, or_false] at hd
    rcases hd with rfl | rfl | rfl | rfl
    · exact ⟨Nat.le_refl _, .inl rfl⟩
    · exact ⟨Nat.le_refl _, by rw [← ha]; exact l1.fr (((f2.trans f3 (fun _ _ e => e)).trans f4 (fun _ _ e => e))) (fun _ _ e => e)⟩
    · exact ⟨Nat.le_refl _, by rw [← hb]; exact l2.fr (f3.trans f4 (fun _ _ e => e)) (fun _ _ e => e)⟩
    · exact ⟨Nat.le_refl _, by rw [← hc]; exact l3.fr f4 (fun _ _ e => e)⟩)
  have bg := build15_g a b c w3
  rw [hw4] at bg
  have bn := build15_none
  have b1 := fun A t w => build15_node A 1 1 t w
  have b2 := fun A t w => build15_node A 2 2 t w
  have HZ := Lib.hid (fun (w5 : World) => show Lies (w5.alloc (.cells #[.int .i64 0, .int .i64 1, .int .i64 2, .int .i64 3] 3)) (some ⟨w5.heap.size, 0, none⟩) (zC [0, 1, 2, 3]) from Lies.of_whole (Whole.new w5 3 _))
  have HB1 := Lib.hid (fun w5 (f : Fr (fun _ => False) w4 w5) => OrTopo_ok (some ⟨w3.heap.size, 0, none⟩) 4 (G15 a b c) (some ⟨w5.heap.size, 0, none⟩) 4 [0, 1, 2, 3] (by simp) (w5.alloc (.cells #[.int .i64 0, .int .i64 1, .int .i64 2, .int .i64 3] 3)) (HG4.out.fr (f.trans ((Fr.refl (fun _ => False) w5).alloc _) (fun _ _ e => e))) (HZ.out w5) (G15_ok a b c))
  have HB2 := Lib.hid (fun w5 (f : Fr (fun _ => False) w4 w5) => OrDate_ok (some ⟨w3.heap.size, 0, none⟩) 4 (G15 a b c) (some ⟨w5.heap.size, 0, none⟩) 4 [0, 1, 2, 3] (by simp) (w5.alloc (.cells #[.int .i64 0, .int .i64 1, .int .i64 2, .int .i64 3] 3)) (HG4.out.fr (f.trans ((Fr.refl (fun _ => False) w5).alloc _) (fun _ _ e => e))) (HZ.out w5) (G15_ok a b c))
  rw [show (G15 a b c).length = 4 from rfl, G15_topo, show ([0, 1, 2, 3] : List Int).length = 4 from rfl] at HB1
  rw [show (G15 a b c).length = 4 from rfl, G15_date, show ([0, 1, 2, 3] : List Int).length = 4 from rfl] at HB2
  have hw5 : w3.alloc (.cells #[.slice none 0 0, .int .i64 0, .slice (some ⟨a, 0, none⟩) 1 1, .int .i64 5, .slice (some ⟨b, 0, none⟩) 1 1, .int .i64 1, .slice (some ⟨c, 0, none⟩) 2 2, .int .i64 6] 38) = w4 := hw4
  have HW5 := Lib.hid hw5
  have HSm := Lib.hid (fun A ca (w5 : World) (h : Lies w5 A (nC [3, 1, 2, 0])) => show Calls Try.prog 10 #[.slice A 4 ca, .slice (some ⟨w5.heap.size, 0, none⟩) 4 4] (w5.alloc (.cells #[.int .i64 3, .int .i64 1, .int .i64 2, .int .i64 0] 3)) fun e w' => e = .returned (.bool true) ∧ Fr (fun _ => False) w5 w' from by
    have := same_ok A ca [3, 1, 2, 0] (some ⟨w5.heap.size, 0, none⟩) 4 4 rfl (by omega) (w5.alloc (.cells #[.int .i64 3, .int .i64 1, .int .i64 2, .int .i64 0] 3)) (h.fr ((Fr.refl (fun _ => False) w5).alloc _) (fun _ _ e => e)) (Lies.of_whole (Whole.new w5 3 _))
    exact this.mono fun e w' ⟨h1, h2⟩ => ⟨h1, ((Fr.refl (fun _ => False) w5).alloc _).trans h2 (fun _ _ e => e)⟩)
  clear f1 f2 f3 f4 l1 l2 l3 hw4 hw5 HG4 HZ
  go_enter Try.func7, Try.ntmps7
  go_upto_region 2 with fail
  rw [HW5.out]
  clear bg bn b1 b2 hw1 hw2 hw3 ha hb hc HW5
  go_upto_region 4 with (first
    | (go_at_call 12; refine (HB2.out _ HF5.out).mono ?_; rintro e w6 ⟨v2, rfl, ho⟩; obtain ⟨A2, c2, hv2, _, _, _, hl2⟩ := ho.shape; subst hv2; have HL2 := Lib.hid hl2; have HFd := Lib.hid (((Fr.refl (fun _ => False) _).alloc _).trans ho.2 (fun _ _ e => e)); have HF6 := Lib.hid (HF5.out.trans HFd.out (fun _ _ e => e)); have HL1' := Lib.hid (HL1.out.fr HFd.out (fun _ _ e => e)); clear ho hl2)
    | (go_at_call 15; refine (HB1.out _ (Fr.refl _ _)).mono ?_; rintro e w5 ⟨v1, rfl, ho⟩; obtain ⟨A1, c1, hv1, _, _, _, hl1⟩ := ho.shape; subst hv1; have HL1 := Lib.hid hl1; have HF5 := Lib.hid (((Fr.refl (fun _ => False) _).alloc _).trans ho.2 (fun _ _ e => e)); clear ho hl1))
  go_wp2_with (first
    | (go_at_call 10; have _ := M2; refine (HSm.out A2 c2 _ (HL2.out.fr HF7.out (fun _ _ e => e))).mono ?_; rintro e w8 ⟨rfl, f8⟩; have HF8 := Lib.hid (HF7.out.trans f8 (fun _ _ e => e)); clear f8)
    | (go_at_call 10; refine (HSm.out A1 c1 _ HL1'.out).mono ?_; rintro e w7 ⟨rfl, f7⟩; have HF7 := Lib.hid f7; have M2 := True.intro; clear f7))
  go_ret
  exact ⟨rfl, (HF4.out.trans HF6.out (fun _ _ e => e)).trans HF8.out (fun _ _ e => e)⟩
end Go.Proofs.Ytpaigmmpihcdaaa

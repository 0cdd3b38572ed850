/- What is proved: works, the example of the laws, is true; big is false of lists of at most a hundred numbers and true of longer ones. Conditions: the cells are there. -/
import Derived.Test.YtfpolfcmfdmifaaKo
import Derived.Test.YtfpolfcmfdmifaaKp
namespace Go.Proofs.Ytfpolfcmfdmifaa
open Go.RowKit Go.Shelf
set_option linter.unusedVariables false

def G4 (a b c : Nat) : List Nd := [⟨none, 0, [], 0⟩, ⟨some ⟨a, 0, none⟩, 1, [0], 0⟩, ⟨some ⟨b, 0, none⟩, 1, [0], 0⟩, ⟨some ⟨c, 0, none⟩, 2, [1, 2], 0⟩]
theorem G4_ok12 (a b c : Nat) : nodE (G4 a b c) [1, 2] = 0 := by kernel_rfl
theorem G4_ok32 (a b c : Nat) : nodE (G4 a b c) [3, 2] = 0 := by kernel_rfl
theorem G4_bas12 (a b c : Nat) : basL (G4 a b c) 1 2 = [0] := by kernel_rfl
theorem G4_bas32 (a b c : Nat) : basL (G4 a b c) 3 2 = [2] := by kernel_rfl
theorem build_none (w : World) : (Instr.build 55 #[]).run Try.prog w = .ok (.agg #[.slice none 0 0, .int .i64 0]) w := by kernel_rfl
theorem build_node (A : Option Addr) (n c : Nat) (w : World) : (Instr.build 55 #[(0, .slice A n c)]).run Try.prog w = .ok (.agg #[.slice A n c, .int .i64 0]) w := by kernel_rfl
theorem build_g4 (a b c : Nat) (w : World) : (Instr.buildSlice 22 4 #[(0, .agg #[.slice none 0 0, .int .i64 0]), (1, .agg #[.slice (some ⟨a, 0, none⟩) 1 1, .int .i64 0]), (2, .agg #[.slice (some ⟨b, 0, none⟩) 1 1, .int .i64 0]), (3, .agg #[.slice (some ⟨c, 0, none⟩) 2 2, .int .i64 0])]).run Try.prog w =
    .ok (.slice (some ⟨w.heap.size, 0, none⟩) 4 4) (w.alloc (.cells (flatG (G4 a b c)).toArray 55)) := by kernel_rfl

set_option maxHeartbeats 1600000 in
set_option maxRecDepth 100000 in
theorem works14_any (w : World) : Calls Try.prog 12 #[] w fun e w' => e = .returned (.bool true) ∧ Below w.heap.size w w' := by
  obtain ⟨w1, hw1⟩ : ∃ w1, w.alloc (.cells #[.int .i64 0] 3) = w1 := ⟨_, rfl⟩
  obtain ⟨w2, hw2⟩ : ∃ w2, w1.alloc (.cells #[.int .i64 0] 3) = w2 := ⟨_, rfl⟩
  obtain ⟨w3, hw3⟩ : ∃ w3, w2.alloc (.cells #[.int .i64 1, .int .i64 2] 3) = w3 := ⟨_, rfl⟩
  have f1 : Fr (fun _ => False) w w1 := by subst hw1; exact (Fr.refl _ w).alloc _
  have f2 : Fr (fun _ => False) w1 w2 := by subst hw2; exact (Fr.refl _ w1).alloc _
  have f3 : Fr (fun _ => False) w2 w3 := by subst hw3; exact (Fr.refl _ w2).alloc _
  have l1 : Lies w1 (some ⟨w.heap.size, 0, none⟩) (zC [0]) := by subst hw1; exact Lies.of_whole (Whole.new w 3 _)
  have l2 : Lies w2 (some ⟨w1.heap.size, 0, none⟩) (zC [0]) := by subst hw2; exact Lies.of_whole (Whole.new w1 3 _)
  have l3 : Lies w3 (some ⟨w2.heap.size, 0, none⟩) (zC [1, 2]) := by subst hw3; exact Lies.of_whole (Whole.new w2 3 _)
  obtain ⟨a, ha⟩ : ∃ a, w.heap.size = a := ⟨_, rfl⟩
  obtain ⟨b, hb⟩ : ∃ a, w1.heap.size = a := ⟨_, rfl⟩
  obtain ⟨c, hc⟩ : ∃ a, w2.heap.size = a := ⟨_, rfl⟩
  obtain ⟨w4, hw4⟩ : ∃ w4, w3.alloc (.cells (flatG (G4 a b c)).toArray 55) = w4 := ⟨_, rfl⟩
  have f4 : Fr (fun _ => False) w3 w4 := by subst hw4; exact (Fr.refl _ w3).alloc _
  have HF4 := Lib.hid (((f1.trans f2 (fun _ _ e => e)).trans f3 (fun _ _ e => e)).trans f4 (fun _ _ e => e))
  have HG4 := Lib.hid (show GAt w4 (some ⟨w3.heap.size, 0, none⟩) (G4 a b c) from by
    refine ⟨by subst hw4; exact Lies.of_whole (Whole.new w3 55 _), fun d hd => ?_⟩
    simp only [G4, List.mem_cons, List.not_mem_nil, or_false] at hd
    rcases hd with rfl | rfl | rfl | rfl
    · exact ⟨Nat.le_refl _, .inl rfl⟩
    · exact ⟨Nat.le_refl _, by rw [← ha]; exact l1.fr (((f2.trans f3 (fun _ _ e => e)).trans f4 (fun _ _ e => e))) (fun _ _ e => e)⟩
    · exact ⟨Nat.le_refl _, by rw [← hb]; exact l2.fr (f3.trans f4 (fun _ _ e => e)) (fun _ _ e => e)⟩
    · exact ⟨Nat.le_refl _, by rw [← hc]; exact l3.fr f4 (fun _ _ e => e)⟩)
  have bg := build_g4 a b c w3
  rw [hw4] at bg
  have bn := build_none
  have b1 := fun A w => build_node A 1 1 w
  have b2 := fun A w => build_node A 2 2 w
  have HB1 := Lib.hid (fun w5 (f : Fr (fun _ => False) w4 w5) => DaBases_any (some ⟨w3.heap.size, 0, none⟩) 4 (G4 a b c) 1 2 w5 (HG4.out.fr f))
  have HB2 := Lib.hid (fun w5 (f : Fr (fun _ => False) w4 w5) => DaBases_any (some ⟨w3.heap.size, 0, none⟩) 4 (G4 a b c) 3 2 w5 (HG4.out.fr f))
  rw [G4_ok12, show Int.toNat 1 = 1 from rfl, show Int.toNat 2 = 2 from rfl, G4_bas12, show (G4 a b c).length = 4 from rfl] at HB1
  rw [G4_ok32, show Int.toNat 3 = 3 from rfl, show Int.toNat 2 = 2 from rfl, G4_bas32, show (G4 a b c).length = 4 from rfl] at HB2
  have hw5 : w3.alloc (.cells #[.slice none 0 0, .int .i64 0, .slice (some ⟨a, 0, none⟩) 1 1, .int .i64 0, .slice (some ⟨b, 0, none⟩) 1 1, .int .i64 0, .slice (some ⟨c, 0, none⟩) 2 2, .int .i64 0] 55) = w4 := hw4
  have HW5 := Lib.hid hw5
  have HS0 := Lib.hid (fun (x : Nat) (w5 : World) => show Lies (w5.alloc (.cells #[.int .i64 (x : Nat)] 3)) (some ⟨w5.heap.size, 0, none⟩) (nC [x]) from Lies.of_whole (Whole.new w5 3 _))
  have HSm := Lib.hid (fun (x : Nat) A ca (w5 : World) (h : Lies w5 A (nC [x])) => show Calls Try.prog 13 #[.slice A 1 ca, .slice (some ⟨w5.heap.size, 0, none⟩) 1 1] (w5.alloc (.cells #[.int .i64 (x : Nat)] 3)) fun e w' => e = .returned (.bool true) ∧ Fr (fun _ => False) w5 w' from by
    have := QaSame_any A ca [x] (some ⟨w5.heap.size, 0, none⟩) 1 [x] (by simp) (w5.alloc (.cells #[.int .i64 (x : Nat)] 3)) (h.fr ((Fr.refl (fun _ => False) w5).alloc _) (fun _ _ e => e)) (HS0.out x w5)
    exact this.mono fun e w' ⟨h1, h2⟩ => ⟨by rw [h1]; simp, ((Fr.refl (fun _ => False) w5).alloc _).then_below h2⟩)
  clear f1 f2 f3 f4 l1 l2 l3 hw4 hw5 HG4 HS0
  go_enter Try.func12, Try.ntmps12
  go_upto_region 2 with fail
  rw [HW5.out]
  clear bg bn b1 b2 hw1 hw2 hw3 ha hb hc HW5
  go_upto_region 4 with (first
    | (go_at_call 22; have _ := M1; refine (HB2.out _ HF5.out).mono ?_; rintro e w6 ⟨v2, rfl, ho⟩; obtain ⟨A2, c2, hv2, _, _, _, hl2⟩ := ho.shape; subst hv2; have HL2 := Lib.hid hl2; have HF6 := Lib.hid (HF5.out.trans ho.2 (fun _ _ e => e)); have HL1' := Lib.hid (HL1.out.fr ho.2 (fun _ _ e => e)); clear ho hl2)
    | (go_at_call 22; refine (HB1.out _ (Fr.refl _ _)).mono ?_; rintro e w5 ⟨v1, rfl, ho⟩; obtain ⟨A1, c1, hv1, _, _, _, hl1⟩ := ho.shape; subst hv1; have HL1 := Lib.hid hl1; have HF5 := Lib.hid ho.2; have M1 := True.intro; clear ho hl1))
  go_wp2_with (first
    | (go_at_call 13; have _ := M2; refine (HSm.out 2 A2 c2 _ (HL2.out.fr HF7.out (fun _ _ e => e))).mono ?_; rintro e w8 ⟨rfl, f8⟩; have HF8 := Lib.hid (HF7.out.trans f8 (fun _ _ e => e)); clear f8)
    | (go_at_call 13; refine (HSm.out 0 A1 c1 _ HL1'.out).mono ?_; rintro e w7 ⟨rfl, f7⟩; have HF7 := Lib.hid f7; have M2 := True.intro; clear f7))
  go_ret
  exact ⟨rfl, ((HF4.out.trans HF6.out (fun _ _ e => e)).trans HF8.out (fun _ _ e => e)).below (fun _ _ e => e)⟩

/-- Lists of numbers that are not too long. -/
theorem big14_one (w : World) (A : Option Addr) (n c : Nat) :
    Calls Try.prog 16 #[.slice (some ⟨w.heap.size, 0, none⟩) 1 1] (w.alloc (.cells #[.slice A n c] 24)) fun e w' => e = .returned (.bool (decide (100 < n))) ∧ w.alloc (.cells #[.slice A n c] 24) = w' := by
  obtain ⟨w1, hw1⟩ : ∃ w1, w.alloc (.cells #[.slice A n c] 24) = w1 := ⟨_, rfl⟩
  have c0 : w1.cell? ⟨w.heap.size, 0, none⟩ = some (.slice A n c) := by subst hw1; rw [(Whole.new w 24 _).cell]; rfl
  rw [hw1]
  obtain ⟨g, hg⟩ : ∃ g, w.heap.size = g := ⟨_, rfl⟩
  rw [hg] at c0 ⊢
  clear hw1 hg
  by_cases h : 100 < n
  · have hz : (100 : Int) < (n : Int) := by omega
    rw [decide_eq_true h]
    clear h
    go_enter Try.func16, Try.ntmps16
    go_wp2
    go_loopg [3] 1 (fun kx s3 wr => s3 = .int .i64 0 ∧ w1 = wr)
    case atStart => exact ⟨rfl, rfl⟩
    case round =>
      obtain ⟨rfl, rfl⟩ := hrel
      go_wp2
      go_ret
      exact ⟨rfl, rfl⟩
  · have hz : ¬ (100 : Int) < (n : Int) := by omega
    rw [decide_eq_false h]
    clear h
    go_enter Try.func16, Try.ntmps16
    go_wp2
    go_loopg [3] 1 (fun kx s3 wr => ∃ k : Nat, s3 = .int .i64 k ∧ k ≤ 1 ∧ 1 - k ≤ kx ∧ w1 = wr)
    case atStart => exact ⟨0, rfl, by omega, by omega, rfl⟩
    case round =>
      obtain ⟨k, rfl, hk, hkx, rfl⟩ := hrel
      rcases (by omega : k = 0 ∨ k = 1) with rfl | rfl
      · go_wp2
        go_roundg 0
        case measure => omega
        case rel => exact ⟨1, by go_num, by omega, by omega, rfl⟩
      · go_wp2
        go_ret
        exact ⟨rfl, rfl⟩
theorem big14_two (w : World) (A B : Option Addr) (n m c d : Nat) :
    Calls Try.prog 16 #[.slice (some ⟨w.heap.size, 0, none⟩) 2 2] (w.alloc (.cells #[.slice A n c, .slice B m d] 24)) fun e w' => e = .returned (.bool (decide (100 < n) || decide (100 < m))) ∧ w.alloc (.cells #[.slice A n c, .slice B m d] 24) = w' := by
  obtain ⟨w1, hw1⟩ : ∃ w1, w.alloc (.cells #[.slice A n c, .slice B m d] 24) = w1 := ⟨_, rfl⟩
  have hW : Whole w1 w.heap.size 24 #[.slice A n c, .slice B m d] := by subst hw1; exact Whole.new w 24 _
  have c0 : w1.cell? ⟨w.heap.size, 0, none⟩ = some (.slice A n c) := by rw [hW.cell]; rfl
  have c1 : w1.cell? ⟨w.heap.size, 1, none⟩ = some (.slice B m d) := by rw [hW.cell]; rfl
  rw [hw1]
  obtain ⟨g, hg⟩ : ∃ g, w.heap.size = g := ⟨_, rfl⟩
  rw [hg] at c0 c1 ⊢
  clear hw1 hg hW
  by_cases h : 100 < n
  · have hz : (100 : Int) < (n : Int) := by omega
    rw [decide_eq_true h, Bool.true_or]
    clear h
    go_enter Try.func16, Try.ntmps16
    go_wp2
    go_loopg [3] 1 (fun kx s3 wr => s3 = .int .i64 0 ∧ w1 = wr)
    case atStart => exact ⟨rfl, rfl⟩
    case round =>
      obtain ⟨rfl, rfl⟩ := hrel
      go_wp2
      go_ret
      exact ⟨rfl, rfl⟩
  · have hz : ¬ (100 : Int) < (n : Int) := by omega
    rw [decide_eq_false h, Bool.false_or]
    clear h
    by_cases h2 : 100 < m
    · have hz2 : (100 : Int) < (m : Int) := by omega
      rw [decide_eq_true h2]
      clear h2
      go_enter Try.func16, Try.ntmps16
      go_wp2
      go_loopg [3] 2 (fun kx s3 wr => ∃ k : Nat, s3 = .int .i64 k ∧ k ≤ 1 ∧ 1 - k ≤ kx ∧ w1 = wr)
      case atStart => exact ⟨0, rfl, by omega, by omega, rfl⟩
      case round =>
        obtain ⟨k, rfl, hk, hkx, rfl⟩ := hrel
        rcases (by omega : k = 0 ∨ k = 1) with rfl | rfl
        · go_wp2
          go_roundg 0
          case measure => omega
          case rel => exact ⟨1, by go_num, by omega, by omega, rfl⟩
        · go_wp2
          go_ret
          exact ⟨rfl, rfl⟩
    · have hz2 : ¬ (100 : Int) < (m : Int) := by omega
      rw [decide_eq_false h2]
      clear h2
      go_enter Try.func16, Try.ntmps16
      go_wp2
      go_loopg [3] 2 (fun kx s3 wr => ∃ k : Nat, s3 = .int .i64 k ∧ k ≤ 2 ∧ 2 - k ≤ kx ∧ w1 = wr)
      case atStart => exact ⟨0, rfl, by omega, by omega, rfl⟩
      case round =>
        obtain ⟨k, rfl, hk, hkx, rfl⟩ := hrel
        rcases (by omega : k = 0 ∨ k = 1 ∨ k = 2) with rfl | rfl | rfl
        · go_wp2
          go_roundg 1
          case measure => omega
          case rel => exact ⟨1, by go_num, by omega, by omega, rfl⟩
        · go_wp2
          go_roundg 0
          case measure => omega
          case rel => exact ⟨2, by go_num, by omega, by omega, rfl⟩
        · go_wp2
          go_ret
          exact ⟨rfl, rfl⟩
end Go.Proofs.Ytfpolfcmfdmifaa

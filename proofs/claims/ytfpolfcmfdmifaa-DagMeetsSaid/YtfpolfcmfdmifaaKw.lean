/- What is proved: what calls leave, in the words of a law's walk; the law DagBases is true. Conditions: the graph's cells are there. -/
import Derived.Test.YtfpolfcmfdmifaaKv
import Derived.Test.YtfpolfcmfdmifaaKr
namespace Go.Proofs.Ytfpolfcmfdmifaa
open Go.RowKit Go.Shelf
set_option linter.unusedVariables false

theorem NumE.ok {w w' : World} {e : Ending} {l : List Nat} (h : NumE w w' e 0 l) : ∃ A c, e = .returned (.tuple #[.slice A l.length c, .int .i64 0]) ∧ Lies w' A (nC l) ∧ Fr (fun _ => False) w w' := by
  obtain ⟨v, he, ho⟩ := h
  rw [if_pos rfl] at ho
  obtain ⟨A, c, rfl, _, _, _, hl⟩ := ho.shape
  exact ⟨A, c, he, hl, ho.2⟩
theorem NumE.bad {w w' : World} {e : Ending} {E : Int} {l : List Nat} (h : NumE w w' e E l) (hE : ¬ E = 0) : ∃ A c, e = .returned (.tuple #[.slice A 0 c, .int .i64 E]) ∧ Lies w' A (nC []) ∧ Fr (fun _ => False) w w' := by
  obtain ⟨v, he, ho⟩ := h
  rw [if_neg hE] at ho
  obtain ⟨A, c, rfl, _, _, _, hl⟩ := ho.shape
  exact ⟨A, c, he, hl, ho.2⟩
theorem same_ok (A : Option Addr) (ca : Nat) (l : List Nat) (B : Option Addr) (cb : Nat) (n : Nat) (hn : l.length = n) (hl : n ≤ 100000) (w : World) (h1 : Lies w A (nC l)) (h2 : Lies w B (nC l)) :
    Calls Try.prog 13 #[.slice A n ca, .slice B n cb] w fun e w' => e = .returned (.bool true) ∧ Fr (fun _ => False) w w' := by
  subst hn
  exact (QaSame_any A ca l B cb l hl w h1 h2).mono fun e w' ⟨h1, h2⟩ => ⟨by rw [h1]; simp, Fr.of_below h2⟩
theorem works_fr (w : World) : Calls Try.prog 12 #[] w fun e w' => e = .returned (.bool true) ∧ Fr (fun _ => False) w w' := (works14_any w).mono fun e w' ⟨h1, h2⟩ => ⟨h1, Fr.of_below h2⟩
theorem nodes_two (A : Option Addr) (c : Nat) (G : List Nd) (a b : Int) (w : World) (hG : GAt w A G) :
    Calls Try.prog 18 #[.slice A G.length c, .slice (some ⟨w.heap.size, 0, none⟩) 2 2] (w.alloc (.cells #[.int .i64 a, .int .i64 b] 3)) fun e w' => e = .returned (.int .i64 (nodE G [a, b])) ∧ Fr (fun _ => False) w w' := by
  have f : Fr (fun _ => False) w (w.alloc (.cells #[.int .i64 a, .int .i64 b] 3)) := (Fr.refl _ w).alloc _
  have hl : Lies (w.alloc (.cells #[.int .i64 a, .int .i64 b] 3)) (some ⟨w.heap.size, 0, none⟩) (zC [a, b]) := Lies.of_whole (Whole.new w 3 _)
  exact (QaNodes_any A c G _ (hG.fr f) (some ⟨w.heap.size, 0, none⟩) 2 [a, b] (by simp) hl).mono fun e w' ⟨h1, h2⟩ => ⟨h1, f.then_below h2⟩
theorem nodE_swap (G : List Nd) (a b : Int) : nodE G [b, a] = nodE G [a, b] := by
  have h : [b, a].any (badZ G.length) = [a, b].any (badZ G.length) := by
    rw [List.any_cons, List.any_cons, List.any_nil, List.any_cons, List.any_cons, List.any_nil, Bool.or_false, Bool.or_false, Bool.or_comm]
  unfold nodE
  rw [h]
theorem bas_swap (G : List Nd) (a b : Nat) : basL G b a = basL G a b := by
  unfold basL
  have : bothB (prG G) G.length [b] [a] = bothB (prG G) G.length [a] [b] := by
    funext k
    exact Bool.and_comm _ _
  rw [this]
theorem nodE_len {G : List Nd} {l : List Int} (h : nodE G l = 0) : G.length ≤ 128 := (right_of (nodE_zero h).1).len

set_option maxHeartbeats 1600000 in
set_option maxRecDepth 100000 in
theorem dagBases_walk (A : Option Addr) (c : Nat) (G : List Nd) (a b : Int) (W : World) (hG : GAt W A G) :
    Calls Try.prog 5 #[.slice A G.length c, .int .i64 a, .int .i64 b] W fun e w' => e = .returned (.bool true) ∧ Below W.heap.size W w' := by
  have HBa := Lib.hid (fun w (f : Fr (fun _ => False) W w) => DaBases_any A c G a b w (hG.fr f))
  have HBb := Lib.hid (fun w (f : Fr (fun _ => False) W w) => DaBases_any A c G b a w (hG.fr f))
  have HNd := Lib.hid (fun w (f : Fr (fun _ => False) W w) => nodes_two A c G a b w (hG.fr f))
  rw [nodE_swap, bas_swap] at HBb
  by_cases hE : nodE G [a, b] = 0
  · obtain ⟨hok, hall⟩ := nodE_zero hE
    have hR := right_of hok
    have hlen : (basL G a.toNat b.toNat).length ≤ 100000 := by have := selB_len (topB (prG G) G.length (bothB (prG G) G.length [a.toNat] [b.toNat])) G.length; have := hR.len; unfold basL; omega
    obtain ⟨a', rfl, ha, hat⟩ := nat_of (hall a (by simp))
    obtain ⟨b', rfl, hb, hbt⟩ := nat_of (hall b (by simp))
    have HQb := Lib.hid (fun w (f : Fr (fun _ => False) W w) => QaBases_any A c G a' b' hR ha hb w (hG.fr f))
    rw [hE] at HBa HBb HNd
    rw [hat, hbt] at HBa HBb hlen
    obtain ⟨L, hL⟩ : ∃ L, basL G a' b' = L := ⟨_, rfl⟩
    rw [hL] at HBa HBb HQb hlen
    obtain ⟨n, hn⟩ : ∃ n, L.length = n := ⟨_, rfl⟩
    have HLn := Lib.hid hn
    rw [hn] at hlen
    have HSm := Lib.hid (fun A ca B cb w h1 h2 => same_ok A ca L B cb n hn hlen w h1 h2)
    obtain ⟨N, hN⟩ : ∃ N, G.length = N := ⟨_, rfl⟩
    rw [hN] at HBa HBb HNd HQb ⊢
    clear hE hok hall hR hG ha hb hat hbt hL hN hn hlen
    go_enter Try.func5, Try.ntmps5
    go_upto_region 4 with (first
      | (go_at_call 22; have _ := M1; refine (HBb.out _ HF1.out).mono ?_; rintro e w2 h; obtain ⟨A2, c2, rfl, hl2, f2⟩ := h.ok; rw [HLn.out]; have HL2 := Lib.hid hl2; have HF2 := Lib.hid (HF1.out.trans f2 (fun _ _ e => e)); have HL1' := Lib.hid (HL1.out.fr f2 (fun _ _ e => e)); clear h hl2 f2)
      | (go_at_call 22; refine (HBa.out _ (Fr.refl _ _)).mono ?_; rintro e w1 h; obtain ⟨A1, c1, rfl, hl1, f1⟩ := h.ok; rw [HLn.out]; have HL1 := Lib.hid hl1; have HF1 := Lib.hid f1; have M1 := True.intro; clear h hl1 f1)
      | (go_at_call 18; refine (HNd.out _ HF2.out).mono ?_; rintro e w3 ⟨rfl, f3⟩; have HF3 := Lib.hid (HF2.out.trans f3 (fun _ _ e => e)); have HLa := Lib.hid (HL1'.out.fr f3 (fun _ _ e => e)); have HLb := Lib.hid (HL2.out.fr f3 (fun _ _ e => e)); clear f3))
    go_wp2_with (first
      | (go_at_call 13; have _ := M2; refine (HSm.out A1 c1 A5 c5 _ HLc.out HL5.out).mono ?_; rintro e w6 ⟨rfl, f6⟩; have HF6 := Lib.hid (HF5.out.trans f6 (fun _ _ e => e)); clear f6)
      | (go_at_call 13; refine (HSm.out A1 c1 A2 c2 _ HLa.out HLb.out).mono ?_; rintro e w4 ⟨rfl, f4⟩; have HF4 := Lib.hid (HF3.out.trans f4 (fun _ _ e => e)); have HL4 := Lib.hid (HLa.out.fr f4 (fun _ _ e => e)); have M2 := True.intro; clear f4)
      | (go_at_call 23; refine (HQb.out _ HF4.out).mono ?_; rintro e w5 ⟨v5, rfl, ho⟩; obtain ⟨A5, c5, hv5, _, _, _, hl5⟩ := ho.shape; rw [HLn.out] at hv5; subst hv5; have HL5 := Lib.hid hl5; have HLc := Lib.hid (HL4.out.fr ho.2 (fun _ _ e => e)); have HF5 := Lib.hid (HF4.out.trans ho.2 (fun _ _ e => e)); clear ho hl5)
      | (go_at_call 12; refine (works_fr _).mono ?_; rintro e w7 ⟨rfl, f7⟩; have HF7 := Lib.hid (HF6.out.trans f7 (fun _ _ e => e)); clear f7))
    go_ret
    exact ⟨rfl, HF7.out.below (fun _ _ e => e)⟩
  · have HE := Lib.hid hE
    obtain ⟨E, hEE⟩ : ∃ E, nodE G [a, b] = E := ⟨_, rfl⟩
    rw [hEE] at hE HBa HBb HNd HE
    have hen : (E == 0) = false := by simpa using hE
    have HSm := Lib.hid (fun A ca B cb w h1 h2 => same_ok A ca [] B cb 0 rfl (by omega) w h1 h2)
    obtain ⟨N, hN⟩ : ∃ N, G.length = N := ⟨_, rfl⟩
    rw [hN] at HBa HBb HNd ⊢
    clear hG hN hEE
    go_enter Try.func5, Try.ntmps5
    go_upto_region 4 with (first
      | (go_at_call 22; have _ := M1; refine (HBb.out _ HF1.out).mono ?_; rintro e w2 h; obtain ⟨A2, c2, rfl, hl2, f2⟩ := h.bad HE.out; have HL2 := Lib.hid hl2; have HF2 := Lib.hid (HF1.out.trans f2 (fun _ _ e => e)); have HL1' := Lib.hid (HL1.out.fr f2 (fun _ _ e => e)); clear h hl2 f2)
      | (go_at_call 22; refine (HBa.out _ (Fr.refl _ _)).mono ?_; rintro e w1 h; obtain ⟨A1, c1, rfl, hl1, f1⟩ := h.bad HE.out; have HL1 := Lib.hid hl1; have HF1 := Lib.hid f1; have M1 := True.intro; clear h hl1 f1)
      | (go_at_call 18; refine (HNd.out _ HF2.out).mono ?_; rintro e w3 ⟨rfl, f3⟩; have HF3 := Lib.hid (HF2.out.trans f3 (fun _ _ e => e)); have HLa := Lib.hid (HL1'.out.fr f3 (fun _ _ e => e)); have HLb := Lib.hid (HL2.out.fr f3 (fun _ _ e => e)); clear f3))
    go_wp2_with (first
      | (go_at_call 13; refine (HSm.out A1 c1 A2 c2 _ HLa.out HLb.out).mono ?_; rintro e w4 ⟨rfl, f4⟩; have HF4 := Lib.hid (HF3.out.trans f4 (fun _ _ e => e)); clear f4)
      | (go_at_call 12; refine (works_fr _).mono ?_; rintro e w7 ⟨rfl, f7⟩; have HF7 := Lib.hid (HF4.out.trans f7 (fun _ _ e => e)); clear f7))
    go_ret
    exact ⟨rfl, HF7.out.below (fun _ _ e => e)⟩
end Go.Proofs.Ytfpolfcmfdmifaa

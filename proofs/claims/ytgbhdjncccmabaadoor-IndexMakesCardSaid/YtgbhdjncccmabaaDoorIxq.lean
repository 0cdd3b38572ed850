/- What is proved: the library's search by halves at an index's ids, the comparison that it is handed, and where a first byte's ids stand, by the program. Conditions: the list's cells are there, and rise. -/
import Derived.Test.YtgbhdjncccmabaaDoorIxp
import Derived.Shelf.Abstract
namespace Go.Proofs.YtgbhdjncccmabaaDoor
open Go.RowKit
set_option linter.unusedVariables false

def loF (f : Nat → Nat) (b : Nat) : Nat := if b = 0 then 0 else f (b - 1)
set_option maxHeartbeats 1600000 in
set_option maxRecDepth 100000 in
theorem Ispan_any (f : Nat → Nat) (b : Nat) (hb : b < 256) (w : World) :
    Calls Tryd.prog 41 #[.agg (fanC f), .int .u8 b] w fun e w' => e = .returned (.tuple #[.int .u32 (loF f b), .int .u32 (f b)]) ∧ Below w.heap.size w w' := by
  obtain ⟨w1, hw1⟩ : ∃ w1, w.alloc (.cells (fanC f) 57) = w1 := ⟨_, rfl⟩
  have hF1 : Fr (fun _ => False) w w1 := by subst hw1; exact (Fr.refl _ w).alloc _
  have hW : Whole w1 w.heap.size 57 (fanC f) := by subst hw1; exact Whole.new w 57 _
  have HF1 := Lib.hid hF1
  have c0 : w1.cell? ⟨w.heap.size, b, none⟩ = some (.int .u32 (f b : Nat)) := by rw [hW.cell, fanC_get f b hb]
  have hbz : (b : Int) < 256 := by omega
  have hb0 : (0 : Int) ≤ b := by omega
  by_cases hz : b = 0
  · subst hz
    have HL : Hid (loF f 0 = 0) := Lib.hid rfl
    obtain ⟨V, hV⟩ : ∃ V, f 0 = V := ⟨_, rfl⟩
    rw [hV] at c0 ⊢
    obtain ⟨F, hFd⟩ : ∃ F, fanC f = F := ⟨_, rfl⟩
    rw [hFd] at hw1 ⊢
    clear hF1 hW hV hFd
    go_enter Tryd.func41, Tryd.ntmps41
    go_wp2_with fail
    go_region
    go_wp2_with fail
    go_ret2
    exact ⟨by rw [HL.out]; rfl, (HF1.out.drewN _).below (fun _ _ e => e)⟩
  · have HL : Hid (loF f b = f (b - 1)) := Lib.hid (by unfold loF; rw [if_neg hz])
    have hbp : (0 : Int) < (b : Int) := by omega
    have c1 : w1.cell? ⟨w.heap.size, b - 1, none⟩ = some (.int .u32 (f (b - 1) : Nat)) := by rw [hW.cell, fanC_get f (b - 1) (by omega)]
    have hw8 : IntKind.u8.wrap ((b : Int) - 1) = ((b - 1 : Nat) : Int) := by rw [IntKind.wrap_u8]; omega
    obtain ⟨p, hp⟩ : ∃ p, b - 1 = p := ⟨_, rfl⟩
    have hp256 : (p : Int) < 256 := by omega
    rw [hp] at c1 hw8 HL
    obtain ⟨V, hV⟩ : ∃ V, f b = V := ⟨_, rfl⟩
    obtain ⟨U, hU⟩ : ∃ U, f p = U := ⟨_, rfl⟩
    rw [hV] at c0 ⊢
    rw [hU] at c1 HL
    obtain ⟨F, hFd⟩ : ∃ F, fanC f = F := ⟨_, rfl⟩
    rw [hFd] at hw1 ⊢
    clear hF1 hW hV hFd hp hU hz
    go_enter Tryd.func41, Tryd.ntmps41
    go_wp2_with fail
    go_region
    go_wp2_with fail
    go_ret2
    exact ⟨by rw [HL.out]; rfl, (HF1.out.drewN _).below (fun _ _ e => e)⟩

set_option maxHeartbeats 1600000 in
set_option maxRecDepth 100000 in
theorem Ikcmp_any (a b : Nat) (ha : a < big) (hb : b < big) (w : World) : Calls Tryd.prog 43 #[.agg (idC (dgt a)), .agg (idC (dgt b))] w fun e w' => e = .returned (.int .i64 (cmpN a b)) ∧ Below w.heap.size w w' := by
  obtain ⟨w1, hw1⟩ : ∃ w1, w.alloc (.cells (idC (dgt a)) 97) = w1 := ⟨_, rfl⟩
  obtain ⟨w2, hw2⟩ : ∃ w2, w1.alloc (.cells (idC (dgt b)) 24) = w2 := ⟨_, rfl⟩
  have hF1 : Fr (fun _ => False) w w1 := by subst hw1; exact (Fr.refl _ w).alloc _
  have hF2 : Fr (fun _ => False) w1 w2 := by subst hw2; exact (Fr.refl _ w1).alloc _
  have hA : Whole w2 w.heap.size 97 (idC (dgt a)) := by subst hw1; exact (Whole.new w 97 _).fr hF2 (fun e => e)
  have hB : Whole w2 w1.heap.size 24 (idC (dgt b)) := by subst hw2; exact Whole.new w1 24 _
  obtain ⟨TK, hTK⟩ : ∃ T : TypeId, T = 97 := ⟨_, rfl⟩
  obtain ⟨T32, hT32⟩ : ∃ T : TypeId, T = 24 := ⟨_, rfl⟩
  obtain ⟨n32, hn32⟩ : ∃ n : Nat, n = 32 := ⟨_, rfl⟩
  have agK : ∀ w, (isAgg TK).run Tryd.prog w = .ok true w := by rw [hTK]; exact fun _ => by kernel_rfl
  have szK : ∀ w, (sizeOf TK).run Tryd.prog w = .ok n32 w := by rw [hTK, hn32]; exact fun _ => by kernel_rfl
  have ag32 : ∀ w, (isAgg T32).run Tryd.prog w = .ok true w := by rw [hT32]; exact fun _ => by kernel_rfl
  have sz32 : ∀ w, (sizeOf T32).run Tryd.prog w = .ok n32 w := by rw [hT32, hn32]; exact fun _ => by kernel_rfl
  have l1 : (loadCellsFrom ⟨w.heap.size, 0, none⟩ 0 n32 #[]).run Tryd.prog w2 = .ok (idC (dgt a)) w2 := by
    have := load_first hA (Fr.refl _ w2) (n := n32) (by rw [idC_size]; omega)
    rwa [hn32, List.take_of_length_le (by rw [Array.length_toList, idC_size]; exact Nat.le_refl _), Array.toArray_toList, ← hn32] at this
  have l2 : (loadCellsFrom ⟨w1.heap.size, 0, none⟩ 0 n32 #[]).run Tryd.prog w2 = .ok (idC (dgt b)) w2 := by
    have := load_first hB (Fr.refl _ w2) (n := n32) (by rw [idC_size]; omega)
    rwa [hn32, List.take_of_length_le (by rw [Array.length_toList, idC_size]; exact Nat.le_refl _), Array.toArray_toList, ← hn32] at this
  have HF := Lib.hid (hF1.trans hF2 (fun _ _ e => e))
  have HC := Lib.hid (fun w => OCompare_any a b ha hb w)
  obtain ⟨ca, hca⟩ : ∃ ca, idC (dgt a) = ca := ⟨_, rfl⟩
  obtain ⟨cb, hcb⟩ : ∃ cb, idC (dgt b) = cb := ⟨_, rfl⟩
  obtain ⟨r, hr⟩ : ∃ r, cmpN a b = r := ⟨_, rfl⟩
  rw [hca] at hw1 l1 HC ⊢
  rw [hcb] at hw2 l2 HC ⊢
  rw [hr] at HC ⊢
  clear hF1 hF2 hA hB hca hcb hr hn32
  go_enter Tryd.func43, Tryd.ntmps43
  rw [show Op.load 97 (.tmp 2) = Op.load TK (.tmp 2) by rw [hTK], show Op.load 24 (.tmp 3) = Op.load T32 (.tmp 3) by rw [hT32]]
  clear hTK hT32
  go_wp2_with (go_at_call 23; refine (HC.out _).mono ?_; rintro e w' ⟨rfl, bb⟩; have HB3 := Lib.hid bb; clear bb)
  go_ret
  exact ⟨rfl, (HF.out.then_below HB3.out).below (fun _ _ e => e)⟩

/-- What the search by halves has found. -/
structure Half (l : List Nat) (x p : Nat) : Prop where
  le : p ≤ l.length
  lo : ∀ t, t < p → gt l t < x
  hi : ∀ t, p ≤ t → t < l.length → x ≤ gt l t
/-- Does an id stand at a place? -/
def hitB (l : List Nat) (x p : Nat) : Bool := decide (p < l.length ∧ gt l p = x)
set_option maxHeartbeats 1600000 in
set_option maxRecDepth 100000 in
theorem IBSF_any (A : Option Addr) (c : Nat) (l : List Nat) (x : Nat) (hl : l.length ≤ 1000) (hb : ∀ n ∈ l, n < big) (hx : x < big) (hr : ris l) (w : World) (h : Lies w A (flatI l)) :
    Calls Tryd.prog 42 #[.slice A l.length c, .agg (idC (dgt x)), .func (.func 43) #[] #[]] w fun e w' => ∃ p, e = .returned (.tuple #[.int .i64 (p : Nat), .bool (hitB l x p)]) ∧ Half l x p ∧ Below w.heap.size w w' := by
  have eg : ∀ args w, (callFunc 43 args).run Tryd.prog w = .ok (.enter 43 args) w := enters_of Tryd.func43 (by kernel_rfl) rfl
  obtain ⟨w1, hw1⟩ : ∃ w1, w.alloc (.cells (idC (dgt x)) 24) = w1 := ⟨_, rfl⟩
  have hF1 : Fr (fun _ => False) w w1 := by subst hw1; exact (Fr.refl _ w).alloc _
  have hA : Whole w1 w.heap.size 24 (idC (dgt x)) := by subst hw1; exact Whole.new w 24 _
  have HF1 := Lib.hid hF1
  have HA := Lib.hid hA
  have HL := Lib.hid (h.fr hF1 (fun _ _ e => e))
  have HB := Lib.hid hb
  have HRS := Lib.hid hr
  have HGS := Lib.hid (gt_some l)
  have HGM := Lib.hid (gt_mem l)
  have HCS := Lib.hid (idC_size (dgt x))
  have HKC := Lib.hid (fun a (ha : a < big) w => Ikcmp_any a x ha hx w)
  obtain ⟨TK, hTK⟩ : ∃ T : TypeId, T = 97 := ⟨_, rfl⟩
  obtain ⟨T32, hT32⟩ : ∃ T : TypeId, T = 24 := ⟨_, rfl⟩
  obtain ⟨n32, hn32⟩ : ∃ n : Nat, n = 32 := ⟨_, rfl⟩
  have agK : ∀ w, (isAgg TK).run Tryd.prog w = .ok true w := by rw [hTK]; exact fun _ => by kernel_rfl
  have szK : ∀ w, (sizeOf TK).run Tryd.prog w = .ok n32 w := by rw [hTK, hn32]; exact fun _ => by kernel_rfl
  have ag32 : ∀ w, (isAgg T32).run Tryd.prog w = .ok true w := by rw [hT32]; exact fun _ => by kernel_rfl
  have sz32 : ∀ w, (sizeOf T32).run Tryd.prog w = .ok n32 w := by rw [hT32, hn32]; exact fun _ => by kernel_rfl
  have HN32 := Lib.hid hn32
  obtain ⟨cx, hcx⟩ : ∃ cx, idC (dgt x) = cx := ⟨_, rfl⟩
  rw [hcx] at hw1 HA HCS HKC ⊢
  obtain ⟨m, hm⟩ : ∃ m, l.length = m := ⟨_, rfl⟩
  have HM := Lib.hid hm
  rw [hm] at hl HGS HGM ⊢
  clear h hb hr hcx hm hn32 hF1 hA
  go_enter Tryd.func42, Tryd.ntmps42
  rw [show Op.load 97 (.tmp 27) = Op.load TK (.tmp 27) by rw [hTK], show Op.load 24 (.tmp 4) = Op.load T32 (.tmp 4) by rw [hT32], show Op.load 97 (.tmp 43) = Op.load TK (.tmp 43) by rw [hTK]]
  clear hTK hT32
  go_wp2_with fail
  go_loopw [9, 10] (fun s9 s10 wr => ∃ lo hi : Nat, s9 = .int .i64 lo ∧ s10 = .int .i64 hi ∧ lo ≤ hi ∧ hi ≤ m ∧ Hid (Fr (fun _ => False) w1 wr) ∧ Hid ((∀ t, t < lo → gt l t < x) ∧ (∀ t, hi ≤ t → t < m → x ≤ gt l t))) (fun s9 s10 _ => (intOf s10).toNat - (intOf s9).toNat)
  case atStart => exact ⟨0, m, rfl, rfl, by omega, by omega, Lib.hid (Fr.refl _ _), Lib.hid ⟨fun t ht => by omega, fun t h1 h2 => by omega⟩⟩
  case round =>
    obtain ⟨lo, hi, rfl, rfl, hlh, him, HFr, HI⟩ := hrel
    have l2 : ∀ q : Later wr, (loadCellsFrom ⟨w.heap.size, 0, none⟩ 0 n32 #[]).run Tryd.prog q.w' = .ok cx q.w' := fun q => load_later HA.out (by rw [HCS.out]; exact HN32.out) HFr.out q
    by_cases hlt : lo < hi
    · have hltz : (lo : Int) < (hi : Int) := by omega
      obtain ⟨b, o, hBk⟩ := HL.out.some_of (by rw [HM.out]; omega)
      subst hBk
      obtain ⟨k, hk⟩ : ∃ k, (lo + hi) / 2 = k := ⟨_, rfl⟩
      have hkm : k < m := by omega
      have hkz : ((lo : Int) + (hi : Int)) / 2 = (k : Int) := by omega
      have hkmz : (k : Int) < (m : Int) := by omega
      have hk0 : (0 : Int) ≤ (k : Int) := by omega
      have l1 : ∀ q : Later wr, (loadCellsFrom ⟨b, o + k * 32, none⟩ 0 n32 #[]).run Tryd.prog q.w' = .ok (idC (dgt (gt l k))) q.w' := fun q => by rw [HN32.out]; exact load_at HL.out (HGS.out k hkm) (HFr.out.trans q.fr (fun _ _ e => e))
      have cc := HKC.out (gt l k) (HB.out _ (HGM.out k hkm))
      obtain ⟨y, hy⟩ : ∃ y, gt l k = y := ⟨_, rfl⟩
      rw [hy] at l1 cc
      have HY := Lib.hid hy
      obtain ⟨cy, hcy⟩ : ∃ c, idC (dgt y) = c := ⟨_, rfl⟩
      rw [hcy] at l1 cc
      have hwk1 : IntKind.i64.wrap ((k : Int) + 1) = (k : Int) + 1 := by rw [IntKind.wrap_i64]; omega
      have hws : IntKind.i64.wrap ((lo : Int) + (hi : Int)) = (lo : Int) + (hi : Int) := by rw [IntKind.wrap_i64]; omega
      have HK1 : Hid (lo ≤ k ∧ k < hi) := Lib.hid (by omega)
      obtain ⟨r, hr⟩ : ∃ r, cmpN y x = r := ⟨_, rfl⟩
      rw [hr] at cc
      have CC := Lib.hid cc
      have HRr := Lib.hid hr
      clear hy hcy hr cc hk
      by_cases hyx : y < x
      · have hr0 : r = -1 := by rw [← HRr.out, cmpN, if_pos hyx]
        subst hr0
        have HYX := Lib.hid hyx
        clear hyx
        go_upto_region 5 with fail
        refine wp_region_later (w0 := wr) (Fr.refl _ _) (by kernel_rfl) (by kernel_rfl) ?_
        repeat (quiet_step ((go_at_fn 43; refine Calls.later_of (CC.out _))))
        refine wpQuiet_nil ?_
        intro _ hw'
        obtain ⟨q, hw''⟩ := hw'
        subst hw''
        go_wp2_with fail
        go_roundw
        case rel => exact ⟨k + 1, hi, by go_num, rfl, by have := HK1.out; omega, him, Lib.hid (HFr.out.trans q.fr (fun _ _ e => e)), Lib.hid ⟨fun t ht => (by omega : t < k ∨ t = k).elim (fun h1 => by have := HRS.out t k h1 (by rw [HM.out]; exact hkm); rw [HY.out] at this; have := HYX.out; omega) (fun e => by subst e; rw [HY.out]; exact HYX.out), HI.out.2⟩⟩
        case measure => simp [intOf]; have := HK1.out; omega
      · have hr0 : ¬ (r < 0) := by rw [← HRr.out, cmpN, if_neg hyx]; split <;> omega
        have HYX := Lib.hid hyx
        clear hyx
        go_upto_region 5 with fail
        refine wp_region_later (w0 := wr) (Fr.refl _ _) (by kernel_rfl) (by kernel_rfl) ?_
        repeat (quiet_step ((go_at_fn 43; refine Calls.later_of (CC.out _))))
        refine wpQuiet_nil ?_
        intro _ hw'
        obtain ⟨q, hw''⟩ := hw'
        subst hw''
        go_wp2_with fail
        go_roundw
        case rel => exact ⟨lo, k, rfl, by go_num, by have := HK1.out; omega, by omega, Lib.hid (HFr.out.trans q.fr (fun _ _ e => e)), Lib.hid ⟨HI.out.1, fun t h1 h2 => (by omega : k < t ∨ t = k).elim (fun h3 => by have := HRS.out k t h3 (by rw [HM.out]; exact h2); rw [HY.out] at this; have := HYX.out; omega) (fun e => by subst e; rw [HY.out]; have := HYX.out; omega)⟩⟩
        case measure => simp [intOf]; have := HK1.out; omega
    · obtain rfl : lo = hi := by omega
      have hltz : ¬ ((lo : Int) < (lo : Int)) := by omega
      have HH : Hid (Half l x lo) := Lib.hid ⟨by rw [HM.out]; exact him, HI.out.1, fun t h1 h2 => HI.out.2 t h1 (by rw [← HM.out]; exact h2)⟩
      by_cases hlm : lo < m
      · have hlmz : (lo : Int) < (m : Int) := by omega
        obtain ⟨b, o, hBk⟩ := HL.out.some_of (by rw [HM.out]; omega)
        subst hBk
        have hk0 : (0 : Int) ≤ (lo : Int) := by omega
        have l1 : ∀ q : Later wr, (loadCellsFrom ⟨b, o + lo * 32, none⟩ 0 n32 #[]).run Tryd.prog q.w' = .ok (idC (dgt (gt l lo))) q.w' := fun q => by rw [HN32.out]; exact load_at HL.out (HGS.out lo hlm) (HFr.out.trans q.fr (fun _ _ e => e))
        have cc := HKC.out (gt l lo) (HB.out _ (HGM.out lo hlm))
        obtain ⟨y, hy⟩ : ∃ y, gt l lo = y := ⟨_, rfl⟩
        rw [hy] at l1 cc
        have HY := Lib.hid hy
        obtain ⟨cy, hcy⟩ : ∃ c, idC (dgt y) = c := ⟨_, rfl⟩
        rw [hcy] at l1 cc
        obtain ⟨r, hr⟩ : ∃ r, cmpN y x = r := ⟨_, rfl⟩
        rw [hr] at cc
        have CC := Lib.hid cc
        have HRr := Lib.hid hr
        clear hy hcy hr cc
        by_cases hyx : y = x
        · have hr0 : r = 0 := by rw [← HRr.out, cmpN, if_neg (by omega), if_neg (by omega)]
          subst hr0
          have HD : Hid (hitB l x lo = true) := Lib.hid (by unfold hitB; rw [HY.out, HM.out]; exact decide_eq_true ⟨hlm, hyx⟩)
          clear hyx
          go_upto_region 8 with fail
          refine wp_region_later (w0 := wr) (Fr.refl _ _) (by kernel_rfl) (by kernel_rfl) ?_
          repeat (quiet_step ((go_at_fn 43; refine Calls.later_of (CC.out _))))
          refine wpQuiet_nil ?_
          intro _ hw'
          obtain ⟨q, hw''⟩ := hw'
          subst hw''
          go_wp2_with fail
          go_ret2
          exact ⟨lo, by rw [HD.out]; rfl, HH.out, ((HF1.out.trans HFr.out (fun _ _ e => e)).trans q.fr (fun _ _ e => e)).below (fun _ _ e => e)⟩
        · have hr0 : (r == 0) = false := by
            have : r ≠ 0 := by rw [← HRr.out, cmpN]; split; (decide); split; (decide); omega
            simpa using this
          have HD : Hid (hitB l x lo = false) := Lib.hid (by unfold hitB; rw [HY.out, HM.out]; exact decide_eq_false (fun h => hyx h.2))
          clear hyx
          go_upto_region 8 with fail
          refine wp_region_later (w0 := wr) (Fr.refl _ _) (by kernel_rfl) (by kernel_rfl) ?_
          repeat (quiet_step ((go_at_fn 43; refine Calls.later_of (CC.out _))))
          refine wpQuiet_nil ?_
          intro _ hw'
          obtain ⟨q, hw''⟩ := hw'
          subst hw''
          go_wp2_with fail
          go_ret2
          exact ⟨lo, by rw [HD.out]; rfl, HH.out, ((HF1.out.trans HFr.out (fun _ _ e => e)).trans q.fr (fun _ _ e => e)).below (fun _ _ e => e)⟩
      · have hlmz : ¬ ((lo : Int) < (m : Int)) := by omega
        have hdz : decide ((lo : Int) < (m : Int)) = false := decide_eq_false hlmz
        have HD : Hid (hitB l x lo = false) := Lib.hid (by unfold hitB; rw [HM.out]; exact decide_eq_false (fun h => hlm h.1))
        go_upto_region 8 with fail
        go_quiet (fail)
        go_wp2_with fail
        go_ret2
        exact ⟨lo, by rw [HD.out]; rfl, HH.out, ((HF1.out.trans HFr.out (fun _ _ e => e)).drewN _).below (fun _ _ e => e)⟩
end Go.Proofs.YtgbhdjncccmabaaDoor

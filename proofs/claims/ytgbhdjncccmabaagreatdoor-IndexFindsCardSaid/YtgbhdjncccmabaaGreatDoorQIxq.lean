/- What is proved: texts that stand one behind the other: Ixq Ixr. Conditions: each theorem names its own. -/
import Derived.Test.YtgbhdjncccmabaaGreatDoorIxp
import Derived.Shelf.Abstract
/- What is proved: the library's search by halves at an index's ids, the comparison that it is handed, and where a first byte's ids stand, by the program. Conditions: the list's cells are there, and rise. -/
namespace Go.Proofs.YtgbhdjncccmabaaGreatDoor
open Go.RowKit
set_option linter.unusedVariables false

def loF (f : Nat → Nat) (b : Nat) : Nat := if b = 0 then 0 else f (b - 1)
set_option maxHeartbeats 1600000 in
set_option maxRecDepth 100000 in
theorem Ispan_any (f : Nat → Nat) (b : Nat) (hb : b < 256) (w : World) :
    Calls Tryz.prog 34 #[.agg (fanC f), .int .u8 b] w fun e w' => e = .returned (.tuple #[.int .u32 (loF f b), .int .u32 (f b)]) ∧ Below w.heap.size w w' := by
  obtain ⟨w1, hw1⟩ : ∃ w1, w.alloc (.cells (fanC f) 72) = w1 := ⟨_, rfl⟩
  have hF1 : Fr (fun _ => False) w w1 := by subst hw1; exact (Fr.refl _ w).alloc _
  have hW : Whole w1 w.heap.size 72 (fanC f) := by subst hw1; exact Whole.new w 72 _
  have HF1 := Lib.hid hF1
  have c0 : w1.cell? ⟨w.heap.size, b, none⟩ = some (.int .u32 (f b : Nat)) := by rw [hW.cell, fanC_get f b hb]
  have hbz : (b : Int) < 256 := by omega
  have hb0 : (0 : Int) ≤ b := by omega
  by_cases hz : b = 0
  · subst hz
    have HL : Hid (loF f 0 = 0) := Lib.hid rfl
    obtain ⟨V, hV⟩ : ∃ V, f 0 = V := ⟨_, rfl⟩
    rw [hV] at c0 ⊢
    obtain ⟨F, hFd⟩ : ∃ F, fanC f = F := ⟨_, rfl⟩
    rw [hFd] at hw1 ⊢
    clear hF1 hW hV hFd
    go_enter Tryz.func34, Tryz.ntmps34
    go_wp2_with fail
    go_region
    go_wp2_with fail
    go_ret2
    exact ⟨by rw [HL.out]; rfl, (HF1.out.drewN _).below (fun _ _ e => e)⟩
  · have HL : Hid (loF f b = f (b - 1)) := Lib.hid (by unfold loF; rw [if_neg hz])
    have hbp : (0 : Int) < (b : Int) := by omega
    have c1 : w1.cell? ⟨w.heap.size, b - 1, none⟩ = some (.int .u32 (f (b - 1) : Nat)) := by rw [hW.cell, fanC_get f (b - 1) (by omega)]
    have hw8 : IntKind.u8.wrap ((b : Int) - 1) = ((b - 1 : Nat) : Int) := by rw [IntKind.wrap_u8]; omega
    obtain ⟨p, hp⟩ : ∃ p, b - 1 = p := ⟨_, rfl⟩
    have hp256 : (p : Int) < 256 := by omega
    rw [hp] at c1 hw8 HL
    obtain ⟨V, hV⟩ : ∃ V, f b = V := ⟨_, rfl⟩
    obtain ⟨U, hU⟩ : ∃ U, f p = U := ⟨_, rfl⟩
    rw [hV] at c0 ⊢
    rw [hU] at c1 HL
    obtain ⟨F, hFd⟩ : ∃ F, fanC f = F := ⟨_, rfl⟩
    rw [hFd] at hw1 ⊢
    clear hF1 hW hV hFd hp hU hz
    go_enter Tryz.func34, Tryz.ntmps34
    go_wp2_with fail
    go_region
    go_wp2_with fail
    go_ret2
    exact ⟨by rw [HL.out]; rfl, (HF1.out.drewN _).below (fun _ _ e => e)⟩

set_option maxHeartbeats 1600000 in
set_option maxRecDepth 100000 in
theorem Ikcmp_any (a b : Nat) (ha : a < big) (hb : b < big) (w : World) : Calls Tryz.prog 36 #[.agg (idC (dgt a)), .agg (idC (dgt b))] w fun e w' => e = .returned (.int .i64 (cmpN a b)) ∧ Below w.heap.size w w' := by
  obtain ⟨w1, hw1⟩ : ∃ w1, w.alloc (.cells (idC (dgt a)) 90) = w1 := ⟨_, rfl⟩
  obtain ⟨w2, hw2⟩ : ∃ w2, w1.alloc (.cells (idC (dgt b)) 24) = w2 := ⟨_, rfl⟩
  have hF1 : Fr (fun _ => False) w w1 := by subst hw1; exact (Fr.refl _ w).alloc _
  have hF2 : Fr (fun _ => False) w1 w2 := by subst hw2; exact (Fr.refl _ w1).alloc _
  have hA : Whole w2 w.heap.size 90 (idC (dgt a)) := by subst hw1; exact (Whole.new w 90 _).fr hF2 (fun e => e)
  have hB : Whole w2 w1.heap.size 24 (idC (dgt b)) := by subst hw2; exact Whole.new w1 24 _
  obtain ⟨TK, hTK⟩ : ∃ T : TypeId, T = 90 := ⟨_, rfl⟩
  obtain ⟨T32, hT32⟩ : ∃ T : TypeId, T = 24 := ⟨_, rfl⟩
  obtain ⟨n32, hn32⟩ : ∃ n : Nat, n = 32 := ⟨_, rfl⟩
  have agK : ∀ w, (isAgg TK).run Tryz.prog w = .ok true w := by rw [hTK]; exact fun _ => by kernel_rfl
  have szK : ∀ w, (sizeOf TK).run Tryz.prog w = .ok n32 w := by rw [hTK, hn32]; exact fun _ => by kernel_rfl
  have ag32 : ∀ w, (isAgg T32).run Tryz.prog w = .ok true w := by rw [hT32]; exact fun _ => by kernel_rfl
  have sz32 : ∀ w, (sizeOf T32).run Tryz.prog w = .ok n32 w := by rw [hT32, hn32]; exact fun _ => by kernel_rfl
  have l1 : (loadCellsFrom ⟨w.heap.size, 0, none⟩ 0 n32 #[]).run Tryz.prog w2 = .ok (idC (dgt a)) w2 := by
    have := load_first hA (Fr.refl _ w2) (n := n32) (by rw [idC_size]; omega)
    rwa [hn32, List.take_of_length_le (by rw [Array.length_toList, idC_size]; exact Nat.le_refl _), Array.toArray_toList, ← hn32] at this
  have l2 : (loadCellsFrom ⟨w1.heap.size, 0, none⟩ 0 n32 #[]).run Tryz.prog w2 = .ok (idC (dgt b)) w2 := by
    have := load_first hB (Fr.refl _ w2) (n := n32) (by rw [idC_size]; omega)
    rwa [hn32, List.take_of_length_le (by rw [Array.length_toList, idC_size]; exact Nat.le_refl _), Array.toArray_toList, ← hn32] at this
  have HF := Lib.hid (hF1.trans hF2 (fun _ _ e => e))
  have HC := Lib.hid (fun w => OCompare_any a b ha hb w)
  obtain ⟨ca, hca⟩ : ∃ ca, idC (dgt a) = ca := ⟨_, rfl⟩
  obtain ⟨cb, hcb⟩ : ∃ cb, idC (dgt b) = cb := ⟨_, rfl⟩
  obtain ⟨r, hr⟩ : ∃ r, cmpN a b = r := ⟨_, rfl⟩
  rw [hca] at hw1 l1 HC ⊢
  rw [hcb] at hw2 l2 HC ⊢
  rw [hr] at HC ⊢
  clear hF1 hF2 hA hB hca hcb hr hn32
  go_enter Tryz.func36, Tryz.ntmps36
  rw [show Op.load 90 (.tmp 2) = Op.load TK (.tmp 2) by rw [hTK], show Op.load 24 (.tmp 3) = Op.load T32 (.tmp 3) by rw [hT32]]
  clear hTK hT32
  go_wp2_with (go_at_call 43; refine (HC.out _).mono ?_; rintro e w' ⟨rfl, bb⟩; have HB3 := Lib.hid bb; clear bb)
  go_ret
  exact ⟨rfl, (HF.out.then_below HB3.out).below (fun _ _ e => e)⟩

/-- What the search by halves has found. -/
structure Half (l : List Nat) (x p : Nat) : Prop where
  le : p ≤ l.length
  lo : ∀ t, t < p → gt l t < x
  hi : ∀ t, p ≤ t → t < l.length → x ≤ gt l t
/-- Does an id stand at a place? -/
def hitB (l : List Nat) (x p : Nat) : Bool := decide (p < l.length ∧ gt l p = x)
set_option maxHeartbeats 1600000 in
set_option maxRecDepth 100000 in
theorem IBSF_any (A : Option Addr) (c : Nat) (l : List Nat) (x : Nat) (hl : l.length ≤ 1000) (hb : ∀ n ∈ l, n < big) (hx : x < big) (hr : ris l) (w : World) (h : Lies w A (flatI l)) :
    Calls Tryz.prog 35 #[.slice A l.length c, .agg (idC (dgt x)), .func (.func 36) #[] #[]] w fun e w' => ∃ p, e = .returned (.tuple #[.int .i64 (p : Nat), .bool (hitB l x p)]) ∧ Half l x p ∧ Below w.heap.size w w' := by
  have eg : ∀ args w, (callFunc 36 args).run Tryz.prog w = .ok (.enter 36 args) w := enters_of Tryz.func36 (by kernel_rfl) rfl
  obtain ⟨w1, hw1⟩ : ∃ w1, w.alloc (.cells (idC (dgt x)) 24) = w1 := ⟨_, rfl⟩
  have hF1 : Fr (fun _ => False) w w1 := by subst hw1; exact (Fr.refl _ w).alloc _
  have hA : Whole w1 w.heap.size 24 (idC (dgt x)) := by subst hw1; exact Whole.new w 24 _
  have HF1 := Lib.hid hF1
  have HA := Lib.hid hA
  have HL := Lib.hid (h.fr hF1 (fun _ _ e => e))
  have HB := Lib.hid hb
  have HRS := Lib.hid hr
  have HGS := Lib.hid (gt_some l)
  have HGM := Lib.hid (gt_mem l)
  have HCS := Lib.hid (idC_size (dgt x))
  have HKC := Lib.hid (fun a (ha : a < big) w => Ikcmp_any a x ha hx w)
  obtain ⟨TK, hTK⟩ : ∃ T : TypeId, T = 90 := ⟨_, rfl⟩
  obtain ⟨T32, hT32⟩ : ∃ T : TypeId, T = 24 := ⟨_, rfl⟩
  obtain ⟨n32, hn32⟩ : ∃ n : Nat, n = 32 := ⟨_, rfl⟩
  have agK : ∀ w, (isAgg TK).run Tryz.prog w = .ok true w := by rw [hTK]; exact fun _ => by kernel_rfl
  have szK : ∀ w, (sizeOf TK).run Tryz.prog w = .ok n32 w := by rw [hTK, hn32]; exact fun _ => by kernel_rfl
  have ag32 : ∀ w, (isAgg T32).run Tryz.prog w = .ok true w := by rw [hT32]; exact fun _ => by kernel_rfl
  have sz32 : ∀ w, (sizeOf T32).run Tryz.prog w = .ok n32 w := by rw [hT32, hn32]; exact fun _ => by kernel_rfl
  have HN32 := Lib.hid hn32
  obtain ⟨cx, hcx⟩ : ∃ cx, idC (dgt x) = cx := ⟨_, rfl⟩
  rw [hcx] at hw1 HA HCS HKC ⊢
  obtain ⟨m, hm⟩ : ∃ m, l.length = m := ⟨_, rfl⟩
  have HM := Lib.hid hm
  rw [hm] at hl HGS HGM ⊢
  clear h hb hr hcx hm hn32 hF1 hA
  go_enter Tryz.func35, Tryz.ntmps35
  rw [show Op.load 90 (.tmp 27) = Op.load TK (.tmp 27) by rw [hTK], show Op.load 24 (.tmp 4) = Op.load T32 (.tmp 4) by rw [hT32], show Op.load 90 (.tmp 43) = Op.load TK (.tmp 43) by rw [hTK]]
  clear hTK hT32
  go_wp2_with fail
  go_loopw [9, 10] (fun s9 s10 wr => ∃ lo hi : Nat, s9 = .int .i64 lo ∧ s10 = .int .i64 hi ∧ lo ≤ hi ∧ hi ≤ m ∧ Hid (Fr (fun _ => False) w1 wr) ∧ Hid ((∀ t, t < lo → gt l t < x) ∧ (∀ t, hi ≤ t → t < m → x ≤ gt l t))) (fun s9 s10 _ => (intOf s10).toNat - (intOf s9).toNat)
  case atStart => exact ⟨0, m, rfl, rfl, by omega, by omega, Lib.hid (Fr.refl _ _), Lib.hid ⟨fun t ht => by omega, fun t h1 h2 => by omega⟩⟩
  case round =>
    obtain ⟨lo, hi, rfl, rfl, hlh, him, HFr, HI⟩ := hrel
    have l2 : ∀ q : Later wr, (loadCellsFrom ⟨w.heap.size, 0, none⟩ 0 n32 #[]).run Tryz.prog q.w' = .ok cx q.w' := fun q => load_later HA.out (by rw [HCS.out]; exact HN32.out) HFr.out q
    by_cases hlt : lo < hi
    · have hltz : (lo : Int) < (hi : Int) := by omega
      obtain ⟨b, o, hBk⟩ := HL.out.some_of (by rw [HM.out]; omega)
      subst hBk
      obtain ⟨k, hk⟩ : ∃ k, (lo + hi) / 2 = k := ⟨_, rfl⟩
      have hkm : k < m := by omega
      have hkz : ((lo : Int) + (hi : Int)) / 2 = (k : Int) := by omega
      have hkmz : (k : Int) < (m : Int) := by omega
      have hk0 : (0 : Int) ≤ (k : Int) := by omega
      have l1 : ∀ q : Later wr, (loadCellsFrom ⟨b, o + k * 32, none⟩ 0 n32 #[]).run Tryz.prog q.w' = .ok (idC (dgt (gt l k))) q.w' := fun q => by rw [HN32.out]; exact load_at HL.out (HGS.out k hkm) (HFr.out.trans q.fr (fun _ _ e => e))
      have cc := HKC.out (gt l k) (HB.out _ (HGM.out k hkm))
      obtain ⟨y, hy⟩ : ∃ y, gt l k = y := ⟨_, rfl⟩
      rw [hy] at l1 cc
      have HY := Lib.hid hy
      obtain ⟨cy, hcy⟩ : ∃ c, idC (dgt y) = c := ⟨_, rfl⟩
      rw [hcy] at l1 cc
      have hwk1 : IntKind.i64.wrap ((k : Int) + 1) = (k : Int) + 1 := by rw [IntKind.wrap_i64]; omega
      have hws : IntKind.i64.wrap ((lo : Int) + (hi : Int)) = (lo : Int) + (hi : Int) := by rw [IntKind.wrap_i64]; omega
      have HK1 : Hid (lo ≤ k ∧ k < hi) := Lib.hid (by omega)
      obtain ⟨r, hr⟩ : ∃ r, cmpN y x = r := ⟨_, rfl⟩
      rw [hr] at cc
      have CC := Lib.hid cc
      have HRr := Lib.hid hr
      clear hy hcy hr cc hk
      by_cases hyx : y < x
      · have hr0 : r = -1 := by rw [← HRr.out, cmpN, if_pos hyx]
        subst hr0
        have HYX := Lib.hid hyx
        clear hyx
        go_upto_region 5 with fail
        refine wp_region_later (w0 := wr) (Fr.refl _ _) (by kernel_rfl) (by kernel_rfl) ?_
        repeat (quiet_step ((go_at_fn 36; refine Calls.later_of (CC.out _))))
        refine wpQuiet_nil ?_
        intro _ hw'
        obtain ⟨q, hw''⟩ := hw'
        subst hw''
        go_wp2_with fail
        go_roundw
        case rel => exact ⟨k + 1, hi, by go_num, rfl, by have := HK1.out; omega, him, Lib.hid (HFr.out.trans q.fr (fun _ _ e => e)), Lib.hid ⟨fun t ht => (by omega : t < k ∨ t = k).elim (fun h1 => by have := HRS.out t k h1 (by rw [HM.out]; exact hkm); rw [HY.out] at this; have := HYX.out; omega) (fun e => by subst e; rw [HY.out]; exact HYX.out), HI.out.2⟩⟩
        case measure => simp [intOf]; have := HK1.out; omega
      · have hr0 : ¬ (r < 0) := by rw [← HRr.out, cmpN, if_neg hyx]; split <;> omega
        have HYX := Lib.hid hyx
        clear hyx
        go_upto_region 5 with fail
        refine wp_region_later (w0 := wr) (Fr.refl _ _) (by kernel_rfl) (by kernel_rfl) ?_
        repeat (quiet_step ((go_at_fn 36; refine Calls.later_of (CC.out _))))
        refine wpQuiet_nil ?_
        intro _ hw'
        obtain ⟨q, hw''⟩ := hw'
        subst hw''
        go_wp2_with fail
        go_roundw
        case rel => exact ⟨lo, k, rfl, by go_num, by have := HK1.out; omega, by omega, Lib.hid (HFr.out.trans q.fr (fun _ _ e => e)), Lib.hid ⟨HI.out.1, fun t h1 h2 => (by omega : k < t ∨ t = k).elim (fun h3 => by have := HRS.out k t h3 (by rw [HM.out]; exact h2); rw [HY.out] at this; have := HYX.out; omega) (fun e => by subst e; rw [HY.out]; have := HYX.out; omega)⟩⟩
        case measure => simp [intOf]; have := HK1.out; omega
    · obtain rfl : lo = hi := by omega
      have hltz : ¬ ((lo : Int) < (lo : Int)) := by omega
      have HH : Hid (Half l x lo) := Lib.hid ⟨by rw [HM.out]; exact him, HI.out.1, fun t h1 h2 => HI.out.2 t h1 (by rw [← HM.out]; exact h2)⟩
      by_cases hlm : lo < m
      · have hlmz : (lo : Int) < (m : Int) := by omega
        obtain ⟨b, o, hBk⟩ := HL.out.some_of (by rw [HM.out]; omega)
        subst hBk
        have hk0 : (0 : Int) ≤ (lo : Int) := by omega
        have l1 : ∀ q : Later wr, (loadCellsFrom ⟨b, o + lo * 32, none⟩ 0 n32 #[]).run Tryz.prog q.w' = .ok (idC (dgt (gt l lo))) q.w' := fun q => by rw [HN32.out]; exact load_at HL.out (HGS.out lo hlm) (HFr.out.trans q.fr (fun _ _ e => e))
        have cc := HKC.out (gt l lo) (HB.out _ (HGM.out lo hlm))
        obtain ⟨y, hy⟩ : ∃ y, gt l lo = y := ⟨_, rfl⟩
        rw [hy] at l1 cc
        have HY := Lib.hid hy
        obtain ⟨cy, hcy⟩ : ∃ c, idC (dgt y) = c := ⟨_, rfl⟩
        rw [hcy] at l1 cc
        obtain ⟨r, hr⟩ : ∃ r, cmpN y x = r := ⟨_, rfl⟩
        rw [hr] at cc
        have CC := Lib.hid cc
        have HRr := Lib.hid hr
        clear hy hcy hr cc
        by_cases hyx : y = x
        · have hr0 : r = 0 := by rw [← HRr.out, cmpN, if_neg (by omega), if_neg (by omega)]
          subst hr0
          have HD : Hid (hitB l x lo = true) := Lib.hid (by unfold hitB; rw [HY.out, HM.out]; exact decide_eq_true ⟨hlm, hyx⟩)
          clear hyx
          go_upto_region 8 with fail
          refine wp_region_later (w0 := wr) (Fr.refl _ _) (by kernel_rfl) (by kernel_rfl) ?_
          repeat (quiet_step ((go_at_fn 36; refine Calls.later_of (CC.out _))))
          refine wpQuiet_nil ?_
          intro _ hw'
          obtain ⟨q, hw''⟩ := hw'
          subst hw''
          go_wp2_with fail
          go_ret2
          exact ⟨lo, by rw [HD.out]; rfl, HH.out, ((HF1.out.trans HFr.out (fun _ _ e => e)).trans q.fr (fun _ _ e => e)).below (fun _ _ e => e)⟩
        · have hr0 : (r == 0) = false := by
            have : r ≠ 0 := by rw [← HRr.out, cmpN]; split; (decide); split; (decide); omega
            simpa using this
          have HD : Hid (hitB l x lo = false) := Lib.hid (by unfold hitB; rw [HY.out, HM.out]; exact decide_eq_false (fun h => hyx h.2))
          clear hyx
          go_upto_region 8 with fail
          refine wp_region_later (w0 := wr) (Fr.refl _ _) (by kernel_rfl) (by kernel_rfl) ?_
          repeat (quiet_step ((go_at_fn 36; refine Calls.later_of (CC.out _))))
          refine wpQuiet_nil ?_
          intro _ hw'
          obtain ⟨q, hw''⟩ := hw'
          subst hw''
          go_wp2_with fail
          go_ret2
          exact ⟨lo, by rw [HD.out]; rfl, HH.out, ((HF1.out.trans HFr.out (fun _ _ e => e)).trans q.fr (fun _ _ e => e)).below (fun _ _ e => e)⟩
      · have hlmz : ¬ ((lo : Int) < (m : Int)) := by omega
        have hdz : decide ((lo : Int) < (m : Int)) = false := decide_eq_false hlmz
        have HD : Hid (hitB l x lo = false) := Lib.hid (by unfold hitB; rw [HM.out]; exact decide_eq_false (fun h => hlm h.1))
        go_upto_region 8 with fail
        go_quiet (fail)
        go_wp2_with fail
        go_ret2
        exact ⟨lo, by rw [HD.out]; rfl, HH.out, ((HF1.out.trans HFr.out (fun _ _ e => e)).drewN _).below (fun _ _ e => e)⟩
end Go.Proofs.YtgbhdjncccmabaaGreatDoor
/- What is proved: Find by the program, of an index that is there and of none. Conditions: its cells are there; its ids rise; its fan-out tells no more than there are. -/
namespace Go.Proofs.YtgbhdjncccmabaaGreatDoor
open Go.RowKit
set_option linter.unusedVariables false

theorem IBSF_pos (A : Option Addr) (c m : Nat) (l : List Nat) (x : Nat) (hm : l.length = m) (hl : m ≤ 1000) (hb : ∀ n ∈ l, n < big) (hx : x < big) (hr : ris l) (w : World) (h : Lies w A (flatI l)) :
    Calls Tryz.prog 35 #[.slice A m c, .agg (idC (dgt x)), .func (.func 36) #[] #[]] w fun e w' => e = .returned (.tuple #[.int .i64 (posN l x), .bool (hasN l x)]) ∧ Below w.heap.size w w' := by
  subst hm
  refine (IBSF_any A c l x hl hb hx hr w h).mono ?_
  rintro e w' ⟨p, rfl, hp, bb⟩
  have : posN l x = p := pos_unique l x p hp.le hp.lo (fun h => hp.hi p (Nat.le_refl _) h)
  subst this
  exact ⟨rfl, bb⟩
theorem elemK (w : World) : (sizeOf (Tryz.prog.elem 73)).run Tryz.prog w = .ok 32 w := by kernel_rfl
theorem underKs : Tryz.prog.underlying 73 = some (.slice (Tryz.prog.elem 73)) := by kernel_rfl
theorem slice_keys (A : Option Addr) (n c lo hi : Nat) (h1 : lo ≤ hi) (h2 : hi ≤ c) (w : World) : (Instr.slice 73 (.slice A n c) (some (.int .u32 lo)) (some (.int .u32 hi)) none).run Tryz.prog w = .ok (.slice (tlA A c lo) (hi - lo) (c - lo)) w := by
  have e := run_slice_lh (P := Tryz.prog) w 73 A n c underKs .u32 .u32 (lo : Int) (hi : Int) (by omega) (by omega) (by omega)
  rw [e, elemK]
  simp [sliced, tlA]
/-- The ids between two numbers of the fan-out. -/
def subI (f : Nat → Nat) (ns : List Nat) (x : Nat) : List Nat := (ns.drop (loF f (b0 x))).take (f (b0 x) - loF f (b0 x))
def fndI (n : Nat) (f ks ss ts : Nat → Nat) (x : Nat) : Pl := if hasN (subI f (keyL n ks) x) x = true then atI n ks ss ts (loF f (b0 x) + posN (subI f (keyL n ks) x) x : Nat) else ⟨0, 0, 0⟩
def fhsI (n : Nat) (f ks : Nat → Nat) (x : Nat) : Bool := hasN (subI f (keyL n ks) x) x
theorem ris_cut {ns : List Nat} (h : ris ns) (a m : Nat) : ris ((ns.drop a).take m) := by
  intro i j hij hj
  rw [List.length_take, List.length_drop] at hj
  have e : ∀ k, k < m → k < ns.length - a → gt ((ns.drop a).take m) k = gt ns (a + k) := fun k h1 h2 => by
    rw [gt, gt, List.getD_eq_getElem?_getD, List.getD_eq_getElem?_getD, List.getElem?_take, if_pos h1, List.getElem?_drop]
  rw [e i (by omega) (by omega), e j (by omega) (by omega)]
  exact h _ _ (by omega) (by omega)

set_option maxHeartbeats 1600000 in
set_option maxRecDepth 100000 in
theorem IFind_nil (x : Nat) (w : World) : Calls Tryz.prog 9 #[.pointer none, .agg (idC (dgt x))] w fun e w' => e = .returned (.tuple #[.agg (Pl.cells ⟨0, 0, 0⟩), .bool false]) ∧ Fr (fun _ => False) w w' := by
  obtain ⟨w0, hw0⟩ : ∃ w0, w.alloc (.cells (idC (dgt x)) 24) = w0 := ⟨_, rfl⟩
  obtain ⟨w1, hw1⟩ : ∃ w1, w0.alloc (.cells zeroPl 43) = w1 := ⟨_, rfl⟩
  have hF0 : Fr (fun _ => False) w w0 := by subst hw0; exact (Fr.refl _ w).alloc _
  have hs0 : w0.heap.size = w.heap.size + 1 := by subst hw0; simp
  have HS0 := Lib.hid hs0
  have HZ := Lib.hid (show Whole w1 w0.heap.size 43 zeroPl from by subst hw1; exact Whole.new w0 43 zeroPl)
  have HF1 := Lib.hid (hF0.trans (show Fr (fun _ => False) w0 w1 from by subst hw1; exact (Fr.refl _ w0).alloc _) (fun _ _ e => e))
  have HZP := Lib.hid zpl
  obtain ⟨cx, hcx⟩ : ∃ c, idC (dgt x) = c := ⟨_, rfl⟩
  rw [hcx] at hw0 ⊢
  unfold zeroPl at hw1
  simp [List.replicate] at hw1
  clear hF0 hs0 hcx
  go_enter Tryz.func9, Tryz.ntmps9
  go_wp2_with (refine wpList_store_at rfl 43 _ _ rfl w0.heap.size 0 43 zeroPl zeroPl rfl rfl HZ.out (by decide) size_pl (by rw [← zpl]; exact plC_one _) ?_; intro w3 hw3 hf3; rw [laidAt_all _ _ rfl] at hw3; have HW3 := Lib.hid hw3; have HF3 := Lib.hid (HF1.out.trans hf3 (fun i hi e => by have := HS0.out; omega)); clear hw3 hf3)
  refine bodyPost_ret (v := .tuple #[.agg zeroPl, .bool false]) (results_cell_slot (p := 4) (u := 5) rfl _ _ _ _ _ _ rfl HW3.out Tryz.underlying43 rfl size_pl) rfl ?_
  exact ⟨by rw [HZP.out], HF3.out⟩

set_option maxHeartbeats 3200000 in
set_option maxRecDepth 100000 in
theorem IFind_any (X n : Nat) (A1 A2 A3 : Option Addr) (c1 c2 c3 : Nat) (f ks ss ts : Nat → Nat) (of x : Nat) (hn : n ≤ 1000) (hts : ∀ j, j < n → ts j < 4294967296) (hx : x < big) (hb : ∀ m ∈ keyL n ks, m < big) (hr : ris (keyL n ks)) (h1 : loF f (b0 x) ≤ f (b0 x)) (h2 : f (b0 x) ≤ n) (w : World) (h : IX w X n A1 c1 A2 c2 A3 c3 f ks ss ts of) :
    Calls Tryz.prog 9 #[.pointer (some ⟨X, 0, none⟩), .agg (idC (dgt x))] w fun e w' => e = .returned (.tuple #[.agg (fndI n f ks ss ts x).cells, .bool (fhsI n f ks x)]) ∧ Fr (fun _ => False) w w' := by
  obtain ⟨w0, hw0⟩ : ∃ w0, w.alloc (.cells (idC (dgt x)) 24) = w0 := ⟨_, rfl⟩
  obtain ⟨w1, hw1⟩ : ∃ w1, w0.alloc (.cells zeroPl 43) = w1 := ⟨_, rfl⟩
  have hF0 : Fr (fun _ => False) w w0 := by subst hw0; exact (Fr.refl _ w).alloc _
  have hF01 : Fr (fun _ => False) w0 w1 := by subst hw1; exact (Fr.refl _ w0).alloc _
  have hs0 : w0.heap.size = w.heap.size + 1 := by subst hw0; simp
  have hXI : Whole w1 w.heap.size 24 (idC (dgt x)) := by subst hw0; exact (Whole.new w 24 _).fr hF01 (fun e => e)
  have HS0 := Lib.hid hs0
  have HZ := Lib.hid (show Whole w1 w0.heap.size 43 zeroPl from by subst hw1; exact Whole.new w0 43 zeroPl)
  have hF1 := hF0.trans hF01 (fun _ _ e => e)
  have HF1 := Lib.hid hF1
  have HX := Lib.hid (h.fr hF1)
  have HZP := Lib.hid zpl
  have HXI := Lib.hid hXI
  have HSP := Lib.hid (fun w => Ispan_any f (b0 x) (b0_lt x) w)
  have hsub : subI f (keyL n ks) x = ((keyL n ks).drop (loF f (b0 x))).take (f (b0 x) - loF f (b0 x)) := rfl
  have hsl : (subI f (keyL n ks) x).length = f (b0 x) - loF f (b0 x) := by rw [hsub, List.length_take, List.length_drop, keyL_len]; omega
  have hsb : ∀ m ∈ subI f (keyL n ks) x, m < big := fun m hm => hb m (List.mem_of_mem_drop (List.mem_of_mem_take hm))
  have hsr : ris (subI f (keyL n ks) x) := ris_cut hr _ _
  have hfn : fndI n f ks ss ts x = if hasN (subI f (keyL n ks) x) x = true then atI n ks ss ts (loF f (b0 x) + posN (subI f (keyL n ks) x) x : Nat) else ⟨0, 0, 0⟩ := rfl
  have hfh : fhsI n f ks x = hasN (subI f (keyL n ks) x) x := rfl
  have hple := pos_le (subI f (keyL n ks) x) x
  have hslk : ∀ w, (Instr.slice 73 (.slice A1 n c1) (some (.int .u32 (loF f (b0 x) : Nat))) (some (.int .u32 (f (b0 x) : Nat))) none).run Tryz.prog w = .ok (.slice (tlA A1 c1 (loF f (b0 x))) (f (b0 x) - loF f (b0 x)) (c1 - loF f (b0 x))) w := fun w => slice_keys A1 n c1 _ _ h1 (Nat.le_trans h2 h.c) w
  have hLs : ∀ q : Later w1, Lies q.w' (tlA A1 c1 (loF f (b0 x))) (flatI (subI f (keyL n ks) x)) := fun q => by
    have := ((HX.out.k.fr q.fr (fun _ _ e => e)).tl c1 (loF f (b0 x)) (by rw [keyL_len]; exact HX.out.c)).take ((f (b0 x) - loF f (b0 x)) * 32)
    rwa [← flatI_take] at this
  have HBS := Lib.hid (fun q : Later w1 => IBSF_pos (tlA A1 c1 (loF f (b0 x))) (c1 - loF f (b0 x)) (f (b0 x) - loF f (b0 x)) (subI f (keyL n ks) x) x hsl (by omega) hsb hx hsr q.w' (hLs q))
  have HAT := Lib.hid (fun (k : Int) (w' : World) (h' : IX w' X n A1 c1 A2 c2 A3 c3 f ks ss ts of) => IAt_any X n A1 A2 A3 c1 c2 c3 f ks ss ts of k hn hts w' h')
  obtain ⟨T32, hT32⟩ : ∃ T : TypeId, T = 24 := ⟨_, rfl⟩
  obtain ⟨n32, hn32⟩ : ∃ n : Nat, n = 32 := ⟨_, rfl⟩
  have ag32 : ∀ w, (isAgg T32).run Tryz.prog w = .ok true w := by rw [hT32]; exact fun _ => by kernel_rfl
  have sz32 : ∀ w, (sizeOf T32).run Tryz.prog w = .ok n32 w := by rw [hT32, hn32]; exact fun _ => by kernel_rfl
  obtain ⟨TF, hTF⟩ : ∃ T : TypeId, T = 72 := ⟨_, rfl⟩
  obtain ⟨n256, h256⟩ : ∃ n : Nat, n = 256 := ⟨_, rfl⟩
  have agF : ∀ w, (isAgg TF).run Tryz.prog w = .ok true w := by rw [hTF]; exact fun _ => by kernel_rfl
  have szF : ∀ w, (sizeOf TF).run Tryz.prog w = .ok n256 w := by rw [hTF, h256]; exact fun _ => by kernel_rfl
  have lX : ∀ q : Later w1, (loadCellsFrom ⟨w.heap.size, 0, none⟩ 0 n32 #[]).run Tryz.prog q.w' = .ok (idC (dgt x)) q.w' := fun q => load_later hXI (by rw [idC_size]; exact hn32) (Fr.refl _ w1) q
  have lF : ∀ q : Later w1, (loadCellsFrom ⟨X, 0, none⟩ 0 n256 #[]).run Tryz.prog q.w' = .ok (fanC f) q.w' := fun q => load_fan (HX.out.x.fr q.fr (fun e => e)) n256 h256
  have x1 : ∀ q : Later w1, q.w'.cell? ⟨X, 256, none⟩ = some (.slice A1 n c1) := fun q => by rw [(HX.out.x.fr q.fr (fun e => e)).cell]; exact idxC_mid _ _ _ _ _ 0 (by decide)
  have b1 : ∀ q : Later w1, q.w'.cell? ⟨w.heap.size, 0, none⟩ = some (.int .u8 (b0 x : Nat)) := fun q => by rw [(hXI.fr q.fr (fun e => e)).cell, idC_get _ 0 (by decide)]; rfl
  obtain ⟨P, hP⟩ : ∃ P, posN (subI f (keyL n ks) x) x = P := ⟨_, rfl⟩
  obtain ⟨hs, hhs⟩ : ∃ h, hasN (subI f (keyL n ks) x) x = h := ⟨_, rfl⟩
  rw [hP, hhs] at HBS hfn
  rw [hhs] at hfh
  rw [hP, hsl] at hple
  rw [hfh]
  have HFN := Lib.hid hfn
  obtain ⟨lo, hlo⟩ : ∃ l, loF f (b0 x) = l := ⟨_, rfl⟩
  obtain ⟨hi, hhi⟩ : ∃ l, f (b0 x) = l := ⟨_, rfl⟩
  rw [hlo, hhi] at HSP HBS hslk hple
  rw [hlo] at HFN h1
  rw [hhi] at h1 h2
  obtain ⟨B, hB⟩ : ∃ B, b0 x = B := ⟨_, rfl⟩
  rw [hB] at b1 HSP
  obtain ⟨TA, hTA⟩ : ∃ T, tlA A1 c1 lo = T := ⟨_, rfl⟩
  rw [hTA] at HBS hslk
  obtain ⟨d, hd⟩ : ∃ d, hi - lo = d := ⟨_, rfl⟩
  obtain ⟨c4, hc4⟩ : ∃ d, c1 - lo = d := ⟨_, rfl⟩
  rw [hd, hc4] at HBS hslk
  obtain ⟨FA, hFA⟩ : ∃ F, fanC f = F := ⟨_, rfl⟩
  rw [hFA] at lF HSP
  obtain ⟨cx, hcx⟩ : ∃ c, idC (dgt x) = c := ⟨_, rfl⟩
  rw [hcx] at hw0 lX HBS ⊢
  have hwlo : IntKind.i64.wrap (lo : Int) = lo := by rw [IntKind.wrap_i64]; omega
  have hwlp : IntKind.i64.wrap ((lo : Int) + (P : Int)) = (lo : Int) + (P : Int) := by rw [IntKind.wrap_i64]; omega
  unfold zeroPl at hw1
  simp [List.replicate] at hw1
  clear h hF0 hF01 hs0 hF1 hXI hsub hsl hsb hsr hfn hfh hple hLs hP hhs hlo hhi hB hTA hd hc4 hFA hcx hn32 h256 hn hts hx hb hr
  go_enter Tryz.func9, Tryz.ntmps9
  rw [show Op.load 72 (.tmp 16) = Op.load TF (.tmp 16) by rw [hTF], show Op.load 24 (.tmp 3) = Op.load T32 (.tmp 3) by rw [hT32]]
  clear hTF hT32
  go_upto_region 3 with fail
  refine wp_region_later (w0 := w1) (Fr.refl _ _) (by kernel_rfl) (by kernel_rfl) ?_
  repeat (quiet_step ((go_at_call 34; refine Calls.later_of (HSP.out _))))
  refine wpQuiet_nil ?_
  intro _ hw'
  obtain ⟨q, hw''⟩ := hw'
  subst hw''
  go_upto_region 4 with fail
  refine wp_region_later (w0 := w1) q.fr (by kernel_rfl) (by kernel_rfl) ?_
  repeat (quiet_step ((go_at_call 35; refine Calls.later_of (HBS.out _))))
  refine wpQuiet_nil ?_
  intro _ hw'
  obtain ⟨q2, hw''⟩ := hw'
  subst hw''
  have HX2 := Lib.hid (HX.out.fr q2.fr)
  have HF2 := Lib.hid (HF1.out.trans q2.fr (fun _ _ e => e))
  have HZ2 := Lib.hid (HZ.out.fr q2.fr (fun e => e))
  obtain ⟨w2, hw2⟩ : ∃ w2, q2.w' = w2 := ⟨_, rfl⟩
  rw [hw2] at HX2 HF2 HZ2 ⊢
  clear hw2 lX lF x1 b1
  cases hs
  · have HN : Hid (fndI n f ks ss ts x = ⟨0, 0, 0⟩) := Lib.hid (by rw [HFN.out]; rfl)
    go_wp2_with (refine wpList_store_at rfl 43 _ _ rfl w0.heap.size 0 43 zeroPl zeroPl rfl rfl HZ2.out (by decide) size_pl (by rw [← zpl]; exact plC_one _) ?_; intro w3 hw3 hf3; rw [laidAt_all _ _ rfl] at hw3; have HW3 := Lib.hid hw3; have HF3 := Lib.hid (HF2.out.trans hf3 (fun i hi e => by have := HS0.out; omega)); clear hw3 hf3)
    refine bodyPost_ret (v := .tuple #[.agg zeroPl, .bool false]) (results_cell_slot (p := 4) (u := 5) rfl _ _ _ _ _ _ rfl HW3.out Tryz.underlying43 rfl size_pl) rfl ?_
    exact ⟨by rw [HN.out, HZP.out], HF3.out⟩
  · have HN : Hid (fndI n f ks ss ts x = atI n ks ss ts (lo + P : Nat)) := Lib.hid (by rw [HFN.out]; rfl)
    have HAq := HAT.out ((lo : Int) + (P : Int)) w2 HX2.out
    rw [show ((lo : Int) + (P : Int)) = ((lo + P : Nat) : Int) by omega, ← HN.out] at HAq
    rw [show ((lo + P : Nat) : Int) = (lo : Int) + (P : Int) by omega] at HAq
    have HA2 := Lib.hid HAq
    have HPS := Lib.hid (plC_size (fndI n f ks ss ts x))
    have HPO := Lib.hid (plC_one (fndI n f ks ss ts x))
    obtain ⟨pc, hpc⟩ : ∃ c, (fndI n f ks ss ts x).cells = c := ⟨_, rfl⟩
    rw [hpc] at HA2 HPS HPO
    have HPC := Lib.hid hpc
    clear hpc HAq
    go_wp2_with (first
      | (go_at_call 37; refine HA2.out.mono ?_; rintro e w3 ⟨rfl, f3⟩; have HF3 := Lib.hid (HF2.out.trans f3 (fun _ _ e => e)); have HZ3 := Lib.hid (HZ2.out.fr f3 (fun e => e)); clear f3)
      | (refine wpList_store_at rfl 43 _ _ rfl w0.heap.size 0 43 zeroPl pc rfl rfl HZ3.out (by rw [HPS.out]; decide) (by rw [HPS.out]; exact size_pl) HPO.out ?_; intro w4 hw4 hf4; rw [laidAt_all _ _ (by rw [HPS.out]; rfl)] at hw4; have HW4 := Lib.hid hw4; have HF4 := Lib.hid (HF3.out.trans hf4 (fun i hi e => by have := HS0.out; omega)); clear hw4 hf4))
    refine bodyPost_ret (v := .tuple #[.agg pc, .bool true]) (results_cell_slot (p := 4) (u := 5) rfl _ _ _ _ _ _ rfl HW4.out Tryz.underlying43 rfl (by rw [HPS.out]; exact size_pl)) rfl ?_
    exact ⟨by rw [HPC.out], HF4.out⟩
end Go.Proofs.YtgbhdjncccmabaaGreatDoor

/- What is proved: the walk of the law RevGets, for all bytes. Conditions: the bytes' cells are there; the library's table lies as its text lays it. -/
import Derived.Test.YtppddpbacpeadaaDoorRwf
import Derived.Test.YtppddpbacpeadaaDoorRwh
namespace Go.Proofs.YtppddpbacpeadaaDoor
open Go.RowKit Go.Sort Go.Shelf
open Ids (idC dgt big idC_size idC_get idC_one cellD zero32 size32 dgt_lt hexB)
set_option linter.unusedVariables false

theorem own_none1 (w : World) : (w.alloc (.cells #[] 5)).ownsRow w.heap.size 5 1 (.slice (some ⟨w.heap.size, 0, none⟩) 0 0) 0 [] :=
  World.ownsRow_made w #[] 0 (Nat.le_refl _) (Nat.zero_le _) rfl
theorem own_copyB {w1 wa : World} {vO : Value} {l : List UInt8} {L : Nat} (hL : l.length = L) (o1 : wa.ownsRow w1.heap.size 5 1 vO (0 + L) ([] ++ bytesV l)) (g1 : (w1.alloc (.cells #[] 5)).grownBy wa (Value.slice (some ⟨w1.heap.size, 0, none⟩) 0 0).ownBlock) : ∃ A c, vO = .slice A L c ∧ L ≤ c ∧ Lies wa A (bytesV l) ∧ Fr (fun _ => False) w1 wa := by
  have f : Fr (fun _ => False) w1 wa := fr_append (own_none1 w1) ((Fr.refl (fun _ => False) w1).alloc _) g1
  have h : OwnB w1 wa vO l := ⟨by rw [hL]; simpa using o1, f⟩
  obtain ⟨A, c, hv, hc, hl, _, _⟩ := h.slice
  exact ⟨A, c, by rw [hv, hL], by omega, hl, h.2⟩
theorem getR_props (l : List UInt8) : (getR l).1.ps.length ≤ l.length ∧ (∀ n ∈ (getR l).1.ps, n < big) ∧ (getR l).1.a.length ≤ l.length ∧ (getR l).1.t.length ≤ l.length ∧ (getR l).1.T < big := by
  have hz : zeroP.ps.length ≤ l.length ∧ (∀ n ∈ zeroP.ps, n < big) ∧ zeroP.a.length ≤ l.length ∧ zeroP.t.length ≤ l.length ∧ zeroP.T < big := ⟨Nat.zero_le _, by simp [zeroP], Nat.zero_le _, Nat.zero_le _, by decide⟩
  rw [getR]
  cases h : revL l with
  | none => exact hz
  | some R =>
    have hp := revL_props h
    by_cases h0 : chkE R.ps R.a R.n R.t = 0
    · rw [getC_ok h0]; exact ⟨hp.1, hp.2.1, hp.2.2.1, hp.2.2.2.1, hp.2.2.2.2.2⟩
    · rw [getC_bad h0]; exact hz
set_option maxHeartbeats 6400000 in
set_option maxRecDepth 100000 in
theorem gets_walk (A : Option Addr) (cap : Nat) (bs : List UInt8) (hcap : bs.length ≤ cap) (w : World) (hl : Lies w A (bytesV bs)) (hTab : Tab10 w) :
    Calls Tryd.prog 4 #[.slice A bs.length cap] w fun e w' => e = .returned (.bool true) ∧ Below w.heap.size w w' := by
  have HL := Lib.hid (fun w' (f : Fr (fun _ => False) w w') => hl.fr f (fun _ _ e => e))
  have C9 := Lib.hid (fun w' (f : Fr (fun _ => False) w w') => works7_any w' (hTab.fr f))
  by_cases hbig : 2000 < bs.length
  · have hgt : (2000 : Int) < (bs.length : Int) := by omega
    obtain ⟨L, hL⟩ : ∃ L, bs.length = L := ⟨_, rfl⟩
    rw [hL] at hgt ⊢
    clear hL hl hbig HL hcap hTab
    go_enter Tryd.func4, Tryd.ntmps4
    go_wp2_with (go_at_call 17; refine (C9.out _ (Fr.refl _ _)).mono ?_; rintro e w2 ⟨rfl, b2⟩)
    go_ret
    exact ⟨rfl, b2⟩
  · obtain ⟨i0, hi, hz0, hz1, hz2⟩ := info_parts info_u8
    have hpr := getR_props bs
    have C1 := Lib.hid (fun w' A c (h : Lies w' A (bytesV bs)) => VGet_any A c bs (by omega) w' h)
    have C2 := Lib.hid (fun w' A c (h : Lies w' A (bytesV bs)) => QvGet_any A c bs (by omega) w' h)
    have C4 := Lib.hid (fun w' A B c d (h : Lies w' A (bytesV bs)) (h2 : Lies w' B (bytesV bs)) => Same_any A B c d bs bs w' h h2)
    rw [beq_self_eq_true] at C4
    obtain ⟨X, hX⟩ : ∃ X, getR bs = X := ⟨_, rfl⟩
    rw [hX] at C1 C2 hpr
    unfold GetPost at C2
    obtain ⟨⟨T, ps, a, n, t⟩, E⟩ := X
    simp only [] at C1 C2 hpr
    have C3 := Lib.hid (fun w' A B c d (h : Lies w' A (flatI ps)) (h2 : Lies w' B (flatI ps)) => QvSame_any T T hpr.2.2.2.2 hpr.2.2.2.2 A B c d ps ps a a n n t t hpr.2.1 hpr.2.1 (by omega) w' h h2)
    rw [sameR_self] at C3
    obtain ⟨N, hN⟩ : ∃ N : Int, ((n : Nat) : Int) = N := ⟨_, rfl⟩
    rw [hN] at C1 C2 C3
    have HSZ := Lib.hid (fun A c => revC_size T (.slice A ps.length c) a N t)
    have HON := Lib.hid (fun A c => revC_one T (.slice A ps.length c) a N t rfl)
    obtain ⟨K, hK⟩ : ∃ K, ps.length = K := ⟨_, rfl⟩
    have HKn := Lib.hid hK
    rw [hK] at C3 HSZ HON
    obtain ⟨L, hL⟩ : ∃ L, bs.length = L := ⟨_, rfl⟩
    have HLn := Lib.hid hL
    rw [hL] at C1 C2 C4 hbig ⊢
    have hle : ¬ ((2000 : Int) < (L : Int)) := by omega
    clear hL hl hX hN hK hcap hTab hpr
    go_enter Tryd.func4, Tryd.ntmps4
    go_wp2_with (first
      | (go_at_call 17; refine (C9.out _ Fg.out.1).mono ?_; rintro e wh ⟨rfl, bh⟩)
      | (go_at_call 12; refine (C4.out wg _ _ _ _ (hlO.fr Fg.out.2 (fun _ _ e => e)) (HL.out wg Fg.out.1)).mono ?_; rintro e wz ⟨rfl, rfl⟩)
      | (go_at_call 20; have c3 := C3.out we _ _ c1 c2 (L1.fr Fe.out.2.2 (fun _ _ e => e)) L2'; rw [HC1.out, HC2.out] at c3; refine c3.mono ?_; rintro e wg ⟨rfl, bg⟩
         have Fg := Lib.hid (And.intro (Fe.out.1.then_below bg) (Fe.out.2.1.then_below bg))
         clear bg)
      | (have _ := M4; refine wpList_load_row rfl 26 _ rfl wd.heap.size rfl 26 cr2 _ _ W2.out Tryd.underlying26 rfl (by rw [hs2]; exact size36) ?_)
      | (have _ := M4; refine wpList_load_row rfl 26 _ rfl wb.heap.size rfl 26 cr1 _ _ (W1.out.fr Fe.out.2.2 (fun e => e)) Tryd.underlying26 rfl (by rw [hs1]; exact size36) ?_)
      | (have _ := M3; refine wpList_store_at rfl 26 _ _ rfl wd.heap.size 0 26 zeroR cr2 rfl rfl (Whole.new wd 26 zeroR) (by rw [hs2]; decide) (by rw [hs2]; exact size36) ho2 ?_
         intro we hwe hfe
         rw [laidAt_all _ _ (by rw [hs2]; rfl)] at hwe
         have W2 := Lib.hid hwe
         have fde : Fr (fun _ => False) wd we := ((Fr.refl (fun _ => False) wd).alloc (.cells zeroR 26)).trans hfe (fun i hi e => by omega)
         have Fe := Lib.hid (And.intro (Fd.out.1.trans fde (fun _ _ e => e)) (And.intro (Fd.out.2.1.trans fde (fun _ _ e => e)) (Fd.out.2.2.trans fde (fun _ _ e => e))))
         have L2' := L2.fr fde (fun _ _ e => e)
         have M4 := True.intro
         clear hwe hfe fde)
      | (refine wpList_store_at rfl 26 _ _ rfl wb.heap.size 0 26 zeroR cr1 rfl rfl (Whole.new wb 26 zeroR) (by rw [hs1]; decide) (by rw [hs1]; exact size36) ho1 ?_
         intro wc hwc hfc
         rw [laidAt_all _ _ (by rw [hs1]; rfl)] at hwc
         have W1 := Lib.hid hwc
         have fbc : Fr (fun _ => False) wb wc := ((Fr.refl (fun _ => False) wb).alloc (.cells zeroR 26)).trans hfc (fun i hi e => by omega)
         have Fc := Lib.hid (And.intro (Fb.out.1.trans fbc (fun _ _ e => e)) (Fb.out.2.trans fbc (fun _ _ e => e)))
         have L1 := L1a.fr fbc (fun _ _ e => e)
         clear hwc hfc fbc)
      | (go_at_call 19; refine (C2.out wc _ _ (HL.out wc Fc.out.1)).mono ?_; rintro e wd ⟨v2, rfl, o2⟩
         obtain ⟨A2, c2, hv2, _, _, _, L2⟩ := o2.slice
         subst hv2
         rw [HKn.out]
         have hs2 := HSZ.out A2 c2
         have ho2 := HON.out A2 c2
         have Fd := Lib.hid (And.intro (Fc.out.1.trans o2.2 (fun _ _ e => e)) (And.intro (Fc.out.2.trans o2.2 (fun _ _ e => e)) o2.2))
         obtain ⟨cr2, hcr2⟩ : ∃ c, revC T (.slice A2 K c2) a N t = c := ⟨_, rfl⟩
         rw [hcr2] at hs2 ho2 ⊢
         have HC2 := Lib.hid hcr2
         have M3 := True.intro
         clear o2 hcr2)
      | (go_at_call 18; refine (C1.out wa _ _ hlO).mono ?_; rintro e wb ⟨v1, rfl, o1⟩
         obtain ⟨A1, c1, hv1, _, _, _, L1a⟩ := o1.slice
         subst hv1
         rw [HKn.out]
         have hs1 := HSZ.out A1 c1
         have ho1 := HON.out A1 c1
         have Fb := Lib.hid (And.intro (Fa.out.trans o1.2 (fun _ _ e => e)) o1.2)
         obtain ⟨cr1, hcr1⟩ : ∃ c, revC T (.slice A1 K c1) a N t = c := ⟨_, rfl⟩
         rw [hcr1] at hs1 ho1 ⊢
         have HC1 := Lib.hid hcr1
         clear o1 hcr1)
      | (at_builtin; refine wpList_append_row _ rfl (.tmp 12) (.tmp 13) 27 27 rfl w.heap.size 5 i0 (.int .u8 0) 1 1 Tryd.underlying27 hi hz0 hz1 hz2 rfl (.slice (some ⟨w.heap.size, 0, none⟩) 0 0) 0 [] rfl (own_none1 w) (.slice A L cap) L (bytesV bs) rfl (Lies.srcB (HL.out _ ((Fr.refl (fun _ => False) w).alloc _)) HLn.out cap) (by unfold maxLen; omega) (by omega) (by simp) ?_
         intro vO wa o1 g1 at1
         obtain ⟨AO, cO, rfl, hcO, hlO, hfO⟩ := own_copyB HLn.out o1 g1
         have Fa := Lib.hid hfO
         clear o1 g1 at1 hfO))
    go_ret
    exact ⟨rfl, (Fg.out.1.then_below bh).below (fun _ _ e => e)⟩
end Go.Proofs.YtppddpbacpeadaaDoor

/- What is proved: the walk of the law ObjectSplits, for all bytes. Conditions: the library's table lies as its text lays it; the bytes' cells are there. -/
import Derived.Test.YtnnafiajfapenaaGreatDoorObj
import Derived.Test.YtnnafiajfapenaaGreatDoorObf
import Derived.Laws.OwnMore
namespace Go.Proofs.YtnnafiajfapenaaGreatDoor
open Go.RowKit Go.Sort Go.Shelf
set_option linter.unusedVariables false

/-- Cells that are bytes, whichever. -/
def ByteRow (xs : List Value) : Prop := ∀ (j : Nat) (u : Value), xs[j]? = some u → ∃ v : Int, u = .int .u8 v
theorem ByteRow.of (l : List UInt8) : ByteRow (bytesV l) := fun j u hu => by
  rw [bytesV, List.getElem?_map] at hu
  cases h : l[j]? with
  | none => rw [h] at hu; cases hu
  | some x => rw [h] at hu; injection hu with hu; exact ⟨_, hu.symm⟩
theorem ByteRow.set {xs : List Value} (h : ByteRow xs) (i : Nat) (v : Int) : ByteRow (xs.set i (.int .u8 v)) := fun j u hu => by
  by_cases hij : i = j
  · subst hij
    rw [List.getElem?_set_self (by have := (List.getElem?_eq_some_iff.1 hu).1; rwa [List.length_set] at this)] at hu
    injection hu with hu
    exact ⟨v, hu.symm⟩
  · rw [List.getElem?_set_ne hij] at hu
    exact h j u hu
set_option maxHeartbeats 6400000 in
set_option maxRecDepth 100000 in
theorem splits_walk (A : Option Addr) (c : Nat) (b : List UInt8) (hcap : b.length ≤ c) (w : World) (hl : Lies w A (bytesV b)) (hTab : Tab10 w) :
    Calls Tryz.prog 4 #[.slice A b.length c] w fun e w' => e = .returned (.bool true) ∧ Below w.heap.size w w' := by
  have HL := Lib.hid (fun w' (f : Fr (fun _ => False) w w') => hl.fr f (fun _ _ e => e))
  have C9 := Lib.hid (fun w' (f : Fr (fun _ => False) w w') => works8_any w' (hTab.fr f))
  by_cases hbig : 5000 < b.length
  · have hgt : (5000 : Int) < (b.length : Int) := by omega
    obtain ⟨L, hL⟩ : ∃ L, b.length = L := ⟨_, rfl⟩
    rw [hL] at hgt ⊢
    clear hL hl hbig HL hcap hTab
    go_enter Tryz.func4, Tryz.ntmps4
    go_wp2_with (go_at_call 7; refine (C9.out _ (Fr.refl _ _)).mono ?_; rintro e w2 ⟨rfl, f2⟩)
    go_ret
    exact ⟨rfl, f2.below (fun _ _ e => e)⟩
  · obtain ⟨i0, hi, hz0, hz1, hz2⟩ := info_parts info_u8
    have C1 := Lib.hid (fun w' A c (hc : b.length ≤ c) (h : Lies w' A (bytesV b)) => ObSplit_any A c b hc (by omega) w' h)
    have C2 := Lib.hid (fun w' (f : Fr (fun _ => False) w w') => QbSplit_any A c b hcap (by omega) w' (HL.out w' f))
    have C4 := Lib.hid (fun w' A B c d (h : Lies w' A (bytesV b)) (h2 : Lies w' B (bytesV b)) => Same_any A B c d b b w' h h2)
    rw [beq_self_eq_true] at C4
    obtain ⟨Y, hY⟩ : ∃ Y, splitB b = Y := ⟨_, rfl⟩
    rw [hY] at C1 C2
    unfold SplitPost at C2
    obtain ⟨k, R, r⟩ := Y
    simp only [] at C1 C2
    have C5 := Lib.hid (fun w' A B c d (h : Lies w' A (bytesV R)) (h2 : Lies w' B (bytesV R)) => Same_any A B c d R R w' h h2)
    rw [beq_self_eq_true] at C5
    have HBR := Lib.hid (ByteRow.of b)
    have HBL := Lib.hid (bytesV_length b)
    obtain ⟨RL, hRL⟩ : ∃ x, R.length = x := ⟨_, rfl⟩
    rw [hRL] at C1 C2 C5
    obtain ⟨L, hL⟩ : ∃ L, b.length = L := ⟨_, rfl⟩
    have HLn := Lib.hid hL
    rw [hL] at C1 C2 C4 HBL hbig hcap ⊢
    have hle : ¬ ((5000 : Int) < (L : Int)) := by omega
    clear hL hl hY hRL hTab
    go_enter Tryz.func4, Tryz.ntmps4
    go_wp2_with (first
      | (go_at_call 10; refine (C4.out _ _ _ _ _ (LO.out.fr F3.out (fun _ _ e => e)) (HL.out _ (FO.out.trans F3.out (fun _ _ e => e)))).mono ?_; rintro e w' ⟨rfl, rfl⟩)
      | (go_at_call 18; refine (C2.out w2 (FO.out.trans F2.out (fun _ _ e => e))).mono ?_; rintro e w3 ⟨A3, c3, rfl, hc3, hl3, hb3, f3⟩; have L3 := Lib.hid hl3; have B3 := Lib.hid hb3; have L2' := Lib.hid (L2.out.fr f3 (fun _ _ e => e)); have F23 := Lib.hid f3; have F3 := Lib.hid (F2.out.trans f3 (fun _ _ e => e)); clear hc3 hl3 hb3 f3)
      | (go_at_call 17; refine (C1.out wa _ _ HCO.out LO.out).mono ?_; rintro e w2 ⟨A2, c2, rfl, hc2, hl2, hb2, f2⟩; have L2 := Lib.hid hl2; have B2 := Lib.hid hb2; have F2 := Lib.hid f2; clear hc2 hl2 hb2 f2)
      | (at_builtin
         refine wpList_append_row _ rfl (.tmp 16) (.tmp 17) 22 22 rfl w.heap.size 5 i0 (.int .u8 0) 1 1 Tryz.underlying22 hi hz0 hz1 hz2 rfl (.slice (some ⟨w.heap.size, 0, none⟩) 0 0) 0 [] rfl (own_none1 w) (.slice A L c) L (bytesV b) rfl (Lies.srcB (HL.out _ ((Fr.refl (fun _ => False) w).alloc _)) HLn.out c) (by unfold maxLen; omega) (by omega) (by simp) ?_
         intro vO wa o1 g1 at1
         have OW := Lib.hid o1
         obtain ⟨AO, cO, rfl, hcO, hlO, hfO⟩ := own_copyB HLn.out o1 g1
         have FO := Lib.hid hfO
         have LO := Lib.hid hlO
         have HCO := Lib.hid hcO
         clear o1 g1 at1 hfO hlO hcO))
    have HOW : Hid (wa.ownsRow w.heap.size 5 1 (.slice AO L cO) L (bytesV b)) := Lib.hid (by have := OW.out; rwa [List.nil_append, Nat.zero_add] at this)
    have HF3 := Lib.hid (FO.out.trans F3.out (fun _ _ e => e))
    have hsz3 : wa.heap.size ≤ w2.heap.size := F2.out.size
    have hszw : w.heap.size ≤ wa.heap.size := FO.out.size
    clear OW
    by_cases hL0 : L = 0
    · subst hL0
      go_loopg [11] 0 (fun kx s11 wr => s11 = .int .i64 0 ∧ w3 = wr)
      case atStart => exact ⟨rfl, rfl⟩
      case round =>
        obtain ⟨rfl, rfl⟩ := hrel
        have hz : ¬ (0 : Int) < ((0 : Nat) : Int) := by omega
        go_wp2_with (first
          | (go_at_call 10; refine (C5.out _ _ _ _ _ L2'.out L3.out).mono ?_; rintro e w' ⟨rfl, rfl⟩)
          | (go_at_call 7; refine (C9.out _ HF3.out).mono ?_; rintro e w5 ⟨rfl, f5⟩))
        go_ret
        exact ⟨rfl, (HF3.out.trans f5 (fun _ _ e => e)).below (fun _ _ e => e)⟩
    · obtain ⟨g, rfl, hgb, hgl⟩ : ∃ g, AO = some ⟨g, 0, none⟩ ∧ w.heap.size ≤ g ∧ g < wa.heap.size := by
        rcases HOW.out.2 with ⟨_, h0⟩ | ⟨g, cap, cur, hv, hb, hg, _⟩
        · exact absurd h0 hL0
        · injection hv with hv1
          exact ⟨g, hv1, hb, (Array.getElem?_eq_some_iff.1 hg).1⟩
      have HO3 := Lib.hid (own_fr HOW.out F3.out (fun _ _ e => e))
      have HLo : Hid (∀ w', Fr (fun k => k = g) w3 w' → Lies w' A2 (bytesV R) ∧ Lies w' A3 (bytesV R)) := Lib.hid (fun w' f => ⟨L2'.out.fr f (fun ad e h => by have := B2.out ad e; omega), L3.out.fr f (fun ad e h => by have := B3.out ad e; omega)⟩)
      have HEnd : Hid (∀ w', Fr (fun k => k = g) w3 w' → Fr (fun _ => False) w w') := Lib.hid (fun w' f => HF3.out.trans f (fun i hi e => by omega))
      go_loopg [11] L (fun kx s11 wr => ∃ (j : Nat) (xs : List Value), s11 = .int .i64 j ∧ j ≤ L ∧ L - j ≤ kx ∧ Fr (fun k => k = g) w3 wr ∧ wr.ownsRow w.heap.size 5 1 (.slice (some ⟨g, 0, none⟩) L cO) L xs ∧ Hid (ByteRow xs))
      case atStart => exact ⟨0, bytesV b, rfl, by omega, by omega, Fr.refl _ _, HO3.out, HBR⟩
      case round =>
        obtain ⟨j, xs, rfl, hj, hjx, hfr, how, HX⟩ := hrel
        by_cases hlt : j < L
        · have hltz : (j : Int) < (L : Int) := by omega
          obtain ⟨v, hc⟩ : ∃ v : Int, wr.cell? ⟨g, j, none⟩ = some (.int .u8 v) := by
            have h1 := World.ownsRow.cellAt how j (by omega)
            have hx : j < xs.length := by rw [how.1]; omega
            rw [List.getElem?_eq_getElem hx] at h1
            obtain ⟨v, hv⟩ := HX.out j _ (List.getElem?_eq_getElem hx)
            exact ⟨v, by rw [h1, hv]⟩
          have hz := World.ownsRow.frozenAt how j
          have wj : IntKind.i64.wrap ((j : Int) + 1) = (j : Int) + 1 := by rw [IntKind.wrap_i64]; omega
          have HFR := Lib.hid hfr
          have HOWN := Lib.hid how
          clear hfr how
          go_wp2_with fail
          go_roundg (gk - 1)
          case measure => omega
          case rel => exact ⟨j + 1, _, by simp, by omega, by omega, HFR.out.setCell (fun _ => rfl) _, (World.ownsRow.stored HOWN.out j _).1, Lib.hid (HX.out.set j _)⟩
        · obtain rfl : j = L := by omega
          have hltz : ¬ (j : Int) < (j : Int) := by omega
          have HFE := Lib.hid (HEnd.out _ hfr)
          obtain ⟨l2, l3⟩ := HLo.out _ hfr
          have HL2 := Lib.hid l2
          have HL3 := Lib.hid l3
          clear l2 l3 hfr how
          go_wp2_with (first
            | (go_at_call 10; refine (C5.out _ _ _ _ _ HL2.out HL3.out).mono ?_; rintro e w' ⟨rfl, rfl⟩)
            | (go_at_call 7; refine (C9.out _ HFE.out).mono ?_; rintro e w5 ⟨rfl, f5⟩))
          go_ret
          exact ⟨rfl, (HFE.out.trans f5 (fun _ _ e => e)).below (fun _ _ e => e)⟩
end Go.Proofs.YtnnafiajfapenaaGreatDoor

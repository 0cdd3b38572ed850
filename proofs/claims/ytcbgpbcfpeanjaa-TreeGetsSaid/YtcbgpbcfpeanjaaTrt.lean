/- What is proved: the walk of the law TreeChecks, for every list. Conditions: the list's cells are there. -/
import Derived.Test.YtcbgpbcfpeanjaaTrs
namespace Go.Proofs.Ytcbgpbcfpeanjaa
open Go.RowKit Go.Sort Go.Shelf
set_option linter.unusedVariables false

theorem own_none34 (w : World) : (w.alloc (.cells #[] 45)).ownsRow w.heap.size 45 34 (.slice (some ⟨w.heap.size, 0, none⟩) 0 0) 0 [] :=
  World.ownsRow_made w #[] 0 (Nat.le_refl _) (Nat.zero_le _) rfl
theorem OwnE.form {w0 w : World} {v : Value} {es : List Ent} {n : Nat} (h : OwnE w0 w v es) (hn : es.length = n) : ∃ A c, v = .slice A n c ∧ Lies w A (flatE es) ∧ Fr (fun _ => False) w0 w := by
  obtain ⟨A, c, hv, _, _, hl, _⟩ := h.slice
  exact ⟨A, c, by rw [hv, hn], hl, h.2⟩
theorem own_copy {w1 wa : World} {vO : Value} {es : List Ent} {L : Nat} (hL : es.length = L) (o1 : wa.ownsRow w1.heap.size 45 34 vO (0 + L) ([] ++ flatE es)) (g1 : (w1.alloc (.cells #[] 45)).grownBy wa (Value.slice (some ⟨w1.heap.size, 0, none⟩) 0 0).ownBlock) : ∃ A c, vO = .slice A L c ∧ Lies wa A (flatE es) ∧ Fr (fun _ => False) w1 wa := by
  have f : Fr (fun _ => False) w1 wa := fr_append (own_none34 w1) ((Fr.refl (fun _ => False) w1).alloc _) g1
  have h : OwnE w1 wa vO es := ⟨by rw [hL]; simpa using o1, f⟩
  exact h.form hL

set_option maxHeartbeats 6400000 in
theorem checks_walk (A : Option Addr) (cap : Nat) (es : List Ent) (w : World) (hl : Lies w A (flatE es)) (hlen : es.length ≤ 9223372036854775807) :
    Calls Try.prog 3 #[.slice A es.length cap] w fun e w' => e = .returned (.bool true) ∧ Below w.heap.size w w' := by
  have HL := Lib.hid (fun w' (f : Fr (fun _ => False) w w') => hl.fr f (fun _ _ e => e))
  by_cases hbig : 100 < es.length
  · have hgt : (100 : Int) < (es.length : Int) := by omega
    obtain ⟨L, hL⟩ : ∃ L, es.length = L := ⟨_, rfl⟩
    rw [hL] at hgt ⊢
    clear hL hl hbig hlen HL
    go_enter Try.func3, Try.ntmps3
    go_wp2_with (go_at_call 8; refine (works6_any _).mono ?_; rintro e w2 ⟨rfl, b2⟩)
    go_ret
    exact ⟨rfl, b2⟩
  · obtain ⟨i0, hi, hz0, hz1, hz2⟩ := info_parts info_ent
    have hz3 := zeroE_cells
    obtain ⟨Z, hZ⟩ : ∃ Z, (entV default).toArray = Z := ⟨_, rfl⟩
    rw [hZ] at hz0 hz3
    obtain ⟨ss, hss⟩ : ∃ ss, srt (ltOf keyCmp) es = ss := ⟨_, rfl⟩
    have hsl : ss.length = es.length := by rw [← hss, srt_len]
    have hn1 : es.length ≤ 1000 := by omega
    have C1 := Lib.hid (fun w' A c (h : Lies w' A (flatE es)) => TSorted_any A c es (by omega) w' h)
    have C2 := Lib.hid (fun w' A c (h : Lies w' A (flatE es)) => TCheck_any A c es (by omega) w' h)
    have C3 := Lib.hid (fun w' A c (h : Lies w' A (flatE es)) => QtCheck_any A c es (by omega) w' h)
    have C4 := Lib.hid (fun w' A c (h : Lies w' A (flatE es)) => QtSorted_any A c es hn1 w' h)
    have C5 := Lib.hid (fun w' A B c d (h : Lies w' A (flatE ss)) (h2 : Lies w' B (flatE ss)) => QtSame_same A B c d ss (by omega) w' h h2)
    have C6 := Lib.hid (fun w' A B c d (h : Lies w' A (flatE es)) (h2 : Lies w' B (flatE es)) => QtSame_same A B c d es (by omega) w' h h2)
    rw [hss] at C1 C4
    rw [hsl] at C5
    obtain ⟨r, hr⟩ : ∃ r, chk es = r := ⟨_, rfl⟩
    obtain ⟨L, hL⟩ : ∃ L, es.length = L := ⟨_, rfl⟩
    have HLn := Lib.hid hL
    have HSn := Lib.hid (hsl.trans hL)
    rw [hL] at C1 C2 C3 C4 C5 C6 hn1 hbig ⊢
    rw [hr] at C2 C3
    have hle : ¬ ((100 : Int) < (L : Int)) := by omega
    clear hL hl hsl hss hr hlen hZ hbig
    go_enter Try.func3, Try.ntmps3
    go_wp2_with (first
      | (go_at_call 8; refine (works6_any wg).mono ?_; rintro e wh ⟨rfl, bh⟩)
      | (go_at_call 12; have _ := M1; refine (C6.out wf _ _ _ _ (hlO.fr Ff.out.2.1 (fun _ _ e => e)) (HL.out wf Ff.out.1)).mono ?_; rintro e wg ⟨rfl, bg⟩)
      | (go_at_call 12; refine (C5.out we _ _ _ _ (hlS.fr Fe.out.2.2 (fun _ _ e => e)) hlT).mono ?_; rintro e wf ⟨rfl, bf⟩
         have Ff := Lib.hid (And.intro (Fe.out.1.then_below bf) (And.intro (Fe.out.2.1.then_below bf) (Fe.out.2.2.then_below bf)))
         have M1 := True.intro)
      | (go_at_call 13; refine (C4.out wd _ _ (HL.out wd Fd.out.1)).mono ?_; rintro e we ⟨vT, rfl, hoT⟩
         obtain ⟨AT, cT, rfl, hlT, hfT⟩ := hoT.form HSn.out
         have Fe := Lib.hid (And.intro (Fd.out.1.trans hfT (fun _ _ e => e)) (And.intro (Fd.out.2.1.trans hfT (fun _ _ e => e)) (Fd.out.2.2.trans hfT (fun _ _ e => e))))
         clear hoT)
      | (go_at_call 11; refine (C3.out wc _ _ (HL.out wc Fc.out.1)).mono ?_; rintro e wd ⟨rfl, bd⟩
         have Fd := Lib.hid (And.intro (Fc.out.1.then_below bd) (And.intro (Fc.out.2.1.then_below bd) (Fc.out.2.2.then_below bd))))
      | (go_at_call 10; refine (C2.out wb _ _ (hlO.fr Fb.out.2 (fun _ _ e => e))).mono ?_; rintro e wc ⟨rfl, bc⟩
         have Fc := Lib.hid (And.intro (Fb.out.1.then_below bc) (And.intro (Fb.out.2.then_below bc) ((Fr.refl (fun _ => False) wb).then_below bc))))
      | (go_at_call 9; refine (C1.out wa _ _ hlO).mono ?_; rintro e wb ⟨vS, rfl, hoS⟩
         obtain ⟨AS, cS, rfl, hlS, hfS⟩ := hoS.form HSn.out
         have Fb := Lib.hid (And.intro (Fa.out.trans hfS (fun _ _ e => e)) hfS)
         clear hoS)
      | (at_builtin; refine wpList_append_row _ rfl (.tmp 9) (.tmp 10) 22 22 rfl w.heap.size 45 i0 (.agg Z) 34 56 Try.underlying22 hi hz0 hz1 hz2 hz3 (.slice (some ⟨w.heap.size, 0, none⟩) 0 0) 0 [] rfl (own_none34 w) (.slice A L cap) L (flatE es) rfl (Lies.src34 (HL.out _ ((Fr.refl (fun _ => False) w).alloc _)) HLn.out cap) (by unfold maxLen; omega) (by omega) (by simp) ?_
         intro vO wa o1 g1 at1
         obtain ⟨AO, cO, rfl, hlO, hfO⟩ := own_copy HLn.out o1 g1
         have Fa := Lib.hid hfO
         clear o1 g1 at1 hfO))
    go_ret
    exact ⟨rfl, ((Ff.out.1.then_below bg).then_below bh).below (fun _ _ e => e)⟩
end Go.Proofs.Ytcbgpbcfpeanjaa

/- What is proved: the walk of the law OidLists, for every list and every id. Conditions: the list's cells are there. -/
import Derived.Test.YtbfbgopbelmghaaOsd
import Derived.Test.YtbfbgopbelmghaaOse
namespace Go.Proofs.Ytbfbgopbelmghaa
open Go.RowKit
set_option linter.unusedVariables false

theorem own_none32 (w : World) : (w.alloc (.cells #[] 23)).ownsRow w.heap.size 23 32 (.slice (some ⟨w.heap.size, 0, none⟩) 0 0) 0 [] :=
  World.ownsRow_made w #[] 0 (Nat.le_refl _) (Nat.zero_le _) rfl
theorem OwnI.lies {w0 w : World} {A : Option Addr} {n c : Nat} {ns : List Nat} (h : OwnI w0 w (.slice A n c) ns) (hn : ns.length = n) : Lies w A (flatI ns) := by
  have := h.1
  rw [hn] at this
  exact Lies.of_own32 this
theorem OwnI.form {w0 w : World} {v : Value} {ns : List Nat} {n : Nat} (h : OwnI w0 w v ns) (hn : ns.length = n) : ∃ A c, v = .slice A n c ∧ Lies w A (flatI ns) ∧ Fr (fun _ => False) w0 w := by
  obtain ⟨A, c, hv, _, _, _, hl⟩ := h.slice
  exact ⟨A, c, by rw [hv, hn], hl, h.2⟩

theorem own_copy {w1 wa : World} {vO : Value} {ns : List Nat} {L : Nat} (hL : ns.length = L) (o1 : wa.ownsRow w1.heap.size 23 32 vO (0 + L) ([] ++ flatI ns)) (g1 : (w1.alloc (.cells #[] 23)).grownBy wa (Value.slice (some ⟨w1.heap.size, 0, none⟩) 0 0).ownBlock) : ∃ A c, vO = .slice A L c ∧ Lies wa A (flatI ns) ∧ Fr (fun _ => False) w1 wa := by
  have f : Fr (fun _ => False) w1 wa := fr_append (own_none32 w1) ((Fr.refl (fun _ => False) w1).alloc _) g1
  have h : OwnI w1 wa vO ns := ⟨by rw [hL]; simpa using o1, f⟩
  exact h.form hL

set_option maxHeartbeats 6400000 in
theorem lists_walk (A : Option Addr) (cap : Nat) (ns : List Nat) (w : World) (hl : Lies w A (flatI ns)) (hb : ∀ n ∈ ns, n < big) (hlen : ns.length ≤ 9223372036854775807) (x : Nat) (hx : x < big) :
    Calls Try.prog 6 #[.slice A ns.length cap, .agg (idC (dgt x))] w fun e w' => e = .returned (.bool true) ∧ Below w.heap.size w w' := by
  obtain ⟨w1, hw1⟩ : ∃ w1, w.alloc (.cells (idC (dgt x)) 23) = w1 := ⟨_, rfl⟩
  have hF1 : Fr (fun _ => False) w w1 := by subst hw1; exact (Fr.refl _ w).alloc _
  have hX : Whole w1 w.heap.size 23 (idC (dgt x)) := by subst hw1; exact Whole.new w 23 _
  have hl1 := hl.fr hF1 (fun _ _ e => e)
  have HF1 := Lib.hid hF1
  have HL := Lib.hid (fun w' (f : Fr (fun _ => False) w1 w') => hl1.fr f (fun _ _ e => e))
  by_cases hbig : 200 < ns.length
  · have hgt : (200 : Int) < (ns.length : Int) := by omega
    obtain ⟨cx, hcx⟩ : ∃ c, idC (dgt x) = c := ⟨_, rfl⟩
    obtain ⟨L, hL⟩ : ∃ L, ns.length = L := ⟨_, rfl⟩
    rw [hcx] at hw1 ⊢
    rw [hL] at hgt ⊢
    clear hF1 hX hl1 hcx hL hl hb hbig
    go_enter Try.func6, Try.ntmps6
    go_wp2_with (go_at_call 15; refine (works_any _).mono ?_; rintro e w2 ⟨rfl, b2⟩)
    go_ret
    exact ⟨rfl, (HF1.out.then_below b2).below (fun _ _ e => e)⟩
  · obtain ⟨i0, hi, hz0, hz1, hz2⟩ := info_parts info_id
    have hz3 := zero32_cells
    obtain ⟨Z32, hZ32⟩ : ∃ Z, zero32 = Z := ⟨_, rfl⟩
    rw [hZ32] at hz0 hz3
    have hsp := srt_props ns
    have hsb : ∀ n ∈ srtN ns, n < big := fun n hn => hb n ((hsp.2.2 n).1 hn)
    obtain ⟨ss, hss⟩ : ∃ ss, srtN ns = ss := ⟨_, rfl⟩
    rw [hss] at hsp hsb
    have hs200 : ss.length ≤ 1000 := by omega
    have hn200 : ns.length ≤ 1000 := by omega
    have C1 := Lib.hid (fun w' A c (h : Lies w' A (flatI ns)) => OSorted_any A c ns hb hn200 w' h)
    have C2 := Lib.hid (fun w' A c (h : Lies w' A (flatI ns)) => OFind_any A c ns x hb hx hn200 w' h)
    have C3 := Lib.hid (fun w' A c (h : Lies w' A (flatI ns)) => QFind_any A c ns x hb hx hn200 w' h)
    have C4 := Lib.hid (fun w' A B c d (h : Lies w' A (flatI ns)) (h2 : Lies w' B (flatI ns)) => QSame_same A B c d ns hb hn200 w' h h2)
    have C5 := Lib.hid (fun w' A c (h : Lies w' A (flatI ns)) => QSorted_any A c ns hb hn200 w' h)
    have C6 := Lib.hid (fun w' A B c d (h : Lies w' A (flatI ss)) (h2 : Lies w' B (flatI ss)) => QSame_same A B c d ss hsb hs200 w' h h2)
    have C7 := Lib.hid (fun w' A c (h : Lies w' A (flatI ns)) => ORising_any A c ns hb hn200 w' h)
    have C8 := Lib.hid (fun w' A c (h : Lies w' A (flatI ns)) => QRising_any A c ns hb hn200 w' h)
    have C9 := Lib.hid (fun w' A c (h : Lies w' A (flatI ss)) => OFind_any A c ss x hsb hx hs200 w' h)
    have C10 := Lib.hid (fun w' A c (h : Lies w' A (flatI ss)) => QFind_any A c ss x hsb hx hs200 w' h)
    rw [hss] at C1 C5
    obtain ⟨a1, ha1⟩ : ∃ a : Int, (fAt ns x : Int) = a := ⟨_, rfl⟩
    obtain ⟨b1, hb1⟩ : ∃ a, fHas ns x = a := ⟨_, rfl⟩
    obtain ⟨a2, ha2⟩ : ∃ a : Int, (fAt ss x : Int) = a := ⟨_, rfl⟩
    obtain ⟨b2, hb2⟩ : ∃ a, fHas ss x = a := ⟨_, rfl⟩
    obtain ⟨r, hr⟩ : ∃ a, risB ns = a := ⟨_, rfl⟩
    obtain ⟨L, hL⟩ : ∃ L, ns.length = L := ⟨_, rfl⟩
    obtain ⟨S, hS⟩ : ∃ L, ss.length = L := ⟨_, rfl⟩
    have HLn := Lib.hid hL
    have HSn := Lib.hid hS
    obtain ⟨cx, hcx⟩ : ∃ c, idC (dgt x) = c := ⟨_, rfl⟩
    rw [hL] at C1 C2 C3 C4 C5 C7 C8 hn200 hlen hbig ⊢
    rw [hS] at C6 C9 C10
    rw [hcx] at C2 C3 C9 C10 hw1 hX ⊢
    rw [ha1, hb1] at C2 C3
    rw [ha2, hb2] at C9 C10
    rw [hr] at C7 C8
    have hcs : cx.size = 32 := by rw [← hcx]; exact idC_size _
    obtain ⟨T32, hT32⟩ : ∃ T : TypeId, T = 23 := ⟨_, rfl⟩
    obtain ⟨n32, hn32⟩ : ∃ n : Nat, n = 32 := ⟨_, rfl⟩
    have ag32 : ∀ w, (isAgg T32).run Try.prog w = .ok true w := by rw [hT32]; exact fun _ => by kernel_rfl
    have sz32 : ∀ w, (sizeOf T32).run Try.prog w = .ok n32 w := by rw [hT32, hn32]; exact fun _ => by kernel_rfl
    have HLD := Lib.hid (fun w' (f : Fr (fun _ => False) w1 w') => (load_later hX (by rw [hcs]; exact hn32) f ⟨w', Fr.refl _ _⟩ : (loadCellsFrom ⟨w.heap.size, 0, none⟩ 0 n32 #[]).run Try.prog w' = .ok cx w'))
    have hle : ¬ ((200 : Int) < (L : Int)) := by omega
    clear hF1 hX hl1 hcx hL hS hl hb hbig hsp hsb hss hs200 ha1 hb1 ha2 hb2 hr hn32 hZ32 hlen
    go_enter Try.func6, Try.ntmps6
    rw [show Op.load 23 (.tmp 3) = Op.load T32 (.tmp 3) by rw [hT32]]
    clear hT32
    go_wp2_with (first
      | (go_at_call 15; refine (works_any wk).mono ?_; rintro e wl ⟨rfl, bl⟩)
      | (go_at_call 24; refine (C10.out wj _ _ (hlS.fr (Fj.out.2) (fun _ _ e => e))).mono ?_; rintro e wk ⟨rfl, bk⟩)
      | (go_at_call 23; refine (C9.out wi _ _ (hlS.fr Fi.out.2 (fun _ _ e => e))).mono ?_; rintro e wj ⟨rfl, bj⟩
         have Fj := Lib.hid (And.intro (Fi.out.1.then_below bj) (Fi.out.2.then_below bj))
         have lj := HLD.out wj Fj.out.1)
      | (go_at_call 28; refine (C8.out wh _ _ (HL.out wh Fh.out.1)).mono ?_; rintro e wi ⟨rfl, bi⟩
         have Fi := Lib.hid (And.intro (Fh.out.1.then_below bi) (Fh.out.2.then_below bi))
         have li := HLD.out wi Fi.out.1)
      | (go_at_call 27; refine (C7.out wg _ _ (hlO.fr Fg.out.2.2 (fun _ _ e => e))).mono ?_; rintro e wh ⟨rfl, bh⟩
         have Fh := Lib.hid (And.intro (Fg.out.1.then_below bh) (Fg.out.2.1.then_below bh)))
      | (go_at_call 25; refine (C6.out wf _ _ _ _ (hlS.fr Ff.out.2.1 (fun _ _ e => e)) hlT).mono ?_; rintro e wg ⟨rfl, bg⟩
         have Fg := Lib.hid (And.intro (Ff.out.1.then_below bg) (And.intro (Ff.out.2.1.then_below bg) (Ff.out.2.2.then_below bg))))
      | (go_at_call 26; refine (C5.out we _ _ (HL.out we Fe.out.1)).mono ?_; rintro e wf ⟨vT, rfl, hoT⟩
         obtain ⟨AT, cT, rfl, hlT, hfT⟩ := hoT.form HSn.out
         have Ff := Lib.hid (And.intro (Fe.out.1.trans hfT (fun _ _ e => e)) (And.intro (Fe.out.2.1.trans hfT (fun _ _ e => e)) (Fe.out.2.2.trans hfT (fun _ _ e => e))))
         clear hoT)
      | (go_at_call 25; refine (C4.out wd _ _ _ _ (hlO.fr Fd.out.2.2 (fun _ _ e => e)) (HL.out wd Fd.out.1)).mono ?_; rintro e we ⟨rfl, be⟩
         have Fe := Lib.hid (And.intro (Fd.out.1.then_below be) (And.intro (Fd.out.2.1.then_below be) (Fd.out.2.2.then_below be))))
      | (go_at_call 24; refine (C3.out wc _ _ (HL.out wc Fc.out.1)).mono ?_; rintro e wd ⟨rfl, bd⟩
         have Fd := Lib.hid (And.intro (Fc.out.1.then_below bd) (And.intro (Fc.out.2.1.then_below bd) (Fc.out.2.2.then_below bd))))
      | (go_at_call 23; refine (C2.out wb _ _ (hlO.fr Fb.out.2 (fun _ _ e => e))).mono ?_; rintro e wc ⟨rfl, bc⟩
         have Fc := Lib.hid (And.intro (Fb.out.1.then_below bc) (And.intro ((Fr.refl (fun _ => False) wb).then_below bc) (Fb.out.2.then_below bc)))
         have lc := HLD.out wc Fc.out.1)
      | (go_at_call 22; refine (C1.out wa _ _ hlO).mono ?_; rintro e wb ⟨vS, rfl, hoS⟩
         obtain ⟨AS, cS, rfl, hlS, hfS⟩ := hoS.form HSn.out
         have Fb := Lib.hid (And.intro (Fa.out.trans hfS (fun _ _ e => e)) hfS)
         have lb := HLD.out wb Fb.out.1
         clear hoS)
      | (at_builtin; refine wpList_append_row _ rfl (.tmp 19) (.tmp 20) 44 44 rfl w1.heap.size 23 i0 (.agg Z32) 32 32 Try.underlying44 hi hz0 hz1 hz2 hz3 (.slice (some ⟨w1.heap.size, 0, none⟩) 0 0) 0 [] rfl (own_none32 w1) (.slice A L cap) L (flatI ns) rfl (Lies.src32 (HL.out _ ((Fr.refl (fun _ => False) w1).alloc _)) HLn.out cap) (by unfold maxLen; omega) (by omega) (by simp) ?_
         intro vO wa o1 g1 at1
         obtain ⟨AO, cO, rfl, hlO, hfO⟩ := own_copy HLn.out o1 g1
         have Fa := Lib.hid hfO
         clear o1 g1 at1 hfO))
    go_ret
    exact ⟨rfl, (HF1.out.trans ((Fj.out.1.then_below bk).then_below bl) (fun _ _ e => e)).below (fun _ _ e => e)⟩
end Go.Proofs.Ytbfbgopbelmghaa

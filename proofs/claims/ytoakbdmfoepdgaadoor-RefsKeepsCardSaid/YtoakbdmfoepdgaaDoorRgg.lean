/- What is proved: the walk of the law RefsGets, for all bytes. Conditions: the bytes are there. -/
import Derived.Test.YtoakbdmfoepdgaaDoorRgp
import Derived.Test.YtoakbdmfoepdgaaDoorRgo
import Derived.Test.YtoakbdmfoepdgaaDoorRfj
import Derived.Test.YtoakbdmfoepdgaaDoorRfm
import Derived.Test.YtoakbdmfoepdgaaDoorRfh
namespace Go.Proofs.YtoakbdmfoepdgaaDoor
open Go.RowKit Go.Sort Go.Shelf
set_option linter.unusedVariables false

theorem putR_ge : ∀ l : List Rf, l.length ≤ (putR l).length
  | [] => Nat.zero_le _
  | r :: l => by
    have h := putR_ge l
    have h2 := lineR_len r
    have e : putR (r :: l) = lineR r ++ putR l := rfl
    rw [e, List.length_append, List.length_cons]
    omega
/-- What a text reads as, as text again. -/
theorem getO_back (b : List UInt8) (hb : b.length ≤ 140737488355327) : (getO b).1.length ≤ b.length ∧ ((getO b).2 = 0 → chkR (getO b).1 = 0 ∧ putO (getO b).1 = b) := by
  have e : getO b = match getW b [] with | none => ([], 12) | some l => if chkR l = 0 then (l, 0) else ([], chkR l) := rfl
  rw [e]
  cases h : getW b [] with
  | none => exact ⟨Nat.zero_le _, fun h => by cases h⟩
  | some l =>
    have h2 := put_get b.length b [] l (Nat.le_refl _) hb h
    have h3 : putR l = b := by rw [h2]; rfl
    by_cases h4 : chkR l = 0
    · simp only [if_pos h4]
      refine ⟨?_, fun _ => ⟨h4, by rw [putO, if_pos h4, h3]⟩⟩
      have := putR_ge l
      rw [h3] at this
      exact this
    · simp only [if_neg h4]
      exact ⟨Nat.zero_le _, fun h => absurd h h4⟩

set_option maxHeartbeats 6400000 in
set_option maxRecDepth 100000 in
theorem gets_walk (A : Option Addr) (cap : Nat) (b : List UInt8) (hcap : b.length ≤ cap) (w : World) (hl : Lies w A (bytesV b)) :
    Calls Tryd.prog 4 #[.slice A b.length cap] w fun e w' => e = .returned (.bool true) ∧ Below w.heap.size w w' := by
  have HL := Lib.hid (fun w' (f : Fr (fun _ => False) w w') => hl.fr f (fun _ _ e => e))
  by_cases hbig : 4000 < b.length
  · have hgt : (4000 : Int) < (b.length : Int) := by omega
    obtain ⟨L, hL⟩ : ∃ L, b.length = L := ⟨_, rfl⟩
    rw [hL] at hgt ⊢
    clear hL hl hbig HL hcap
    go_enter Tryd.func4, Tryd.ntmps4
    go_wp2_with (go_at_call 8; refine (works12_any _).mono ?_; rintro e w2 ⟨rfl, b2⟩)
    go_ret
    exact ⟨rfl, b2⟩
  · have C1 := Lib.hid (fun w' (h : Lies w' A (bytesV b)) => RfGet_any A cap b (by omega) w' h)
    have C2 := Lib.hid (fun w' (h : Lies w' A (bytesV b)) => QfGet_any A cap b (by omega) hcap w' h)
    obtain ⟨hp1, hp2⟩ := getO_back b (by omega)
    have C5 := Lib.hid (fun w' U c (h : Lies w' U (bytesV b)) (h2 : Lies w' A (bytesV b)) => Same_any U A c cap b b w' h h2)
    rw [beq_self_eq_true] at C5
    obtain ⟨p, hp⟩ : ∃ p, (getO b).1 = p := ⟨_, rfl⟩
    obtain ⟨q, hq⟩ : ∃ p, (getO b).2 = p := ⟨_, rfl⟩
    rw [hp, hq] at C1 C2 hp2
    rw [hp] at hp1
    have C3 := Lib.hid (fun w' A B c d' (h : Lies w' A (flatR p)) (h2 : Lies w' B (flatR p)) => QfSame_same A B c d' p (by omega) w' h h2)
    have C4 := Lib.hid (fun w' A c (hc : p.length ≤ c) (h : Lies w' A (flatR p)) => RfPut_any A c p (by omega) hc w' h)
    obtain ⟨m, hm⟩ : ∃ m, p.length = m := ⟨_, rfl⟩
    have HM := Lib.hid hm
    rw [hm] at C3 C4
    obtain ⟨L, hL⟩ : ∃ L, b.length = L := ⟨_, rfl⟩
    have HLn := Lib.hid hL
    rw [hL] at C1 C2 C5 hbig ⊢
    have hle : ¬ ((4000 : Int) < (L : Int)) := by omega
    by_cases hq0 : q = 0
    · subst hq0
      obtain ⟨hc, ho⟩ := hp2 rfl
      rw [hc, ho] at C4
      clear hL hl hcap hbig hp1 hp2 hp hq hm hc ho
      go_enter Tryd.func4, Tryd.ntmps4
      go_wp2_with (first
        | (go_at_call 8; refine (works12_any we).mono ?_; rintro e wf ⟨rfl, b5⟩; have Gf := Lib.hid (Ge.out.then_below b5); clear b5)
        | (go_at_call 11; refine (C5.out wd _ _ HlU.out (HL.out wd Gd.out)).mono ?_; rintro e we ⟨rfl, b4⟩; have Ge := Lib.hid (show Fr (fun _ => False) w we from by rw [← b4]; exact Gd.out); clear b4)
        | (go_at_call 9; refine (C4.out wc _ _ HcP.out (HlP.out.fr FPc.out (fun _ _ e => e))).mono ?_; rintro e wd ⟨vU, rfl, hoU⟩
           have Gd := Lib.hid (Gc.out.trans hoU.2 (fun _ _ e => e))
           obtain ⟨AU, cU, hvU, hlU⟩ := hoU.byt
           have HlU := Lib.hid hlU
           rw [HLn.out] at hvU
           subst hvU
           clear hoU hlU)
        | (go_at_call 16; refine (C3.out wb _ _ _ _ (HlP.out.fr FPb.out (fun _ _ e => e)) HlQ.out).mono ?_; rintro e wc ⟨rfl, b5⟩; have FPc := Lib.hid (FPb.out.then_below b5); have Gc := Lib.hid (Gb.out.then_below b5); clear b5)
        | (go_at_call 15; refine (C2.out wa (HL.out wa Ga.out)).mono ?_; rintro e wb ⟨vQ, rfl, hoQ⟩
           obtain ⟨AQ, cQ, rfl, -, hlQ, hfQ⟩ := hoQ.form HM.out
           have HlQ := Lib.hid hlQ
           have FPb := Lib.hid hfQ
           have Gb := Lib.hid (Ga.out.trans hfQ (fun _ _ e => e))
           clear hoQ hlQ hfQ)
        | (go_at_call 14; refine (C1.out w (HL.out w (Fr.refl _ _))).mono ?_; rintro e wa ⟨vP, rfl, hoP⟩
           obtain ⟨AP, cP, rfl, hcP, hlP, hfP⟩ := hoP.form HM.out
           have HlP := Lib.hid hlP
           have HcP := Lib.hid hcP
           have Ga := Lib.hid hfP
           clear hoP hcP hlP hfP))
      go_ret
      exact ⟨rfl, Gf.out.below (fun _ _ e => e)⟩
    · have hq0b : (q == 0) = false := by simpa using hq0
      obtain ⟨c, hc⟩ : ∃ c, chkR p = c := ⟨_, rfl⟩
      rw [hc] at C4
      clear hL hl hcap hbig hp1 hp2 hp hq hm hc
      go_enter Tryd.func4, Tryd.ntmps4
      go_wp2_with (first
        | (go_at_call 8; refine (works12_any wd).mono ?_; rintro e wf ⟨rfl, b5⟩; have Gf := Lib.hid (Gd.out.then_below b5); clear b5)
        | (go_at_call 9; refine (C4.out wc _ _ HcP.out (HlP.out.fr FPc.out (fun _ _ e => e))).mono ?_; rintro e wd ⟨vU, rfl, hoU⟩
           have Gd := Lib.hid (Gc.out.trans hoU.2 (fun _ _ e => e))
           obtain ⟨AU, cU, hvU, hlU⟩ := hoU.byt
           subst hvU
           clear hoU hlU)
        | (go_at_call 16; refine (C3.out wb _ _ _ _ (HlP.out.fr FPb.out (fun _ _ e => e)) HlQ.out).mono ?_; rintro e wc ⟨rfl, b5⟩; have FPc := Lib.hid (FPb.out.then_below b5); have Gc := Lib.hid (Gb.out.then_below b5); clear b5)
        | (go_at_call 15; refine (C2.out wa (HL.out wa Ga.out)).mono ?_; rintro e wb ⟨vQ, rfl, hoQ⟩
           obtain ⟨AQ, cQ, rfl, -, hlQ, hfQ⟩ := hoQ.form HM.out
           have HlQ := Lib.hid hlQ
           have FPb := Lib.hid hfQ
           have Gb := Lib.hid (Ga.out.trans hfQ (fun _ _ e => e))
           clear hoQ hlQ hfQ)
        | (go_at_call 14; refine (C1.out w (HL.out w (Fr.refl _ _))).mono ?_; rintro e wa ⟨vP, rfl, hoP⟩
           obtain ⟨AP, cP, rfl, hcP, hlP, hfP⟩ := hoP.form HM.out
           have HlP := Lib.hid hlP
           have HcP := Lib.hid hcP
           have Ga := Lib.hid hfP
           clear hoP hcP hlP hfP))
      go_ret
      exact ⟨rfl, Gf.out.below (fun _ _ e => e)⟩
end Go.Proofs.YtoakbdmfoepdgaaDoor

/- What is proved: a ref is dropped, by the program. Conditions: the list's cells are there. -/
import Derived.Test.YtoakbdmfoepdgaaDoorRgh
namespace Go.Proofs.YtoakbdmfoepdgaaDoor
open Go.RowKit Go.Sort Go.Shelf
set_option linter.unusedVariables false

set_option maxHeartbeats 3200000 in
set_option maxRecDepth 100000 in
theorem RfDrop_any (A : Option Addr) (cap : Nat) (l : List Rf) (hn : l.length ≤ 1000) (hcap : l.length ≤ cap) (x : List UInt8) (w : World) (h : Lies w A (flatR l)) :
    Calls Tryd.prog 19 #[.slice A l.length cap, .string (strB x)] w fun e w' => ∃ v, e = .returned (.tuple #[v, .int .i64 (dropO l x).2]) ∧ OwnR w w' v (dropO l x).1 := by
  have HCk := Lib.hid (RfCheck_any A cap l (by omega) hcap w h)
  have HPl := Lib.hid (fun (w' : World) (f : Fr (fun _ => False) w w') => RfPlace_any A cap l (by omega) x w' (h.fr f (fun _ _ e => e)))
  have HCl := Lib.hid (fun (w' : World) (f : Fr (fun _ => False) w w') => GrClone_any A cap l (by omega) w' (h.fr f (fun _ _ e => e)))
  have HT : Hid (chkR l = 0 → TabR l) := Lib.hid (chkR_tab l).1
  have HS : Hid (dropO l x = if chkR l = 0 then (if hasR l x = true then (witR l x, 0) else ([], 35)) else ([], chkR l)) := Lib.hid rfl
  have HDl := Lib.hid (fun (w4 w5 : World) (g n c i : Nat) (hi : i < l.length) (h : OwnR w4 w5 (.slice (some ⟨g, 0, none⟩) n c) l) (J : Int) (hJ : J = ((i + 1 : Nat) : Int)) => GrDelete_any w4 g n c i l hn hi w5 h J hJ)
  have hn1 := hn
  obtain ⟨c, hc⟩ : ∃ c, chkR l = c := ⟨_, rfl⟩
  obtain ⟨p, hp⟩ : ∃ p, plcR l x = p := ⟨_, rfl⟩
  obtain ⟨hb, hhb⟩ : ∃ b, hasR l x = b := ⟨_, rfl⟩
  have HPp := Lib.hid hp
  have HHb := Lib.hid hhb
  obtain ⟨L, hL⟩ : ∃ L, l.length = L := ⟨_, rfl⟩
  have HLn := Lib.hid hL
  obtain ⟨X, hX⟩ : ∃ S, strB x = S := ⟨_, rfl⟩
  rw [hc, hL] at HCk
  rw [hp, hhb, hL, hX] at HPl
  rw [hL] at HCl
  rw [hc] at HT HS
  rw [hhb] at HS
  rw [hL, hX]
  rw [hL] at hn1
  clear h hc hp hhb hL hX hn hcap
  go_enter Tryd.func19, Tryd.ntmps19
  by_cases hc0 : c = 0
  · subst hc0
    have HTab := Lib.hid (HT.out rfl)
    cases hb
    · go_wp2_with (first
        | (go_at_call 39; refine (HPl.out w2 F2.out).mono ?_; rintro e w4 ⟨rfl, b4⟩; have F4 := Lib.hid (F2.out.then_below b4); clear b4)
        | (go_at_call 12; refine HCk.out.mono ?_; rintro e w2 ⟨rfl, b2⟩; have F2 := Lib.hid (Fr.of_below (S := fun _ => False) b2); clear b2))
      go_ret2
      have e : dropO l x = ([], 35) := by rw [HS.out]; simp
      rw [e]
      exact ⟨_, rfl, OwnR.nil F4.out⟩
    · have hhas := drop_has HTab.out.rise HHb.out
      rw [HPp.out] at hhas
      have HHas := Lib.hid hhas
      have hpz : (p : Int) < L := by have := hhas.1; have := HLn.out; omega
      have k1 : IntKind.i64.wrap ((p : Int) + 1) = (p : Int) + 1 := wrap_nat1 p (by omega)
      clear hhas
      go_wp2_with (first
        | (go_at_call 43; refine HDel.out.mono ?_; rintro e w6 ⟨vR, rfl, hoR⟩; have HoR := Lib.hid hoR; clear hoR)
        | (go_at_call 40; refine (HCl.out w4 F4.out).mono ?_; rintro e w5 ⟨vT, rfl, hoT⟩
           obtain ⟨g, c5, hv5⟩ : ∃ g cap5, vT = .slice (some ⟨g, 0, none⟩) L cap5 := (by
             rcases own_shape hoT.1 with ⟨_, _, h0⟩ | ⟨g, cap, hv, _⟩
             · have h1 := flatR_nil h0
               have h2 := HHas.out.1
               rw [h1] at h2
               simp at h2
             · exact ⟨g, cap, by rw [HLn.out] at hv; exact hv⟩)
           subst hv5
           have HDel := Lib.hid (HDl.out w4 w5 g L c5 p HHas.out.1 hoT ((p : Int) + 1) (by omega))
           clear hoT)
        | (go_at_call 39; refine (HPl.out w2 F2.out).mono ?_; rintro e w4 ⟨rfl, b4⟩; have F4 := Lib.hid (F2.out.then_below b4); clear b4)
        | (go_at_call 12; refine HCk.out.mono ?_; rintro e w2 ⟨rfl, b2⟩; have F2 := Lib.hid (Fr.of_below (S := fun _ => False) b2); clear b2))
      go_ret2
      have e : dropO l x = (witR l x, 0) := by rw [HS.out]; simp
      rw [e, HHas.out.2]
      exact ⟨_, rfl, HoR.out.down F4.out⟩
  · go_wp2_with (go_at_call 12; refine HCk.out.mono ?_; rintro e w2 ⟨rfl, b2⟩; have F2 := Lib.hid (Fr.of_below (S := fun _ => False) b2); clear b2)
    go_ret2
    have e : dropO l x = ([], c) := by rw [HS.out, if_neg hc0]
    rw [e]
    exact ⟨_, rfl, OwnR.nil F2.out⟩
end Go.Proofs.YtoakbdmfoepdgaaDoor

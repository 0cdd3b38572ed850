/- What is proved: the walk of the law BloomPaths, for every list of texts. Conditions: the list's cells are there. -/
import Derived.Test.YtgmohgofcjemkaaDoorNw
import Derived.Test.YtgmohgofcjemkaaDoorNx
namespace Go.Proofs.YtgmohgofcjemkaaDoor
open Go.RowKit Go.Shelf Go.Sort
set_option linter.unusedVariables false

theorem ups_short : ∀ (n : Nat) (s y : List UInt8), y ∈ ups n s → y.length ≤ s.length
  | 0, s, y, h => by simp [ups] at h
  | n + 1, s, y, h => by
    by_cases h0 : s = []
    · subst h0; rw [ups_nil] at h; simp at h
    · rw [ups_step h0] at h
      rcases List.mem_cons.1 h with rfl | h
      · exact Nat.le_refl _
      · have := ups_short n _ y h
        have := dir_short h0
        omega
theorem allP_short {l : List (List UInt8)} {m : Nat} (h : ∀ p ∈ l, p.length ≤ m) : ∀ x ∈ allP l, x.length ≤ m := by
  intro x hx
  unfold allP at hx
  obtain ⟨p, hp, hx⟩ := List.mem_flatMap.1 hx
  unfold upR at hx
  split at hx
  · exact Nat.le_trans (ups_short _ _ _ hx) (h p hp)
  · simp at hx
theorem allP_mem {l : List (List UInt8)} {p y : List UInt8} (hp : p ∈ l) (hr : rightB p = true) (hy : y ∈ ups p.length p) : y ∈ pathsL l := by
  unfold pathsL
  rw [(unl_ris _).2]
  unfold allP
  refine List.mem_flatMap.2 ⟨p, hp, ?_⟩
  unfold upR
  rw [if_pos hr]
  exact hy

set_option maxHeartbeats 3200000 in
set_option maxRecDepth 100000 in
theorem bloomPaths_walk (A : Option Addr) (c : Nat) (l : List (List UInt8)) (hb : l.length ≤ 9223372036854775807) (w : World) (hA : Lies w A (strM l)) :
    Calls Tryd.prog 3 #[.slice A l.length c] w fun e w' => e = .returned (.bool true) ∧ Below w.heap.size w w' := by
  have HW := Lib.hid works16_any
  have HLa := Lib.hid (large16_any A c l hb w hA)
  by_cases hfit : Fit16 l
  · rw [decide_eq_true hfit] at HLa
    have hl260 := hfit.1
    have hl200 := hfit.2
    have hpl : (pathsL l).length ≤ 31200 := by have h1 := unl_len (allP l); have h2 := allP_len l; unfold pathsL; omega
    have hps : ∀ p ∈ pathsL l, p.length ≤ 200 := fun p hp => allP_short hl200 p (by unfold pathsL at hp; rwa [(unl_ris _).2] at hp)
    have HP := Lib.hid (fun w' (f : Fr (fun _ => False) w w') => Paths_any A c l (by omega) (fun p hp => by have := hl200 p hp; omega) w' (hA.fr f (fun _ _ e => e)))
    have HQ := Lib.hid (fun w' (f : Fr (fun _ => False) w w') => QbPaths_any A c l (by omega) (fun p hp => by have := hl200 p hp; omega) w' (hA.fr f (fun _ _ e => e)))
    have HSm := Lib.hid (fun A1 A2 c1 c2 w' (h1 : Lies w' A1 (strM (pathsL l))) (h2 : Lies w' A2 (strM (pathsL l))) => QrSame_any (pathsL l) (by omega) A1 A2 c1 c2 w' h1 h2)
    have HMk := Lib.hid (fun A1 c1 w' (h1 : Lies w' A1 (strM (pathsL l))) => Make_any A1 c1 (pathsL l) (by omega) (fun p hp => by have := hps p hp; omega) w' h1)
    have hml := mkF_len (pathsL l)
    have HHs := Lib.hid (fun A1 c1 w' (h1 : Lies w' A1 (bytesV (mkF (pathsL l)))) s (hs : s ∈ pathsL l) => show Calls Tryd.prog 12 #[.slice A1 (mkF (pathsL l)).length c1, .string (strB s)] w' fun e w2 => e = .returned (.bool true) ∧ Fr (fun _ => False) w' w2 from by
      have := Has_any A1 c1 (mkF (pathsL l)) s (by omega) (by have := hps s hs; omega) w' h1
      rwa [mkF_has hs] at this)
    have HLs := Lib.hid (fun (h0 : 0 < l.length) => lies_nameM hA (Fr.refl _ w) h0)
    have HIn := Lib.hid (fun k (hk : k < l.length) (hr : rightB (l.getD k []) = true) y (hy : y ∈ ups (l.getD k []).length (l.getD k [])) => allP_mem (l := l) (by rw [List.getD_eq_getElem?_getD, List.getElem?_eq_getElem hk]; exact List.getElem_mem hk) hr hy)
    have HSh := Lib.hid (fun k (hk : k < l.length) => hl200 (l.getD k []) (by rw [List.getD_eq_getElem?_getD, List.getElem?_eq_getElem hk]; exact List.getElem_mem hk))
    obtain ⟨pp, hpp⟩ : ∃ pp, pathsL l = pp := ⟨_, rfl⟩
    rw [hpp] at HP HQ HSm HMk HHs HIn hml hpl hps
    obtain ⟨F, hF⟩ : ∃ F, mkF pp = F := ⟨_, rfl⟩
    rw [hF] at HMk HHs hml
    obtain ⟨m, hm⟩ : ∃ m, F.length = m := ⟨_, rfl⟩
    rw [hm] at HHs hml
    have HMl := Lib.hid hm
    obtain ⟨q, hq⟩ : ∃ q, pp.length = q := ⟨_, rfl⟩
    rw [hq] at HSm HMk hpl
    have HQl := Lib.hid hq
    obtain ⟨n, hn⟩ : ∃ n, l.length = n := ⟨_, rfl⟩
    rw [hn] at hb HLa hl260 HP HQ HLs HIn HSh ⊢
    have HF0 := Lib.hid (Fr.refl (fun _ => False) w)
    have HP0 := Lib.hid (HP.out w HF0.out)
    clear hn hF hm hpp hq hA hfit hl200 hps
    go_enter Tryd.func3, Tryd.ntmps3
    go_wp2_with (first
      | (go_at_call 4; refine HLa.out.mono ?_; rintro e w1 ⟨rfl, rfl⟩)
      | (go_at_call 6; refine HP0.out.mono ?_; rintro e w2 ⟨v, rfl, ho⟩
         obtain ⟨A1, c1, hv1, _, _, _, hli⟩ := ho.slice
         rw [HQl.out] at hv1
         subst hv1
         have HF2 := Lib.hid ho.2
         have HL1 := Lib.hid hli
         have HQ2 := Lib.hid (HQ.out w2 ho.2)
         clear ho hli)
      | (go_at_call 8; refine HQ2.out.mono ?_; rintro e w3 ⟨v, rfl, ho⟩
         obtain ⟨A2, c2, hv2, _, _, _, hli⟩ := ho.slice
         rw [HQl.out] at hv2
         subst hv2
         have HF3 := Lib.hid (show Fr (fun _ => False) w w3 from HF2.out.trans ho.2 (fun _ _ e => e))
         have HL13 := Lib.hid (HL1.out.fr ho.2 (fun _ _ e => e))
         have HS3 := Lib.hid (HSm.out A1 A2 c1 c2 w3 HL13.out hli)
         clear ho hli)
      | (go_at_call 7; refine HS3.out.mono ?_; rintro e w4 ⟨rfl, b4⟩
         have HF34 := Lib.hid (Fr.of_below (S := fun _ => False) b4)
         have HM4 := Lib.hid (HMk.out A1 c1 w4 (HL13.out.fr HF34.out (fun _ _ e => e)))
         clear b4)
      | (go_at_call 9; refine HM4.out.mono ?_; rintro e w5 ⟨v5, rfl, ho⟩
         obtain ⟨A5, c5, hv5, _, hli⟩ := ho.slice
         rw [HMl.out] at hv5
         subst hv5
         have HF5 := Lib.hid (show Fr (fun _ => False) w w5 from (HF3.out.trans HF34.out (fun _ _ e => e)).trans ho.2 (fun _ _ e => e))
         have HL5 := Lib.hid hli
         clear ho hli))
    go_loopg [5] n (fun kx s5 wr => ∃ k : Nat, s5 = .int .i64 k ∧ k ≤ n ∧ n - k ≤ kx ∧ Hid (Fr (fun _ => False) w5 wr))
    case atStart => exact ⟨0, rfl, by omega, by omega, Lib.hid (Fr.refl _ _)⟩
    case round =>
      obtain ⟨k, rfl, hk, hkx, HFr⟩ := hrel
      obtain ⟨wo, rfl⟩ : ∃ wo, wo = wr := ⟨wr, rfl⟩
      have wk := wrap_nat1 k (by omega)
      by_cases hlt : k < n
      · have hltz : (k : Int) < (n : Int) := by omega
        have hk0 : (0 : Int) ≤ (k : Int) := by omega
        obtain ⟨b, o, hA, hc⟩ := HLs.out (by omega)
        subst hA
        have cx := HFr.out.cell (HF5.out.cell (hc k hlt) (fun e => e)) (fun e => e)
        have HRt := Lib.hid (fun w => QrRight_any (l.getD k []) (by have := HSh.out k hlt; omega) w)
        have HIk := Lib.hid (HIn.out k hlt)
        have HXx := Lib.hid (HSh.out k hlt)
        obtain ⟨x, hx⟩ : ∃ x, l.getD k [] = x := ⟨_, rfl⟩
        rw [hx] at cx HRt HIk HXx
        clear hc hx
        obtain ⟨r, hr⟩ : ∃ r, rightB x = r := ⟨_, rfl⟩
        rw [hr] at HRt HIk
        clear hr
        have HCx := Lib.hid (fun w1 (f : Fr (fun _ => False) wo w1) => f.cell cx (fun e => e))
        cases r
        · go_wp2_with (go_at_call 10; refine (HRt.out _).mono ?_; rintro e w6 ⟨rfl, b1⟩; have HF6 := Lib.hid (show Fr (fun _ => False) w5 w6 from HFr.out.trans (Fr.of_below (S := fun _ => False) b1) (fun _ _ e => e)); clear b1)
          go_roundg (n - (k + 1))
          case measure => omega
          case rel => exact ⟨k + 1, by go_num, by omega, Nat.le_refl _, HF6⟩
        · have HI0 := Lib.hid (HIk.out rfl)
          go_wp2_with (go_at_call 10; refine (HRt.out _).mono ?_; rintro e w6 ⟨rfl, b1⟩; have HF6 := Lib.hid (show Fr (fun _ => False) w5 w6 from HFr.out.trans (Fr.of_below (S := fun _ => False) b1) (fun _ _ e => e)); have cx3 := HCx.out w6 (Fr.of_below (S := fun _ => False) b1); clear b1)
          clear cx cx3
          go_loopg [6] (x.length) (fun kx s6 wr => ∃ (f : Nat) (s : List UInt8), s6 = .string (strB s) ∧ Hid (Fr (fun _ => False) w5 wr) ∧ Hid (∀ y, y ∈ ups f s → y ∈ pp) ∧ s.length ≤ f ∧ f ≤ kx ∧ Hid (s.length ≤ 100000))
          case atStart => exact ⟨x.length, x, rfl, HF6, HI0, Nat.le_refl _, Nat.le_refl _, Lib.hid (by have := HXx.out; omega)⟩
          case round =>
            obtain ⟨f, s, rfl, HFr2, HU2, hsf, hfk, HSl⟩ := hrel
            obtain ⟨wi, rfl⟩ : ∃ wi, wi = wr := ⟨wr, rfl⟩
            by_cases h0 : s = []
            · subst h0
              have hb0 : strB [] = ByteArray.mk #[] := rfl
              rw [hb0]
              go_wp2
              go_roundg (n - (k + 1))
              case measure => omega
              case rel => exact ⟨k + 1, by go_num, by omega, Nat.le_refl _, HFr2⟩
            · obtain ⟨f', rfl⟩ : ∃ f', f = f' + 1 := ⟨f - 1, by have : 0 < s.length := List.length_pos_iff.2 h0; omega⟩
              have HU3 := Lib.hid (fun y (hy : y ∈ ups f' (dirB s)) => HU2.out y (by rw [ups_step h0]; exact List.mem_cons_of_mem _ hy))
              have hds := dir_short h0
              have HDr := Lib.hid (fun w => QrDir_any s (by have := HSl.out; omega) w)
              have HSl2 := Lib.hid (show (dirB s).length ≤ 100000 from by have := HSl.out; omega)
              have hsf2 : (dirB s).length ≤ f' := by omega
              have HHk := Lib.hid (HHs.out A5 c5 wi (HL5.out.fr HFr2.out (fun _ _ e => e)) s (HU2.out s (by rw [ups_step h0]; simp)))
              obtain ⟨d, hd⟩ : ∃ d, dirB s = d := ⟨_, rfl⟩
              rw [hd] at HU3 HDr HSl2 hsf2
              have hL := strB_list s
              have h' : s.isEmpty = false := by simpa using h0
              have hbe : (s == []) = false := by simpa using h0
              obtain ⟨S, hS⟩ : ∃ S, strB s = S := ⟨_, rfl⟩
              rw [hS] at hL HDr HHk
              rw [hS]
              clear hd hS hds
              go_wp2_with (first
                | (go_at_call 12; refine HHk.out.mono ?_; rintro e w7 ⟨rfl, hf7⟩
                   have HF7 := Lib.hid (show Fr (fun _ => False) w5 w7 from HFr2.out.trans hf7 (fun _ _ e => e))
                   clear hf7)
                | (go_at_call 11; refine (HDr.out _).mono ?_; rintro e w8 ⟨rfl, rfl⟩))
              go_roundg f'
              case measure => omega
              case rel => exact ⟨f', d, rfl, HF7, HU3, hsf2, Nat.le_refl _, HSl2⟩
      · obtain rfl : k = n := by omega
        go_wp2_with (go_at_call 5; refine (HW.out _).mono ?_; rintro e w9 ⟨rfl, hf⟩; have HF9 := Lib.hid hf; clear hf)
        go_ret
        exact ⟨rfl, ((HF5.out.trans HFr.out (fun _ _ e => e)).trans HF9.out (fun _ _ e => e)).below (fun _ _ e => e)⟩
  · rw [decide_eq_false hfit] at HLa
    clear hfit hA
    go_enter Tryd.func3, Tryd.ntmps3
    go_wp2_with (first
      | (go_at_call 4; refine HLa.out.mono ?_; rintro e w1 ⟨rfl, rfl⟩)
      | (go_at_call 5; refine (HW.out _).mono ?_; rintro e w2 ⟨rfl, hf⟩; have HF := Lib.hid hf; clear hf))
    go_ret
    exact ⟨rfl, HF.out.below (fun _ _ e => e)⟩
end Go.Proofs.YtgmohgofcjemkaaDoor

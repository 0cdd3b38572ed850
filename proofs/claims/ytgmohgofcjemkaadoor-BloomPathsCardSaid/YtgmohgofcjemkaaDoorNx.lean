/- What is proved: changed paths with all directories that they lie in, by the program. Conditions: the list's cells are there; at most eight hundred texts. -/
import Derived.Test.YtgmohgofcjemkaaDoorNe
import Derived.Test.YtgmohgofcjemkaaDoorNr
namespace Go.Proofs.YtgmohgofcjemkaaDoor
open Go.RowKit Go.Sort Go.Shelf Go.Maps
set_option linter.unusedVariables false

set_option maxHeartbeats 3200000 in
set_option maxRecDepth 100000 in
theorem Paths_any (A : Option Addr) (c : Nat) (l : List (List UInt8)) (hn : l.length ≤ 800) (hp : ∀ p ∈ l, p.length ≤ 100000) (w : World) (hA : Lies w A (strM l)) :
    Calls Tryd.prog 6 #[.slice A l.length c] w fun e w' => ∃ v, e = .returned v ∧ OwnS w w' v (pathsL l) := by
  have hmm := @run_makeMap Tryd.prog
  have HU := Lib.hid (fun w1 (h1 : SetAt w1 w.heap.size (allP l)) => Rising_any w.heap.size (allP l) (by have := allP_len l; omega) w1 h1)
  have HTa := Lib.hid (List.take_length (l := l))
  have HTs := Lib.hid (txt_snoc l)
  have HPl : Hid (∀ k, k < l.length → (l.getD k []).length ≤ 100000) := Lib.hid (fun k hk => hp _ (by rw [List.getD_eq_getElem?_getD, List.getElem?_eq_getElem hk]; exact List.getElem_mem hk))
  have HL2 := Lib.hid hA
  have HLe := Lib.hid (fun k => show (allP (l.take k)).length ≤ 96000 from by have h1 := allP_len (l.take k); have h2 := List.length_take_le k l; have h3 := List.length_take_le' k l; omega)
  have HUn : Hid (unl (allP l) = pathsL l) := Lib.hid rfl
  obtain ⟨L, hL⟩ : ∃ L, l.length = L := ⟨_, rfl⟩
  have HLn := Lib.hid hL
  rw [hL] at hn HTa HTs HPl ⊢
  have HS0 := Lib.hid (SetAt.made w)
  have HF0 := Lib.hid (show Fr (fun _ => False) w (w.alloc (.map #[] 0)) from (Fr.refl _ w).alloc _)
  clear hA hL hp
  go_enter Tryd.func6, Tryd.ntmps6
  go_wp2
  go_loopg [10] L (fun kx s10 wr => ∃ k : Nat, k ≤ L ∧ s10 = .int .i64 k ∧ L - k ≤ kx ∧ Hid (SetAt wr w.heap.size (allP (l.take k))) ∧ Hid (Fr (fun _ => False) w wr))
  case atStart => exact ⟨0, by omega, rfl, by omega, HS0, HF0⟩
  case round =>
    obtain ⟨k, hk, rfl, hkx, HO, HFr⟩ := hrel
    obtain ⟨wo, rfl⟩ : ∃ wo, wo = wr := ⟨wr, rfl⟩
    have wk := wrap_nat1 k (by omega)
    by_cases hlt : k < L
    · have hk0 : (k : Int) < L := by omega
      have hkz : (0 : Int) ≤ (k : Int) := by omega
      obtain ⟨b, o, hA, hcA⟩ := lies_nameM HL2.out HFr.out (by rw [HLn.out]; omega)
      subst hA
      have cx := hcA k (by rw [HLn.out]; exact hlt)
      have HTk := Lib.hid (HTs.out k hlt)
      have HRt := Lib.hid (fun w => RtRight_any (l.getD k []) (by have := HPl.out k hlt; omega) w)
      obtain ⟨x, hx⟩ : ∃ x, l.getD k [] = x := ⟨_, rfl⟩
      have hxl := HPl.out k hlt
      rw [hx] at cx HTk HRt hxl
      have HAl : Hid (allP (l.take (k + 1)) = allP (l.take k) ++ upR x) := Lib.hid (by rw [HTk.out, allP_snoc])
      have HLk := HLe.out (k + 1)
      obtain ⟨T, hT⟩ : ∃ T, allP (l.take (k + 1)) = T := ⟨_, rfl⟩
      obtain ⟨acc, hacc⟩ : ∃ a, allP (l.take k) = a := ⟨_, rfl⟩
      have HTT := Lib.hid hT
      rw [hT, hacc] at HAl
      rw [hT] at HLk
      rw [hacc] at HO
      clear hcA hx hT hacc
      obtain ⟨r, hr⟩ : ∃ r, rightB x = r := ⟨_, rfl⟩
      rw [hr] at HRt
      cases r
      · have HE : Hid (T = acc) := Lib.hid (by rw [HAl.out, upR, hr]; simp)
        clear hr
        go_wp2_with (go_at_call 14; refine (HRt.out _).mono ?_; rintro e w1 ⟨rfl, b1⟩; have HF1 := Lib.hid (Fr.of_below (S := fun _ => False) b1); clear b1)
        go_roundg (L - (k + 1))
        case measure => omega
        case rel => exact ⟨k + 1, by omega, by go_num, Nat.le_refl _, Lib.hid (by rw [HTT.out, HE.out]; exact HO.out.fr HF1.out (fun e => e)), Lib.hid (HFr.out.trans HF1.out (fun _ _ e => e))⟩
      · have HE : Hid (T = acc ++ ups x.length x) := Lib.hid (by rw [HAl.out, upR, hr]; simp)
        clear hr
        go_wp2_with (go_at_call 14; refine (HRt.out _).mono ?_; rintro e w1 ⟨rfl, b1⟩; have HF1 := Lib.hid (Fr.of_below (S := fun _ => False) b1); clear b1)
        have HO1 := Lib.hid (HO.out.fr HF1.out (fun e => e))
        have HFr1 := Lib.hid (HFr.out.trans HF1.out (fun _ _ e => e))
        clear cx
        have HXx := Lib.hid hxl
        clear hxl
        go_loopg [6] (x.length) (fun kx s6 wr => ∃ (f : Nat) (s : List UInt8) (acc1 : List (List UInt8)), s6 = .string (strB s) ∧ Hid (SetAt wr w.heap.size acc1) ∧ Hid (Fr (fun _ => False) w wr) ∧ Hid (acc1 ++ ups f s = T) ∧ s.length ≤ f ∧ f ≤ kx ∧ Hid (s.length ≤ 100000))
        case atStart => exact ⟨x.length, x, acc, rfl, HO1, HFr1, Lib.hid HE.out.symm, Nat.le_refl _, Nat.le_refl _, HXx⟩
        case round =>
          obtain ⟨f, s, acc1, rfl, HO2, HFr2, HT2, hsf, hfk, HSl⟩ := hrel
          obtain ⟨wi, rfl⟩ : ∃ wi, wi = wr := ⟨wr, rfl⟩
          by_cases h0 : s = []
          · subst h0
            have HTe := Lib.hid (show T = acc1 from by rw [← HT2.out, ups_nil, List.append_nil])
            have hb0 : strB [] = ByteArray.mk #[] := rfl
            rw [hb0]
            go_wp2
            go_roundg (L - (k + 1))
            case measure => omega
            case rel => exact ⟨k + 1, by omega, by go_num, Nat.le_refl _, Lib.hid (by rw [HTT.out, HTe.out]; exact HO2.out), HFr2⟩
          · obtain ⟨f', rfl⟩ : ∃ f', f = f' + 1 := ⟨f - 1, by have : 0 < s.length := List.length_pos_iff.2 h0; omega⟩
            have HT3 := Lib.hid (show (acc1 ++ [s]) ++ ups f' (dirB s) = T from by rw [← HT2.out, ups_step h0, List.append_assoc]; rfl)
            have hds := dir_short h0
            have HDr := Lib.hid (fun w => RtDir_any s (by have := HSl.out; omega) w)
            have HSl2 := Lib.hid (show (dirB s).length ≤ 100000 from by have := HSl.out; omega)
            have hsf2 : (dirB s).length ≤ f' := by omega
            have hal : acc1.length ≤ 96000 := by have h9 := congrArg List.length HT2.out; rw [List.length_append] at h9; omega
            have HPu := Lib.hid (Put_any w.heap.size acc1 (by omega) s (by have := HSl.out; unfold maxLen; omega) wi HO2.out)
            obtain ⟨d, hd⟩ : ∃ d, dirB s = d := ⟨_, rfl⟩
            rw [hd] at HT3 HDr HSl2 hsf2
            have hL := strB_list s
            have h' : s.isEmpty = false := by simpa using h0
            have hbe : (s == []) = false := by simpa using h0
            obtain ⟨S, hS⟩ : ∃ S, strB s = S := ⟨_, rfl⟩
            rw [hS] at hL HDr HPu
            rw [hS]
            clear hd hS hds
            go_wp2_with (first
              | (go_at_call 16; refine HPu.out.mono ?_; rintro e w4 ⟨rfl, hs4, hf4⟩
                 have HS4 := Lib.hid hs4
                 have HF4 := Lib.hid (show Fr (fun _ => False) w w4 from HFr2.out.trans hf4 (fun i hi e => by omega))
                 clear hs4 hf4)
              | (go_at_call 15; refine (HDr.out _).mono ?_; rintro e w5 ⟨rfl, rfl⟩))
            go_roundg f'
            case measure => omega
            case rel => exact ⟨f', d, acc1 ++ [s], rfl, HS4, HF4, HT3, hsf2, Nat.le_refl _, HSl2⟩
    · obtain rfl : k = L := by omega
      rw [HTa.out] at HO
      have HUk := Lib.hid (HU.out wo HO.out)
      go_wp2_with (go_at_call 17; refine HUk.out.mono ?_; rintro e w1 ⟨v1, rfl, h1⟩; have HV1 := Lib.hid (h1.baseU HFr.out); clear h1)
      go_ret
      exact ⟨_, rfl, by rw [← HUn.out]; exact HV1.out⟩
end Go.Proofs.YtgmohgofcjemkaaDoor

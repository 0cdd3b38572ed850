/- What is proved: changed paths with all directories that they lie in, by the document. Conditions: the list's cells are there; at most eight hundred texts. -/
import Derived.Test.YtgmohgofcjemkaaDoorNd
namespace Go.Proofs.YtgmohgofcjemkaaDoor
open Go.RowKit Go.Sort Go.Shelf
set_option linter.unusedVariables false

/-- A path and the directories above it. -/
def ups : Nat → List UInt8 → List (List UInt8)
  | 0, _ => []
  | n + 1, s => if s = [] then [] else s :: ups n (dirB s)
theorem ups_nil (n : Nat) : ups n [] = [] := by cases n <;> simp [ups]
theorem ups_step {n : Nat} {s : List UInt8} (h : s ≠ []) : ups (n + 1) s = s :: ups n (dirB s) := by rw [ups, if_neg h]
theorem ups_len : ∀ (n : Nat) (s : List UInt8), (ups n s).length ≤ n
  | 0, _ => Nat.le_refl _
  | n + 1, s => by
    rw [ups]
    split
    · simp
    · have := ups_len n (dirB s)
      rw [List.length_cons]; omega
theorem dir_short {s : List UInt8} (h : s ≠ []) : (dirB s).length + 1 ≤ s.length := by
  obtain ⟨k, hk, _, _, hd⟩ := last_nat s
  have : 0 < s.length := List.length_pos_iff.2 h
  rw [hd, List.length_take]
  omega
def upR (p : List UInt8) : List (List UInt8) := if rightB p = true then ups p.length p else []
def allP (l : List (List UInt8)) : List (List UInt8) := l.flatMap upR
theorem allP_snoc (l : List (List UInt8)) (p : List UInt8) : allP (l ++ [p]) = allP l ++ upR p := by simp [allP]
theorem upR_len (p : List UInt8) : (upR p).length ≤ 120 := by
  unfold upR
  split
  · rename_i h
    have h1 := ups_len p.length p
    unfold rightB at h
    simp only [Bool.and_eq_true, decide_eq_true_eq] at h
    omega
  · simp
theorem allP_len : ∀ l : List (List UInt8), (allP l).length ≤ 120 * l.length
  | [] => by simp [allP]
  | p :: l => by
    have h1 := allP_len l
    have h2 := upR_len p
    unfold allP at h1 ⊢
    rw [List.flatMap_cons, List.length_append, List.length_cons]
    omega
/-- Changed paths, with all directories that they lie in. -/
def pathsL (l : List (List UInt8)) : List (List UInt8) := unl (allP l)

set_option maxHeartbeats 3200000 in
set_option maxRecDepth 100000 in
theorem QbPaths_any (A : Option Addr) (c : Nat) (l : List (List UInt8)) (hn : l.length ≤ 800) (hp : ∀ p ∈ l, p.length ≤ 100000) (w : World) (hA : Lies w A (strM l)) :
    Calls Tryd.prog 8 #[.slice A l.length c] w fun e w' => ∃ v, e = .returned v ∧ OwnS w w' v (pathsL l) := by
  obtain ⟨j0, hj, hy0, hy1, hy2⟩ := info_parts infoM
  have HU := Lib.hid (fun A c w1 (h1 : Lies w1 A (strM (allP l))) => QbUnlike_any A c (allP l) (by have := allP_len l; omega) w1 h1)
  have HTa := Lib.hid (List.take_length (l := l))
  have HTs := Lib.hid (txt_snoc l)
  have HPl : Hid (∀ k, k < l.length → (l.getD k []).length ≤ 100000) := Lib.hid (fun k hk => hp _ (by rw [List.getD_eq_getElem?_getD, List.getElem?_eq_getElem hk]; exact List.getElem_mem hk))
  have HL2 := Lib.hid hA
  have HLe := Lib.hid (fun k => show (allP (l.take k)).length ≤ 96000 from by have h1 := allP_len (l.take k); have h2 := List.length_take_le k l; have h3 := List.length_take_le' k l; omega)
  have HUn : Hid (unl (allP l) = pathsL l) := Lib.hid rfl
  obtain ⟨L, hL⟩ : ∃ L, l.length = L := ⟨_, rfl⟩
  have HLn := Lib.hid hL
  rw [hL] at hn HTa HTs HPl ⊢
  clear hA hL hp
  go_enter Tryd.func8, Tryd.ntmps8
  go_wp2_with fail
  go_loopg [3, 4] L (fun kx v s4 wr => ∃ k : Nat, k ≤ L ∧ s4 = .int .i64 k ∧ L - k ≤ kx ∧ Hid (OwnS w wr v (allP (l.take k))))
  case atStart => exact ⟨0, by omega, rfl, by omega, Lib.hid (OwnS.nil (Fr.refl _ w))⟩
  case round =>
    obtain ⟨k, hk, rfl, hkx, HO⟩ := hrel
    obtain ⟨wo, rfl⟩ : ∃ wo, wo = wr := ⟨wr, rfl⟩
    have wk := wrap_nat1 k (by omega)
    by_cases hlt : k < L
    · have hk0 : (k : Int) < L := by omega
      obtain ⟨b, o, hA, hcA⟩ := lies_nameM HL2.out HO.out.2 (by rw [HLn.out]; omega)
      subst hA
      have cx := hcA k (by rw [HLn.out]; exact hlt)
      have HTk := Lib.hid (HTs.out k hlt)
      have HRt := Lib.hid (fun w => QrRight_any (l.getD k []) (by have := HPl.out k hlt; omega) w)
      obtain ⟨x, hx⟩ : ∃ x, l.getD k [] = x := ⟨_, rfl⟩
      have hxl := HPl.out k hlt
      rw [hx] at cx HTk HRt hxl
      have HAl : Hid (allP (l.take (k + 1)) = allP (l.take k) ++ upR x) := Lib.hid (by rw [HTk.out, allP_snoc])
      have HLk := HLe.out (k + 1)
      obtain ⟨T, hT⟩ : ∃ T, allP (l.take (k + 1)) = T := ⟨_, rfl⟩
      obtain ⟨acc, hacc⟩ : ∃ a, allP (l.take k) = a := ⟨_, rfl⟩
      have HTT := Lib.hid hT
      rw [hT, hacc] at HAl
      rw [hT] at HLk
      rw [hacc] at HO
      clear hcA hx hT hacc
      obtain ⟨r, hr⟩ : ∃ r, rightB x = r := ⟨_, rfl⟩
      rw [hr] at HRt
      cases r
      · have HE : Hid (T = acc) := Lib.hid (by rw [HAl.out, upR, hr]; simp)
        clear hr
        go_wp2_with (go_at_call 10; refine (HRt.out _).mono ?_; rintro e w1 ⟨rfl, b1⟩; have HO1 := Lib.hid (HO.out.fr (Fr.of_below (S := fun _ => False) b1)); clear b1)
        go_roundg (L - (k + 1))
        case measure => omega
        case rel => exact ⟨k + 1, by omega, by go_num, Nat.le_refl _, Lib.hid (by rw [HTT.out, HE.out]; exact HO1.out)⟩
      · have HE : Hid (T = acc ++ ups x.length x) := Lib.hid (by rw [HAl.out, upR, hr]; simp)
        clear hr
        have cx2 : ∀ w1, Fr (fun _ => False) wo w1 → w1.cell? ⟨b, o + k, none⟩ = some (.string (strB x)) := fun w1 f => f.cell cx (fun e => e)
        have HCx := Lib.hid cx2
        clear cx2
        go_upto_block 2 with (go_at_call 10; refine (HRt.out _).mono ?_; rintro e w1 ⟨rfl, b1⟩; have HF1 := Lib.hid (Fr.of_below (S := fun _ => False) b1); have HO1 := Lib.hid (HO.out.fr HF1.out); have cx3 := HCx.out w1 HF1.out; clear b1)
        clear cx cx3
        have HXx := Lib.hid hxl
        clear hxl
        go_wp2
        go_loopg [3, 5] (x.length) (fun kx s3 s5 wr => ∃ (f : Nat) (s : List UInt8) (acc1 : List (List UInt8)), s5 = .string (strB s) ∧ Hid (OwnS w wr s3 acc1) ∧ Hid (acc1 ++ ups f s = T) ∧ s.length ≤ f ∧ f ≤ kx ∧ Hid (s.length ≤ 100000))
        case atStart => exact ⟨x.length, x, acc, rfl, HO1, Lib.hid HE.out.symm, Nat.le_refl _, Nat.le_refl _, HXx⟩
        case round =>
          obtain ⟨f, s, acc1, rfl, HO2, HT2, hsf, hfk, HSl⟩ := hrel
          obtain ⟨wi, rfl⟩ : ∃ wi, wi = wr := ⟨wr, rfl⟩
          by_cases h0 : s = []
          · subst h0
            have HTe := Lib.hid (show T = acc1 from by rw [← HT2.out, ups_nil, List.append_nil])
            have hb0 : strB [] = ByteArray.mk #[] := rfl
            rw [hb0]
            go_wp2
            go_roundg (L - (k + 1))
            case measure => omega
            case rel => exact ⟨k + 1, by omega, by go_num, Nat.le_refl _, Lib.hid (by rw [HTT.out, HTe.out]; exact HO2.out)⟩
          · obtain ⟨f', rfl⟩ : ∃ f', f = f' + 1 := ⟨f - 1, by have : 0 < s.length := List.length_pos_iff.2 h0; omega⟩
            have HT3 := Lib.hid (show (acc1 ++ [s]) ++ ups f' (dirB s) = T from by rw [← HT2.out, ups_step h0, List.append_assoc]; rfl)
            have hds := dir_short h0
            have HDr := Lib.hid (fun w => QrDir_any s (by have := HSl.out; omega) w)
            have HSl2 := Lib.hid (show (dirB s).length ≤ 100000 from by have := HSl.out; omega)
            have hsf2 : (dirB s).length ≤ f' := by omega
            have hal : acc1.length ≤ 96000 := by have h9 := congrArg List.length HT2.out; rw [List.length_append] at h9; omega
            obtain ⟨d, hd⟩ : ∃ d, dirB s = d := ⟨_, rfl⟩
            rw [hd] at HT3 HDr HSl2 hsf2
            have hL := strB_list s
            have h' : s.isEmpty = false := by simpa using h0
            have hbe : (s == []) = false := by simpa using h0
            have hM1 : strM [s] = [.string (strB s)] := rfl
            obtain ⟨S, hS⟩ : ∃ S, strB s = S := ⟨_, rfl⟩
            rw [hS] at hL HDr hM1
            rw [hS]
            obtain ⟨wa, hwa⟩ : ∃ w1, wi.alloc (.cells #[.string S] 9) = w1 := ⟨_, rfl⟩
            have HFa := Lib.hid (show Fr (fun _ => False) wi wa from by subst hwa; exact (Fr.refl (fun _ => False) wi).alloc _)
            have HSrc := Lib.hid (show Src Tryd.prog 1 22 (.slice (some ⟨wi.heap.size, 0, none⟩) 1 1) 1 (strM [s]) wa from by rw [hM1]; subst hwa; exact src_one Tryd.underlying22 wi _ rfl)
            have HBase := Lib.hid (show w.heap.size ≤ wa.heap.size from (HO2.out.fr HFa.out).2.size)
            clear hd hS hM1 hds
            go_wp2_with (first
              | (at_builtin; refine wpList_append_row _ rfl (.tmp 26) (.tmp 28) 22 22 rfl w.heap.size 9 j0 (.string (strB [])) 1 16 Tryd.underlying22 hj hy0 hy1 hy2 rfl _ acc1.length (strM acc1) rfl (HO2.out.fr HFa.out).1 (.slice (some ⟨wi.heap.size, 0, none⟩) 1 1) 1 (strM [s]) rfl HSrc.out (by unfold maxLen; omega) (by omega) HBase.out ?_
                 intro v4 w4 o1 g1 at1
                 have HO4 := Lib.hid ((HO2.out.fr HFa.out).grow o1 g1)
                 clear o1 g1 at1)
              | (go_at_call 11; refine (HDr.out _).mono ?_; rintro e w5 ⟨rfl, rfl⟩))
            go_roundg f'
            case measure => omega
            case rel => exact ⟨f', d, acc1 ++ [s], rfl, HO4, HT3, hsf2, Nat.le_refl _, HSl2⟩
    · obtain rfl : k = L := by omega
      have HOe := Lib.hid (show OwnS w wo u3 (allP l) from by have := HO.out; rwa [HTa.out] at this)
      obtain ⟨A1, c1, hv1, _, _, _, hl1⟩ := HOe.out.slice
      have HUk := Lib.hid (HU.out A1 c1 wo hl1)
      rw [← hv1] at HUk
      have HF := Lib.hid HOe.out.2
      clear hv1 hl1
      go_wp2_with (go_at_call 18; refine HUk.out.mono ?_; rintro e w1 ⟨v1, rfl, h1⟩; have HV1 := Lib.hid (h1.baseU HF.out); clear h1)
      go_ret
      exact ⟨_, rfl, by rw [← HUn.out]; exact HV1.out⟩
end Go.Proofs.YtgmohgofcjemkaaDoor

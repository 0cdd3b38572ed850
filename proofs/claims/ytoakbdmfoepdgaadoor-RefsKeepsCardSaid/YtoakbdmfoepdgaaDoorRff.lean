/- What is proved: an id of a name, which ref a word means, which lie under a directory, by the program. Conditions: the list's cells are there; the word is not too long for any machine. -/
import Derived.Test.YtoakbdmfoepdgaaDoorRfe
namespace Go.Proofs.YtoakbdmfoepdgaaDoor
open Go.RowKit Go.Sort Go.Shelf
set_option linter.unusedVariables false

theorem ref_range {w : World} {g : Nat} {x : Rf} (h : Whole w g 50 (refV x).toArray) : w.rangeAt g 1 (Ids.idC (Ids.dgt x.id)).toList := fun j v hv => by
  rw [h.cell, Nat.add_comm 1 j, List.getElem?_toArray]
  simpa [refV] using hv
theorem idC_sz (n : Nat) : (Tryd.prog.info? 41).map (·.size) = some (Ids.idC (Ids.dgt n)).size := by rw [Ids.idC_size]; exact Ids.size32
theorem idC_al (n : Nat) : (Ids.idC (Ids.dgt n)).all (·.oneCell') = true := Ids.idC_one _

set_option maxHeartbeats 1600000 in
set_option maxRecDepth 100000 in
theorem RfFind_any (A : Option Addr) (cap : Nat) (l : List Rf) (hn : l.length ≤ 100000) (n : List UInt8) (w : World) (h : Lies w A (flatR l)) :
    Calls Tryd.prog 21 #[.slice A l.length cap, .string (strB n)] w fun e w' => e = .returned (.tuple #[.agg (Ids.idC (Ids.dgt (optR (findR l n)).id)), .bool (findR l n).isSome]) ∧ Below w.heap.size w w' := by
  have HFF := Lib.hid (fun (w' : World) (f : Fr (fun _ => False) w w') (B : Option Addr) (h2 : Lies w' B (strV [n])) => RfFirst_any A cap l hn B 1 [n] (by simp) w' (h.fr f (fun _ _ e => e)) h2)
  rw [firstR_one] at HFF
  obtain ⟨f, hfnd⟩ : ∃ f, findR l n = f := ⟨_, rfl⟩
  rw [hfnd] at HFF ⊢
  have HI0 := Lib.hid (fun (w' : World) (g : Nat) (hh : Whole w' g 50 (refV (optR f)).toArray) => ref_range hh)
  have HIS := Lib.hid (idC_sz (optR f).id)
  have HIA := Lib.hid (idC_al (optR f).id)
  have hci := Ids.idC_size (Ids.dgt (optR f).id)
  have hfs := refV_size (optR f)
  have HFO := Lib.hid (refV_all (optR f))
  obtain ⟨cf, hcf⟩ : ∃ c, (refV (optR f)).toArray = c := ⟨_, rfl⟩
  obtain ⟨ci, hcI⟩ : ∃ c, Ids.idC (Ids.dgt (optR f).id) = c := ⟨_, rfl⟩
  obtain ⟨fb, hfb⟩ : ∃ b, f.isSome = b := ⟨_, rfl⟩
  obtain ⟨L, hL⟩ : ∃ L, l.length = L := ⟨_, rfl⟩
  obtain ⟨S, hS⟩ : ∃ S, strB n = S := ⟨_, rfl⟩
  have HV : Hid ((strV [n]).toArray = #[.string S]) := Lib.hid (by rw [← hS]; rfl)
  rw [hcf, hfb, hL] at HFF
  rw [hcf] at hfs HFO HI0
  rw [hcI] at HI0 HIS HIA hci ⊢
  rw [hfb, hL, hS]
  clear hcf hfb hL hfnd hcI hS h
  obtain ⟨w1, hw1⟩ : ∃ w1, w.alloc (.cells Ids.zero32 41) = w1 := ⟨_, rfl⟩
  have HZ1 := Lib.hid (show Whole w1 w.heap.size 41 Ids.zero32 from by subst hw1; exact Whole.new w 41 Ids.zero32)
  have HF1 := Lib.hid (show Fr (fun _ => False) w w1 from by subst hw1; exact (Fr.refl (fun _ => False) w).alloc _)
  unfold Ids.zero32 at hw1
  simp [List.replicate] at hw1
  go_enter Tryd.func21, Tryd.ntmps21
  go_wp2_with (first
    | (have _ := M2
       refine wpList_store_at rfl 41 _ _ rfl w.heap.size 0 41 Ids.zero32 ci rfl rfl (HZ1.out.fr HF4.out (fun e => e)) (by rw [hci]; decide) HIS.out HIA.out ?_
       intro w5 hw5 hf5)
    | (have _ := M1
       refine wpList_load_mid rfl 41 _ rfl w3.heap.size 1 rfl _ _ (HI0.out _ _ HW4.out) Tryd.underlying41 rfl (by rw [Array.length_toList]; exact HIS.out) ?_
       rw [Array.toArray_toList]
       have M2 := True.intro)
    | (go_at_call 44; refine (HFF.out (w1.alloc (.cells #[.string S] 9)) (HF1.out.alloc _) (some ⟨w1.heap.size, 0, none⟩) (by have := Whole.new w1 9 #[.string S]; rw [← HV.out] at this; rw [← HV.out]; exact Lies.of_whole this)).mono ?_; rintro e w3 ⟨rfl, b3⟩
       have HF3 := Lib.hid ((((Fr.refl (fun _ => False) w1).alloc (.cells #[.string S] 9)).then_below b3))
       clear b3)
    | (refine wpList_store_at rfl 50 _ _ rfl w3.heap.size 0 50 zeroR cf rfl rfl (Whole.new w3 50 zeroR) (by rw [zeroR_size, hfs]; exact Nat.le_refl _) (by rw [hfs]; exact size_ref) HFO.out ?_
       intro w4 hw4 hf4
       rw [laidAt_all _ _ (by rw [zeroR_size, hfs])] at hw4
       have HW4 := Lib.hid hw4
       have HF4 := Lib.hid (HF3.out.trans (((Fr.refl (fun _ => False) w3).alloc _).trans hf4 (fun i hi e => by omega)) (fun _ _ e => e))
       have M1 := True.intro
       clear hw4 hf4))
  rw [laidAt_all _ _ (by rw [hci]; rfl)] at hw5
  refine bodyPost_ret (v := .tuple #[.agg ci, .bool fb]) (results_cell_slot (p := 4) (u := 5) rfl _ _ _ _ _ _ rfl hw5 Tryd.underlying41 rfl HIS.out) rfl ?_
  exact ⟨rfl, ((HF1.out.trans HF4.out (fun _ _ e => e)).trans hf5 (fun i hi e => by omega)).below (fun _ _ e => e)⟩

/-- Which ref a word means, or the error. -/
def wordN (word : List UInt8) : List (List UInt8) := [word, [104, 101, 97, 100, 115] ++ 47 :: word, [116, 97, 103, 115] ++ 47 :: word]
def resR (l : List Rf) (word : List UInt8) : Rf × Int := if chkR l = 0 then (match firstR l (wordN word) with | some r => (r, 0) | none => (default, 35)) else (default, chkR l)

set_option maxHeartbeats 3200000 in
set_option maxRecDepth 100000 in
theorem RfResolve_any (A : Option Addr) (cap : Nat) (l : List Rf) (hn : l.length ≤ 100000) (hcap : l.length ≤ cap) (n : List UInt8) (hl : n.length ≤ 9223372036854775000) (w : World) (h : Lies w A (flatR l)) :
    Calls Tryd.prog 23 #[.slice A l.length cap, .string (strB n)] w fun e w' => e = .returned (.tuple #[.agg (refV (resR l n).1).toArray, .int .i64 (resR l n).2]) ∧ Below w.heap.size w w' := by
  have HFF := Lib.hid (fun (w' : World) (f : Fr (fun _ => False) w w') (B : Option Addr) (h2 : Lies w' B (strV (wordN n))) => RfFirst_any A cap l hn B 3 (wordN n) (by simp [wordN]) w' (h.fr f (fun _ _ e => e)) h2)
  have HCk := Lib.hid (fun (w' : World) (f : Fr (fun _ => False) w w') => RfCheck_any A cap l hn hcap w' (h.fr f (fun _ _ e => e)))
  have HJ1 := Lib.hid (fun w => RtJoin_any [104, 101, 97, 100, 115] n (by simp; omega) w)
  have HJ2 := Lib.hid (fun w => RtJoin_any [116, 97, 103, 115] n (by simp; omega) w)
  have e1 : joinB [104, 101, 97, 100, 115] n = [104, 101, 97, 100, 115] ++ 47 :: n := by rw [joinB, if_neg (by decide)]
  have e2 : joinB [116, 97, 103, 115] n = [116, 97, 103, 115] ++ 47 :: n := by rw [joinB, if_neg (by decide)]
  rw [e1] at HJ1
  rw [e2] at HJ2
  have HR : Hid (resR l n = if chkR l = 0 then (match firstR l (wordN n) with | some r => (r, 0) | none => (default, 35)) else (default, chkR l)) := Lib.hid rfl
  have HV : Hid ((strV (wordN n)).toArray = #[.string (strB n), .string (strB ([104, 101, 97, 100, 115] ++ 47 :: n)), .string (strB ([116, 97, 103, 115] ++ 47 :: n))]) := Lib.hid rfl
  obtain ⟨f, hfnd⟩ : ∃ f, firstR l (wordN n) = f := ⟨_, rfl⟩
  rw [hfnd] at HFF HR
  have hfs := refV_size (optR f)
  have HFO := Lib.hid (refV_all (optR f))
  obtain ⟨cf, hcf⟩ : ∃ c, (refV (optR f)).toArray = c := ⟨_, rfl⟩
  obtain ⟨fb, hfb⟩ : ∃ b, f.isSome = b := ⟨_, rfl⟩
  obtain ⟨L, hL⟩ : ∃ L, l.length = L := ⟨_, rfl⟩
  obtain ⟨c, hc⟩ : ∃ c, chkR l = c := ⟨_, rfl⟩
  obtain ⟨S, hS⟩ : ∃ S, strB n = S := ⟨_, rfl⟩
  obtain ⟨S1, hS1⟩ : ∃ S, strB ([104, 101, 97, 100, 115] ++ 47 :: n) = S := ⟨_, rfl⟩
  obtain ⟨S2, hS2⟩ : ∃ S, strB ([116, 97, 103, 115] ++ 47 :: n) = S := ⟨_, rfl⟩
  rw [show strB [104, 101, 97, 100, 115] = { data := #[104, 101, 97, 100, 115] } from rfl] at HJ1
  rw [show strB [116, 97, 103, 115] = { data := #[116, 97, 103, 115] } from rfl] at HJ2
  rw [hS, hS1, hS2] at HV
  rw [hS, hS1] at HJ1
  rw [hS, hS2] at HJ2
  rw [hcf, hfb, hL] at HFF
  rw [hc, hL] at HCk
  rw [hc] at HR
  rw [hcf] at hfs HFO
  have HCF := Lib.hid hcf
  have HFB := Lib.hid hfb
  rw [hL, hS]
  clear hcf hfb hL hfnd hS hS1 hS2 hc h e1 e2 hl hn hcap
  obtain ⟨w1, hw1⟩ : ∃ w1, w.alloc (.cells zeroR 50) = w1 := ⟨_, rfl⟩
  have HZ1 := Lib.hid (show Whole w1 w.heap.size 50 zeroR from by subst hw1; exact Whole.new w 50 zeroR)
  have HF1 := Lib.hid (show Fr (fun _ => False) w w1 from by subst hw1; exact (Fr.refl (fun _ => False) w).alloc _)
  have hza : zeroR.all (·.oneCell') = true := by rw [← zeroR_eq]; exact refV_all _
  have HZA := Lib.hid hza
  clear hza
  unfold zeroR at hw1
  simp [List.replicate] at hw1
  obtain ⟨T, hT⟩ : ∃ T : TypeId, T = 50 := ⟨_, rfl⟩
  obtain ⟨n33, h33⟩ : ∃ n : Nat, n = 33 := ⟨_, rfl⟩
  have ag33 : ∀ w, (isAgg T).run Tryd.prog w = .ok true w := by rw [hT]; exact fun _ => by kernel_rfl
  have sz33 : ∀ w, (sizeOf T).run Tryd.prog w = .ok n33 w := by rw [hT, h33]; exact fun _ => by kernel_rfl
  have HN := Lib.hid h33
  clear h33
  go_enter Tryd.func23, Tryd.ntmps23
  rw [show Op.load 50 (.tmp 7) = Op.load T (.tmp 7) by rw [hT]]
  clear hT
  by_cases hc0 : c = 0
  · subst hc0
    cases fb
    · (
      go_wp2_with (first
        | (have _ := M1
           refine wpList_store_at rfl 50 _ _ rfl w.heap.size 0 50 zeroR zeroR rfl rfl (HZ1.out.fr HF4.out (fun e => e)) (by first | exact Nat.le_refl _ | (rw [zeroR_size, hfs]; exact Nat.le_refl _)) (by first | exact size_ref | (rw [hfs]; exact size_ref)) (by first | exact HZA.out | exact HFO.out) ?_
           intro w5 hw5 hf5)
        | (go_at_call 44; refine (HFF.out (w2.alloc (.cells #[.string S, .string S1, .string S2] 9)) ((HF1.out.trans HF2.out (fun _ _ e => e)).alloc _) (some ⟨w2.heap.size, 0, none⟩) (by have := Whole.new w2 9 #[.string S, .string S1, .string S2]; rw [← HV.out] at this; rw [← HV.out]; exact Lies.of_whole this)).mono ?_; rintro e w3 ⟨rfl, b3⟩
           have HF3 := Lib.hid (HF2.out.trans (((Fr.refl (fun _ => False) w2).alloc (.cells #[.string S, .string S1, .string S2] 9)).then_below b3) (fun _ _ e => e))
           clear b3)
        | (go_at_call_of 45 (Value.string { data := #[104, 101, 97, 100, 115] }); refine (HJ1.out _).mono ?_; rintro e w9 ⟨rfl, rfl⟩)
        | (go_at_call_of 45 (Value.string { data := #[116, 97, 103, 115] }); refine (HJ2.out _).mono ?_; rintro e w9 ⟨rfl, rfl⟩)
        | (go_at_call 12; refine (HCk.out w1 HF1.out).mono ?_; rintro e w2 ⟨rfl, b2⟩; have HF2 := Lib.hid (Fr.of_below (S := fun _ => False) b2); skip; clear b2)
        | (refine wpList_store_at rfl 50 _ _ rfl w3.heap.size 0 50 zeroR cf rfl rfl (Whole.new w3 50 zeroR) (by rw [zeroR_size, hfs]; exact Nat.le_refl _) (by rw [hfs]; exact size_ref) HFO.out ?_
           intro w4 hw4 hf4
           rw [laidAt_all _ _ (by rw [zeroR_size, hfs])] at hw4
           have HF4 := Lib.hid (HF3.out.trans (((Fr.refl (fun _ => False) w3).alloc _).trans hf4 (fun i hi e => by omega)) (fun _ _ e => e))
           skip
           have M1 := True.intro
           clear hw4 hf4))
      rw [laidAt_all _ _ (by first | rfl | (rw [zeroR_size, hfs]))] at hw5)
      refine bodyPost_ret (v := .tuple #[.agg zeroR, .int .i64 35]) (results_cell_slot (p := 4) (u := 5) rfl _ _ _ _ _ _ rfl hw5 Tryd.underlying50 rfl size_ref) rfl ?_
      exact ⟨by rw [HR.out, if_pos (by first | rfl | trivial)]; cases f with | some r => (have := HFB.out; cases this) | none => (rw [← zeroR_eq]), ((HF1.out.trans HF4.out (fun _ _ e => e)).trans hf5 (fun i hi e => by omega)).below (fun _ _ e => e)⟩
    · (
      go_wp2_with (first
        | (have _ := M1
           refine wpList_store_at rfl 50 _ _ rfl w.heap.size 0 50 zeroR cf rfl rfl (HZ1.out.fr HF4.out (fun e => e)) (by first | exact Nat.le_refl _ | (rw [zeroR_size, hfs]; exact Nat.le_refl _)) (by first | exact size_ref | (rw [hfs]; exact size_ref)) (by first | exact HZA.out | exact HFO.out) ?_
           intro w5 hw5 hf5)
        | (go_at_call 44; refine (HFF.out (w2.alloc (.cells #[.string S, .string S1, .string S2] 9)) ((HF1.out.trans HF2.out (fun _ _ e => e)).alloc _) (some ⟨w2.heap.size, 0, none⟩) (by have := Whole.new w2 9 #[.string S, .string S1, .string S2]; rw [← HV.out] at this; rw [← HV.out]; exact Lies.of_whole this)).mono ?_; rintro e w3 ⟨rfl, b3⟩
           have HF3 := Lib.hid (HF2.out.trans (((Fr.refl (fun _ => False) w2).alloc (.cells #[.string S, .string S1, .string S2] 9)).then_below b3) (fun _ _ e => e))
           clear b3)
        | (go_at_call_of 45 (Value.string { data := #[104, 101, 97, 100, 115] }); refine (HJ1.out _).mono ?_; rintro e w9 ⟨rfl, rfl⟩)
        | (go_at_call_of 45 (Value.string { data := #[116, 97, 103, 115] }); refine (HJ2.out _).mono ?_; rintro e w9 ⟨rfl, rfl⟩)
        | (go_at_call 12; refine (HCk.out w1 HF1.out).mono ?_; rintro e w2 ⟨rfl, b2⟩; have HF2 := Lib.hid (Fr.of_below (S := fun _ => False) b2); skip; clear b2)
        | (refine wpList_store_at rfl 50 _ _ rfl w3.heap.size 0 50 zeroR cf rfl rfl (Whole.new w3 50 zeroR) (by rw [zeroR_size, hfs]; exact Nat.le_refl _) (by rw [hfs]; exact size_ref) HFO.out ?_
           intro w4 hw4 hf4
           rw [laidAt_all _ _ (by rw [zeroR_size, hfs])] at hw4
           have HF4 := Lib.hid (HF3.out.trans (((Fr.refl (fun _ => False) w3).alloc _).trans hf4 (fun i hi e => by omega)) (fun _ _ e => e))
           have l3 : (loadCellsFrom ⟨w3.heap.size, 0, none⟩ 0 n33 #[]).run Tryd.prog w4 = .ok cf w4 := (by have h2 := run_loadCells_list (P := Tryd.prog) w4 ⟨w3.heap.size, 0, none⟩ cf.toList (fun j v hv => by rw [add_off, Nat.zero_add, hw4.cell]; simpa using hv); rw [Array.length_toList, hfs] at h2; rw [HN.out]; simpa [loadCells] using h2)
           have M1 := True.intro
           clear hw4 hf4))
      rw [laidAt_all _ _ (by first | rfl | (rw [zeroR_size, hfs]))] at hw5)
      refine bodyPost_ret (v := .tuple #[.agg cf, .int .i64 0]) (results_cell_slot (p := 4) (u := 5) rfl _ _ _ _ _ _ rfl hw5 Tryd.underlying50 rfl (by rw [hfs]; exact size_ref)) rfl ?_
      exact ⟨by rw [HR.out, if_pos (by first | rfl | trivial)]; cases f with | none => (have := HFB.out; cases this) | some r => (rw [← HCF.out]; rfl), ((HF1.out.trans HF4.out (fun _ _ e => e)).trans hf5 (fun i hi e => by omega)).below (fun _ _ e => e)⟩
  · (
    go_wp2_with (first
      | (have _ := M1
         refine wpList_store_at rfl 50 _ _ rfl w.heap.size 0 50 zeroR zeroR rfl rfl (HZ1.out.fr HF4.out (fun e => e)) (by first | exact Nat.le_refl _ | (rw [zeroR_size, hfs]; exact Nat.le_refl _)) (by first | exact size_ref | (rw [hfs]; exact size_ref)) (by first | exact HZA.out | exact HFO.out) ?_
         intro w5 hw5 hf5)
      | (go_at_call 44; refine (HFF.out (w2.alloc (.cells #[.string S, .string S1, .string S2] 9)) ((HF1.out.trans HF2.out (fun _ _ e => e)).alloc _) (some ⟨w2.heap.size, 0, none⟩) (by have := Whole.new w2 9 #[.string S, .string S1, .string S2]; rw [← HV.out] at this; rw [← HV.out]; exact Lies.of_whole this)).mono ?_; rintro e w3 ⟨rfl, b3⟩
         have HF3 := Lib.hid (HF2.out.trans (((Fr.refl (fun _ => False) w2).alloc (.cells #[.string S, .string S1, .string S2] 9)).then_below b3) (fun _ _ e => e))
         clear b3)
      | (go_at_call_of 45 (Value.string { data := #[104, 101, 97, 100, 115] }); refine (HJ1.out _).mono ?_; rintro e w9 ⟨rfl, rfl⟩)
      | (go_at_call_of 45 (Value.string { data := #[116, 97, 103, 115] }); refine (HJ2.out _).mono ?_; rintro e w9 ⟨rfl, rfl⟩)
      | (go_at_call 12; refine (HCk.out w1 HF1.out).mono ?_; rintro e w2 ⟨rfl, b2⟩; have HF2 := Lib.hid (Fr.of_below (S := fun _ => False) b2); (have HF4 := HF2; have M1 := True.intro); clear b2)
      | (refine wpList_store_at rfl 50 _ _ rfl w3.heap.size 0 50 zeroR cf rfl rfl (Whole.new w3 50 zeroR) (by rw [zeroR_size, hfs]; exact Nat.le_refl _) (by rw [hfs]; exact size_ref) HFO.out ?_
         intro w4 hw4 hf4
         rw [laidAt_all _ _ (by rw [zeroR_size, hfs])] at hw4
         have HF4 := Lib.hid (HF3.out.trans (((Fr.refl (fun _ => False) w3).alloc _).trans hf4 (fun i hi e => by omega)) (fun _ _ e => e))
         skip
         have M1 := True.intro
         clear hw4 hf4))
    rw [laidAt_all _ _ (by first | rfl | (rw [zeroR_size, hfs]))] at hw5)
    refine bodyPost_ret (v := .tuple #[.agg zeroR, .int .i64 c]) (results_cell_slot (p := 4) (u := 5) rfl _ _ _ _ _ _ rfl hw5 Tryd.underlying50 rfl size_ref) rfl ?_
    exact ⟨by rw [HR.out, if_neg hc0, ← zeroR_eq], ((HF1.out.trans HF4.out (fun _ _ e => e)).trans hf5 (fun i hi e => by omega)).below (fun _ _ e => e)⟩
end Go.Proofs.YtoakbdmfoepdgaaDoor

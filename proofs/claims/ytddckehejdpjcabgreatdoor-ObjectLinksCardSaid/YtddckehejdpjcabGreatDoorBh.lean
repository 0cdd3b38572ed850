/- What is proved: what the walks of this seat need of layers below, merged out of the texts Rxg Rxh (of each just what is needed). Conditions: each theorem names its own. -/
import Derived.Test.YtddckehejdpjcabGreatDoorBc
import Derived.Test.YtddckehejdpjcabGreatDoorBf
import Derived.Test.YtddckehejdpjcabGreatDoorBg
/- What is proved: bytes as a tag, by the document. Conditions: the bytes' cells are there, not too many. -/
namespace Go.Proofs.YtddckehejdpjcabGreatDoor
open Go.RowKit Go.Sort Go.Shelf
open Ids (idC dgt big idC_size idC_get idC_one cellD zero32 size32 dgt_lt hexB)
set_option linter.unusedVariables false
/-- How reading a tag ends. -/
def MarkIs (w : World) (X : MarkP × Int) (e : Ending) (w' : World) : Prop := e = .returned (.tuple #[.agg (markC X.1.T X.1.k X.1.a X.1.n X.1.t), .int .i64 X.2]) ∧ Fr (fun _ => False) w w'
theorem MarkIs.bad {w w' : World} {X : MarkP × Int} {e : Ending} {k : Int} (h : X = (zeroQ, k)) (he : e = .returned (.tuple #[.agg zeroM, .int .i64 k])) (f : Fr (fun _ => False) w w') : MarkIs w X e w' := by
  subst h
  exact ⟨by rw [he, zeroM_eq]; rfl, f⟩
theorem MarkIs.good {w w' : World} {X : MarkP × Int} {e : Ending} {R : MarkP} (h : X = (R, 0)) (he : e = .returned (.tuple #[.agg (markC R.T R.k R.a R.n R.t), .int .i64 0])) (f : Fr (fun _ => False) w w') : MarkIs w X e w' := by
  subst h
  exact ⟨he, f⟩
/-- What stands while a tag is read. -/
structure Qm (w wr : World) (T : Nat) (k : Int) (a : List UInt8) (n : Int) (t : List UInt8) : Prop where
  fr : Fr (fun _ => False) w wr
  zero : Whole wr w.heap.size 54 zeroM
  mark : MarkAt wr (w.heap.size + 1) T k a n t
section
variable {w wr w' : World} {T : Nat} {k : Int} {a : List UInt8} {n : Int} {t : List UInt8}
theorem Qm.later (h : Qm w wr T k a n t) (f : Fr (fun _ => False) wr w') : Qm w w' T k a n t :=
  ⟨h.fr.trans f (fun _ _ e => e), h.zero.fr f (fun e => e), h.mark.fr f⟩
theorem Qm.put (h : Qm w wr T k a n t) {p : Addr} (hp : p.block = w.heap.size + 1) (u : Value) {k' : Int} {a' : List UInt8} {n' : Int} {t' : List UInt8} (hr : MarkAt (wr.setCell p u) (w.heap.size + 1) T k' a' n' t') : Qm w (wr.setCell p u) T k' a' n' t' := by
  have f : Fr (fun k => k = w.heap.size + 1) wr (wr.setCell p u) := Fr.setCell (S := fun k => k = w.heap.size + 1) (Fr.refl _ wr) (fun _ => hp) u
  exact ⟨h.fr.trans f (fun i hi e => by omega), h.zero.fr f (fun e => by omega), hr⟩
end
set_option maxHeartbeats 12800000 in
set_option maxRecDepth 100000 in
theorem QvGetMark_any (A : Option Addr) (c : Nat) (l : List UInt8) (hl : l.length ≤ 100000) (w : World) (h : Lies w A (bytesV l)) :
    Calls Tryz.prog 13 #[.slice A l.length c] w (MarkIs w (getM l)) := by
  obtain ⟨w1, hw1⟩ : ∃ w1, w.alloc (.cells zeroM 54) = w1 := ⟨_, rfl⟩
  obtain ⟨w2, hw2⟩ : ∃ w2, w1.alloc (.cells zeroM 54) = w2 := ⟨_, rfl⟩
  have hF1 : Fr (fun _ => False) w w1 := by subst hw1; exact (Fr.refl _ w).alloc _
  have hF2 : Fr (fun _ => False) w1 w2 := by subst hw2; exact (Fr.refl _ w1).alloc _
  have hsz1 : w1.heap.size = w.heap.size + 1 := by subst hw1; exact alloc_size _ _
  have hsz2 : w2.heap.size = w.heap.size + 2 := by subst hw2; rw [alloc_size]; omega
  have HZ : Hid (Whole w2 w.heap.size 54 zeroM) := Lib.hid ((show Whole w1 w.heap.size 54 zeroM by subst hw1; exact Whole.new w _ _).fr hF2 (fun e => e))
  have hR : Whole w2 w1.heap.size 54 zeroM := by subst hw2; exact Whole.new w1 _ _
  rw [hsz1] at hR
  have HRV : Hid (MarkAt w2 (w.heap.size + 1) 0 0 [] 0 []) := Lib.hid (by rw [MarkAt, ← zeroM_eq]; exact hR)
  have HF := Lib.hid (hF1.trans hF2 (fun _ _ e => e))
  have cv := run_convert_lies 22 9 5 Tryz.underlying22 Tryz.underlying5 Tryz.underlying9 (h.fr (hF1.trans hF2 (fun _ _ e => e)) (fun _ _ e => e)) c
  have HBZ := Lib.hid zeroM_build
  obtain ⟨X, hX⟩ : ∃ X, getM l = X := ⟨_, rfl⟩
  have HX0 : Hid (∀ G, markL l = G → X = getK G) := Lib.hid (fun G hG => by rw [← hX, getM, hG])
  have hLT := fun w => QvLine_any wObject l (by decide) (by decide) (by omega) w
  rw [hX]
  obtain ⟨n, hn⟩ : ∃ n, l.length = n := ⟨_, rfl⟩
  have HNn := Lib.hid hn
  rw [hn] at cv ⊢
  obtain ⟨S, hS⟩ : ∃ S, strB l = S := ⟨_, rfl⟩
  rw [hS] at cv hLT
  obtain ⟨W1, hW1⟩ : ∃ S, strB wObject = S := ⟨_, rfl⟩
  have e1 : ByteArray.mk #[111, 98, 106, 101, 99, 116] = W1 := hW1
  rw [hW1] at hLT
  unfold zeroM at hw1 hw2
  simp [List.replicate] at hw1 hw2
  clear hX hn hS hW1 hF1 hF2 hR h
  have HRD := Lib.hid (fun (t : List UInt8) (ht : t.length ≤ 100000) (w : World) => Ids.QRead_any (strB t) (by rw [strB_size]; omega) w)
  rcases idL_cases wObject l with ⟨ht, hi⟩ | ⟨t, r, ht, hrd, hi⟩ | ⟨t, r0, T, ht, hi, hTb, hE, hC⟩
  · have HG := Lib.hid (HX0.out none (by rw [markL, hi]))
    rw [ht] at hLT
    have HL := Lib.hid hLT
    have hrd := HRD.out [] (by decide)
    obtain ⟨P, hP⟩ : ∃ P, idC (Ids.rdA (strB [])) = P := ⟨_, rfl⟩
    obtain ⟨E, hE⟩ : ∃ E, Ids.rdE (strB []) = E := ⟨_, rfl⟩
    obtain ⟨Z, hZ⟩ : ∃ Z, strB [] = Z := ⟨_, rfl⟩
    have hPs : P.size = 32 := by rw [← hP]; exact idC_size _
    have hPo : P.all (·.oneCell') = true := by rw [← hP]; exact idC_one _
    rw [hP, hE, hZ] at hrd
    have HR := Lib.hid hrd
    have HZe := Lib.hid hZ
    clear ht hi hLT hrd hP hE
    go_enter Tryz.func13, Tryz.ntmps13
    go_wp2_with (first
      | (
        (go_at_call 24; refine (HL.out _).mono ?_; rintro e w3 ⟨rfl, b3⟩; rw [HZe.out]))
      | (
        (go_at_call 25; refine (HR.out _).mono ?_; rintro e w4 ⟨rfl, b4⟩))
      | (
        (refine wpList_build_to rfl 54 _ rfl #[] (by first | rfl | simp [Act.eval]) (.agg zeroM) (HBZ.out _) ?_))
      | (
        (have _ := M5
         refine wpList_store_at rfl 54 _ _ rfl w.heap.size 0 54 zeroM zeroM rfl rfl K5.out.zero (by decide) size36m zeroM_one ?_
         intro w6 hwz hf6
         rw [laidAt_all _ _ rfl] at hwz
         have FZ := K5.out.fr.trans hf6 (fun i hi e => by omega)))
      | (
        (refine wpList_store_at rfl 32 _ _ rfl w4.heap.size 0 32 _ P rfl rfl (Whole.new w4 32 zero32) (by rw [hPs]; decide) (by rw [hPs]; exact size32) hPo ?_
         intro w5 hw5 hf5
         rw [laidAt_all _ _ (by rw [hPs]; rfl)] at hw5
         have F24 := ((HF.out.then_below b3).then_below b4).alloc (.cells zero32 32)
         have F5 : Fr (fun _ => False) w w5 := F24.trans hf5 (fun i hi e => by have := b3.size; have := b4.size; omega)
         have Z5 : Whole w5 w.heap.size 54 zeroM := (((HZ.out.fr (Fr.of_below (S := fun _ => False) b3) (fun e => e)).fr (Fr.of_below (S := fun _ => False) b4) (fun e => e)).fr ((Fr.refl (fun _ => False) _).alloc (.cells zero32 32)) (fun e => e)).fr hf5 (fun e => by have := b3.size; have := b4.size; omega)
         have R5 : MarkAt w5 (w.heap.size + 1) 0 0 [] 0 [] := Whole.fr (((HRV.out.fr (Fr.of_below (S := fun _ => False) b3)).fr (Fr.of_below (S := fun _ => False) b4)).fr ((Fr.refl (fun _ => False) _).alloc (.cells zero32 32))) hf5 (fun e => by have := b3.size; have := b4.size; omega)
         have K5 : Hid (Qm w w5 0 0 [] 0 []) := Lib.hid ⟨F5, Z5, R5⟩
         have M5 := True.intro
         clear F24 F5 Z5 R5 hf5)))
    (
      refine bodyPost_ret (v := .tuple #[.agg zeroM, .int .i64 12]) (results_cell_slot (p := 2) (u := 3) rfl _ _ _ _ _ _ rfl hwz Tryz.underlying54 rfl size36m) rfl ?_
      exact MarkIs.bad HG.out rfl FZ)
  · have HG := Lib.hid (HX0.out none (by rw [markL, hi]))
    have htl := (takeL_len ht).1
    rw [ht] at hLT
    have HL := Lib.hid hLT
    have hrd' := HRD.out t (by omega)
    have hE0 := readI_none hrd
    obtain ⟨P, hP⟩ : ∃ P, idC (Ids.rdA (strB t)) = P := ⟨_, rfl⟩
    obtain ⟨E, hE⟩ : ∃ E, Ids.rdE (strB t) = E := ⟨_, rfl⟩
    obtain ⟨Z, hZ⟩ : ∃ Z, strB t = Z := ⟨_, rfl⟩
    have hPs : P.size = 32 := by rw [← hP]; exact idC_size _
    have hPo : P.all (·.oneCell') = true := by rw [← hP]; exact idC_one _
    rw [hP, hE, hZ] at hrd'
    rw [hE] at hE0
    have HR := Lib.hid hrd'
    have HZe := Lib.hid hZ
    clear ht hi hLT hrd hrd' hP hE hZ htl
    go_enter Tryz.func13, Tryz.ntmps13
    go_wp2_with (first
      | (
        (go_at_call 24; refine (HL.out _).mono ?_; rintro e w3 ⟨rfl, b3⟩; rw [HZe.out]))
      | (
        (go_at_call 25; refine (HR.out _).mono ?_; rintro e w4 ⟨rfl, b4⟩))
      | (
        (refine wpList_build_to rfl 54 _ rfl #[] (by first | rfl | simp [Act.eval]) (.agg zeroM) (HBZ.out _) ?_))
      | (
        (have _ := M5
         refine wpList_store_at rfl 54 _ _ rfl w.heap.size 0 54 zeroM zeroM rfl rfl K5.out.zero (by decide) size36m zeroM_one ?_
         intro w6 hwz hf6
         rw [laidAt_all _ _ rfl] at hwz
         have FZ := K5.out.fr.trans hf6 (fun i hi e => by omega)))
      | (
        (refine wpList_store_at rfl 32 _ _ rfl w4.heap.size 0 32 _ P rfl rfl (Whole.new w4 32 zero32) (by rw [hPs]; decide) (by rw [hPs]; exact size32) hPo ?_
         intro w5 hw5 hf5
         rw [laidAt_all _ _ (by rw [hPs]; rfl)] at hw5
         have F24 := ((HF.out.then_below b3).then_below b4).alloc (.cells zero32 32)
         have F5 : Fr (fun _ => False) w w5 := F24.trans hf5 (fun i hi e => by have := b3.size; have := b4.size; omega)
         have Z5 : Whole w5 w.heap.size 54 zeroM := (((HZ.out.fr (Fr.of_below (S := fun _ => False) b3) (fun e => e)).fr (Fr.of_below (S := fun _ => False) b4) (fun e => e)).fr ((Fr.refl (fun _ => False) _).alloc (.cells zero32 32)) (fun e => e)).fr hf5 (fun e => by have := b3.size; have := b4.size; omega)
         have R5 : MarkAt w5 (w.heap.size + 1) 0 0 [] 0 [] := Whole.fr (((HRV.out.fr (Fr.of_below (S := fun _ => False) b3)).fr (Fr.of_below (S := fun _ => False) b4)).fr ((Fr.refl (fun _ => False) _).alloc (.cells zero32 32))) hf5 (fun e => by have := b3.size; have := b4.size; omega)
         have K5 : Hid (Qm w w5 0 0 [] 0 []) := Lib.hid ⟨F5, Z5, R5⟩
         have M5 := True.intro
         clear F24 F5 Z5 R5 hf5)))
    (
      refine bodyPost_ret (v := .tuple #[.agg zeroM, .int .i64 12]) (results_cell_slot (p := 2) (u := 3) rfl _ _ _ _ _ _ rfl hwz Tryz.underlying54 rfl size36m) rfl ?_
      exact MarkIs.bad HG.out rfl FZ)
  · have htl := takeL_len ht
    rw [ht] at hLT
    have HL := Lib.hid hLT
    have hrd' := HRD.out t (by omega)
    rw [hE, hC] at hrd'
    have HLD := Lib.hid (markC_laid 0 0 [] 0 [] T)
    have HG0 : Hid (X = getK (markL1 T r0)) := Lib.hid (HX0.out _ (by rw [markL, hi]))
    obtain ⟨P, hP⟩ : ∃ P, idC (dgt T) = P := ⟨_, rfl⟩
    obtain ⟨Z, hZ⟩ : ∃ Z, strB t = Z := ⟨_, rfl⟩
    have hPs : P.size = 32 := by rw [← hP]; exact idC_size _
    have hPo : P.all (·.oneCell') = true := by rw [← hP]; exact idC_one _
    rw [hP] at HLD
    rw [hP, hZ] at hrd'
    have HR := Lib.hid hrd'
    have HZe := Lib.hid hZ
    have hlk := fun w => QvLine_any wKind r0 (by decide) (by decide) (by omega) w
    obtain ⟨R0, hR0⟩ : ∃ R, strB r0 = R := ⟨_, rfl⟩
    have HR0 := Lib.hid hR0
    rw [hR0] at hlk
    have hRS := markC_size 0 0 [] 0 []
    have hr0 := htl.2
    obtain ⟨W2, hW2⟩ : ∃ S, strB wKind = S := ⟨_, rfl⟩
    have e2 : ByteArray.mk #[107, 105, 110, 100] = W2 := hW2
    obtain ⟨W3, hW3⟩ : ∃ S, strB wName = S := ⟨_, rfl⟩
    have e3 : ByteArray.mk #[110, 97, 109, 101] = W3 := hW3
    obtain ⟨W4, hW4⟩ : ∃ S, strB wTime = S := ⟨_, rfl⟩
    have e4 : ByteArray.mk #[116, 105, 109, 101] = W4 := hW4
    rw [hW2] at hlk
    clear ht hi hLT hrd' hP hZ hE hC htl hR0 hW2

    cases htk : takeL wKind r0 with
    | none =>
      have HG := Lib.hid (show X = (zeroQ, 12) by rw [HG0.out, markL1, digL, numL, htk]; rfl)
      rw [htk] at hlk
      have HLK := Lib.hid hlk
      have hnk := fun w => QvNumber_any [] (by decide) w
      obtain ⟨Zx, hZx⟩ : ∃ Z, strB [] = Z := ⟨_, rfl⟩
      have HZx := Lib.hid hZx
      rw [hZx] at hnk
      obtain ⟨N1, hN1⟩ : ∃ x, (numW []).1 = x := ⟨_, rfl⟩
      obtain ⟨N2, hN2⟩ : ∃ x, (numW []).2 = x := ⟨_, rfl⟩
      rw [hN1, hN2] at hnk
      have HNK := Lib.hid hnk
      clear hZx hN1 hN2 hnk
      clear htk hlk
      go_enter Tryz.func13, Tryz.ntmps13
      go_wp2_with (first
        | (
          (go_at_call 26; refine (HNK.out _).mono ?_; rintro e w' ⟨rfl, rfl⟩))
        | (
          (have _ := K6; go_at_call 24; refine (HLK.out _).mono ?_; rintro e w7 ⟨rfl, b7⟩; rw [HZx.out]; have K7 := Lib.hid (K6.out.later (Fr.of_below (S := fun _ => False) b7)); have d7 := K7.out.mark.ck; have e7 := K7.out.mark.frozen 32))
        | (
          (have _ := M5
           refine wpList_store_at rfl 54 _ _ rfl w.heap.size 0 54 zeroM zeroM rfl rfl K7.out.zero (by decide) size36m zeroM_one ?_
           intro w6 hwz hf6
           rw [laidAt_all _ _ rfl] at hwz
           have FZ := K7.out.fr.trans hf6 (fun i hi e => by omega)))
        | (
          (go_at_call 24; refine (HL.out _).mono ?_; rintro e w3 ⟨rfl, b3⟩; rw [HZe.out, HR0.out]))
        | (
          (go_at_call 25; refine (HR.out _).mono ?_; rintro e w4 ⟨rfl, b4⟩))
        | (
          (refine wpList_build_to rfl 54 _ rfl #[] (by first | rfl | simp [Act.eval]) (.agg zeroM) (HBZ.out _) ?_))
        | (
          (refine wpList_load_row rfl 32 _ rfl _ rfl 32 _ _ _ hw5 Tryz.underlying32 rfl (by rw [hPs]; exact size32) ?_))
        | (
          (have _ := M5
           refine wpList_store_at rfl 32 _ _ rfl (w.heap.size + 1) 0 54 _ P rfl rfl K5.out.mark (by rw [hRS, hPs]; decide) (by rw [hPs]; exact size32) hPo ?_
           intro w6 hw6 hf6
           rw [HLD.out] at hw6
           have K6 : Hid (Qm w w6 T 0 [] 0 []) := Lib.hid ⟨K5.out.fr.trans hf6 (fun i hi e => by omega), K5.out.zero.fr hf6 (fun e => by omega), hw6⟩
           clear hf6 hw6))
        | (
          (refine wpList_store_at rfl 32 _ _ rfl w4.heap.size 0 32 _ P rfl rfl (Whole.new w4 32 zero32) (by rw [hPs]; decide) (by rw [hPs]; exact size32) hPo ?_
           intro w5 hw5 hf5
           rw [laidAt_all _ _ (by rw [hPs]; rfl)] at hw5
           have F24 := ((HF.out.then_below b3).then_below b4).alloc (.cells zero32 32)
           have F5 : Fr (fun _ => False) w w5 := F24.trans hf5 (fun i hi e => by have := b3.size; have := b4.size; omega)
           have Z5 : Whole w5 w.heap.size 54 zeroM := (((HZ.out.fr (Fr.of_below (S := fun _ => False) b3) (fun e => e)).fr (Fr.of_below (S := fun _ => False) b4) (fun e => e)).fr ((Fr.refl (fun _ => False) _).alloc (.cells zero32 32)) (fun e => e)).fr hf5 (fun e => by have := b3.size; have := b4.size; omega)
           have R5 : MarkAt w5 (w.heap.size + 1) 0 0 [] 0 [] := Whole.fr (((HRV.out.fr (Fr.of_below (S := fun _ => False) b3)).fr (Fr.of_below (S := fun _ => False) b4)).fr ((Fr.refl (fun _ => False) _).alloc (.cells zero32 32))) hf5 (fun e => by have := b3.size; have := b4.size; omega)
           have K5 : Hid (Qm w w5 0 0 [] 0 []) := Lib.hid ⟨F5, Z5, R5⟩
           have M5 := True.intro
           clear F24 F5 Z5 R5 hf5)))
      (
        refine bodyPost_ret (v := .tuple #[.agg zeroM, .int .i64 12]) (results_cell_slot (p := 2) (u := 3) rfl _ _ _ _ _ _ rfl hwz Tryz.underlying54 rfl size36m) rfl ?_
        exact MarkIs.bad HG.out rfl FZ)
    | some xk =>
      obtain ⟨tk, r1⟩ := xk
      have hlk2 := takeL_len htk
      rw [htk] at hlk
      have HLK := Lib.hid hlk
      have hnk := fun w => QvNumber_any tk (by omega) w
      obtain ⟨Zk, hZk⟩ : ∃ Z, strB tk = Z := ⟨_, rfl⟩
      have HZk := Lib.hid hZk
      have hla := fun w => QvLine_any wName r1 (by decide) (by decide) (by omega) w
      obtain ⟨R1, hR1⟩ : ∃ Z, strB r1 = Z := ⟨_, rfl⟩
      have HR1 := Lib.hid hR1
      rw [hZk] at hnk
      rw [hR1, hW3] at hla
      clear hZk hR1 hlk
      rcases numW_cases tk with ⟨h1, h2, h3⟩ | ⟨h1, _, h2⟩
      rotate_left
      · have HG := Lib.hid (show X = (zeroQ, 12) by rw [HG0.out, markL1, digL, numL, htk]; simp only []; rw [h1]; rfl)
        rw [h2] at hnk
        have HNK := Lib.hid hnk
        clear htk h1 h2 hnk hla
        go_enter Tryz.func13, Tryz.ntmps13
        go_wp2_with (first
          | (
            (go_at_call 26; refine (HNK.out _).mono ?_; rintro e w' ⟨rfl, rfl⟩))
          | (
            (have _ := K6; go_at_call 24; refine (HLK.out _).mono ?_; rintro e w7 ⟨rfl, b7⟩; rw [HZk.out, HR1.out]; have K7 := Lib.hid (K6.out.later (Fr.of_below (S := fun _ => False) b7)); have d7 := K7.out.mark.ck; have e7 := K7.out.mark.frozen 32))
          | (
            (have _ := M5
             refine wpList_store_at rfl 54 _ _ rfl w.heap.size 0 54 zeroM zeroM rfl rfl K7.out.zero (by decide) size36m zeroM_one ?_
             intro w6 hwz hf6
             rw [laidAt_all _ _ rfl] at hwz
             have FZ := K7.out.fr.trans hf6 (fun i hi e => by omega)))
          | (
            (go_at_call 24; refine (HL.out _).mono ?_; rintro e w3 ⟨rfl, b3⟩; rw [HZe.out, HR0.out]))
          | (
            (go_at_call 25; refine (HR.out _).mono ?_; rintro e w4 ⟨rfl, b4⟩))
          | (
            (refine wpList_build_to rfl 54 _ rfl #[] (by first | rfl | simp [Act.eval]) (.agg zeroM) (HBZ.out _) ?_))
          | (
            (refine wpList_load_row rfl 32 _ rfl _ rfl 32 _ _ _ hw5 Tryz.underlying32 rfl (by rw [hPs]; exact size32) ?_))
          | (
            (have _ := M5
             refine wpList_store_at rfl 32 _ _ rfl (w.heap.size + 1) 0 54 _ P rfl rfl K5.out.mark (by rw [hRS, hPs]; decide) (by rw [hPs]; exact size32) hPo ?_
             intro w6 hw6 hf6
             rw [HLD.out] at hw6
             have K6 : Hid (Qm w w6 T 0 [] 0 []) := Lib.hid ⟨K5.out.fr.trans hf6 (fun i hi e => by omega), K5.out.zero.fr hf6 (fun e => by omega), hw6⟩
             clear hf6 hw6))
          | (
            (refine wpList_store_at rfl 32 _ _ rfl w4.heap.size 0 32 _ P rfl rfl (Whole.new w4 32 zero32) (by rw [hPs]; decide) (by rw [hPs]; exact size32) hPo ?_
             intro w5 hw5 hf5
             rw [laidAt_all _ _ (by rw [hPs]; rfl)] at hw5
             have F24 := ((HF.out.then_below b3).then_below b4).alloc (.cells zero32 32)
             have F5 : Fr (fun _ => False) w w5 := F24.trans hf5 (fun i hi e => by have := b3.size; have := b4.size; omega)
             have Z5 : Whole w5 w.heap.size 54 zeroM := (((HZ.out.fr (Fr.of_below (S := fun _ => False) b3) (fun e => e)).fr (Fr.of_below (S := fun _ => False) b4) (fun e => e)).fr ((Fr.refl (fun _ => False) _).alloc (.cells zero32 32)) (fun e => e)).fr hf5 (fun e => by have := b3.size; have := b4.size; omega)
             have R5 : MarkAt w5 (w.heap.size + 1) 0 0 [] 0 [] := Whole.fr (((HRV.out.fr (Fr.of_below (S := fun _ => False) b3)).fr (Fr.of_below (S := fun _ => False) b4)).fr ((Fr.refl (fun _ => False) _).alloc (.cells zero32 32))) hf5 (fun e => by have := b3.size; have := b4.size; omega)
             have K5 : Hid (Qm w w5 0 0 [] 0 []) := Lib.hid ⟨F5, Z5, R5⟩
             have M5 := True.intro
             clear F24 F5 Z5 R5 hf5)))
        (
          refine bodyPost_ret (v := .tuple #[.agg zeroM, .int .i64 12]) (results_cell_slot (p := 2) (u := 3) rfl _ _ _ _ _ _ rfl hwz Tryz.underlying54 rfl size36m) rfl ?_
          exact MarkIs.bad HG.out rfl FZ)
      rw [h2] at hnk
      by_cases hk10 : valN tk < 10
      rotate_left
      · have HG := Lib.hid (show X = (zeroQ, 12) by rw [HG0.out, markL1, digL, numL, htk]; simp only []; rw [h1]; simp only []; rw [if_neg hk10]; rfl)
        have hvk : ((valN tk : Nat) : Int) > 9 := by omega
        obtain ⟨kk, hkk⟩ : ∃ x : Int, ((valN tk : Nat) : Int) = x := ⟨_, rfl⟩
        rw [hkk] at hnk hvk
        have HNK := Lib.hid hnk
        clear htk h1 h2 h3 hnk hla hkk hk10
        go_enter Tryz.func13, Tryz.ntmps13
        go_wp2_with (first
          | (
            (go_at_call 26; refine (HNK.out _).mono ?_; rintro e w' ⟨rfl, rfl⟩))
          | (
            (have _ := K6; go_at_call 24; refine (HLK.out _).mono ?_; rintro e w7 ⟨rfl, b7⟩; rw [HZk.out, HR1.out]; have K7 := Lib.hid (K6.out.later (Fr.of_below (S := fun _ => False) b7)); have d7 := K7.out.mark.ck; have e7 := K7.out.mark.frozen 32))
          | (
            (have _ := M5
             refine wpList_store_at rfl 54 _ _ rfl w.heap.size 0 54 zeroM zeroM rfl rfl K7.out.zero (by decide) size36m zeroM_one ?_
             intro w6 hwz hf6
             rw [laidAt_all _ _ rfl] at hwz
             have FZ := K7.out.fr.trans hf6 (fun i hi e => by omega)))
          | (
            (go_at_call 24; refine (HL.out _).mono ?_; rintro e w3 ⟨rfl, b3⟩; rw [HZe.out, HR0.out]))
          | (
            (go_at_call 25; refine (HR.out _).mono ?_; rintro e w4 ⟨rfl, b4⟩))
          | (
            (refine wpList_build_to rfl 54 _ rfl #[] (by first | rfl | simp [Act.eval]) (.agg zeroM) (HBZ.out _) ?_))
          | (
            (refine wpList_load_row rfl 32 _ rfl _ rfl 32 _ _ _ hw5 Tryz.underlying32 rfl (by rw [hPs]; exact size32) ?_))
          | (
            (have _ := M5
             refine wpList_store_at rfl 32 _ _ rfl (w.heap.size + 1) 0 54 _ P rfl rfl K5.out.mark (by rw [hRS, hPs]; decide) (by rw [hPs]; exact size32) hPo ?_
             intro w6 hw6 hf6
             rw [HLD.out] at hw6
             have K6 : Hid (Qm w w6 T 0 [] 0 []) := Lib.hid ⟨K5.out.fr.trans hf6 (fun i hi e => by omega), K5.out.zero.fr hf6 (fun e => by omega), hw6⟩
             clear hf6 hw6))
          | (
            (refine wpList_store_at rfl 32 _ _ rfl w4.heap.size 0 32 _ P rfl rfl (Whole.new w4 32 zero32) (by rw [hPs]; decide) (by rw [hPs]; exact size32) hPo ?_
             intro w5 hw5 hf5
             rw [laidAt_all _ _ (by rw [hPs]; rfl)] at hw5
             have F24 := ((HF.out.then_below b3).then_below b4).alloc (.cells zero32 32)
             have F5 : Fr (fun _ => False) w w5 := F24.trans hf5 (fun i hi e => by have := b3.size; have := b4.size; omega)
             have Z5 : Whole w5 w.heap.size 54 zeroM := (((HZ.out.fr (Fr.of_below (S := fun _ => False) b3) (fun e => e)).fr (Fr.of_below (S := fun _ => False) b4) (fun e => e)).fr ((Fr.refl (fun _ => False) _).alloc (.cells zero32 32)) (fun e => e)).fr hf5 (fun e => by have := b3.size; have := b4.size; omega)
             have R5 : MarkAt w5 (w.heap.size + 1) 0 0 [] 0 [] := Whole.fr (((HRV.out.fr (Fr.of_below (S := fun _ => False) b3)).fr (Fr.of_below (S := fun _ => False) b4)).fr ((Fr.refl (fun _ => False) _).alloc (.cells zero32 32))) hf5 (fun e => by have := b3.size; have := b4.size; omega)
             have K5 : Hid (Qm w w5 0 0 [] 0 []) := Lib.hid ⟨F5, Z5, R5⟩
             have M5 := True.intro
             clear F24 F5 Z5 R5 hf5)))
        (
          refine bodyPost_ret (v := .tuple #[.agg zeroM, .int .i64 12]) (results_cell_slot (p := 2) (u := 3) rfl _ _ _ _ _ _ rfl hwz Tryz.underlying54 rfl size36m) rfl ?_
          exact MarkIs.bad HG.out rfl FZ)
      have HG1 : Hid (X = getK (markL2 T (valN tk) r1)) := Lib.hid (by rw [HG0.out, markL1, digL, numL, htk]; simp only []; rw [h1]; simp only []; rw [if_pos hk10])
      have hvk : ¬ ((valN tk : Nat) : Int) > 9 := by omega
      have HSK := Lib.hid (fun (w5 : World) (h : Qm w w5 T 0 [] 0 []) => (h.put (p := ⟨w.heap.size + 1, 32, none⟩) rfl (.int .i64 (valN tk)) (h.mark.setK (valN tk)) : Qm w _ T (valN tk) [] 0 []))
      obtain ⟨kn, hkn⟩ : ∃ x : Nat, valN tk = x := ⟨_, rfl⟩
      rw [hkn] at HG1 HSK hnk hvk
      obtain ⟨kk, hkk⟩ : ∃ x : Int, (kn : Int) = x := ⟨_, rfl⟩
      have HKK := Lib.hid hkk
      rw [hkk] at hnk HSK hvk
      have HNK := Lib.hid hnk
      clear htk h1 h2 h3 hnk hkk hkn hk10
      cases hta : takeL wName r1 with
      | none =>
        have HG := Lib.hid (show X = (zeroQ, 12) by rw [HG1.out, markL2, hta]; rfl)
        rw [hta] at hla
        have HLA := Lib.hid hla
        obtain ⟨Zx, hZx⟩ : ∃ Z, strB [] = Z := ⟨_, rfl⟩
        have HZx := Lib.hid hZx
        clear hta hla hZx
        go_enter Tryz.func13, Tryz.ntmps13
        go_wp2_with (first
          | (
            (have _ := K8; go_at_call 24; refine (HLA.out _).mono ?_; rintro e w9 ⟨rfl, b9⟩; rw [HZx.out]; have K9 := Lib.hid (K8.out.later (Fr.of_below (S := fun _ => False) b9)); have d9 := K9.out.mark.ca; have e9 := K9.out.mark.frozen 33))
          | (
            (go_at_call 26; refine (HNK.out _).mono ?_; rintro e w' ⟨rfl, rfl⟩))
          | (
            (have _ := K6; go_at_call 24; refine (HLK.out _).mono ?_; rintro e w7 ⟨rfl, b7⟩; rw [HZk.out, HR1.out]; have K8 := Lib.hid (HSK.out _ (K6.out.later (Fr.of_below (S := fun _ => False) b7))); have K7 := Lib.hid (K6.out.later (Fr.of_below (S := fun _ => False) b7)); have d7 := K7.out.mark.ck; have e7 := K7.out.mark.frozen 32))
          | (
            (have _ := M5
             refine wpList_store_at rfl 54 _ _ rfl w.heap.size 0 54 zeroM zeroM rfl rfl K9.out.zero (by decide) size36m zeroM_one ?_
             intro w6 hwz hf6
             rw [laidAt_all _ _ rfl] at hwz
             have FZ := K9.out.fr.trans hf6 (fun i hi e => by omega)))
          | (
            (go_at_call 24; refine (HL.out _).mono ?_; rintro e w3 ⟨rfl, b3⟩; rw [HZe.out, HR0.out]))
          | (
            (go_at_call 25; refine (HR.out _).mono ?_; rintro e w4 ⟨rfl, b4⟩))
          | (
            (refine wpList_build_to rfl 54 _ rfl #[] (by first | rfl | simp [Act.eval]) (.agg zeroM) (HBZ.out _) ?_))
          | (
            (refine wpList_load_row rfl 32 _ rfl _ rfl 32 _ _ _ hw5 Tryz.underlying32 rfl (by rw [hPs]; exact size32) ?_))
          | (
            (have _ := M5
             refine wpList_store_at rfl 32 _ _ rfl (w.heap.size + 1) 0 54 _ P rfl rfl K5.out.mark (by rw [hRS, hPs]; decide) (by rw [hPs]; exact size32) hPo ?_
             intro w6 hw6 hf6
             rw [HLD.out] at hw6
             have K6 : Hid (Qm w w6 T 0 [] 0 []) := Lib.hid ⟨K5.out.fr.trans hf6 (fun i hi e => by omega), K5.out.zero.fr hf6 (fun e => by omega), hw6⟩
             clear hf6 hw6))
          | (
            (refine wpList_store_at rfl 32 _ _ rfl w4.heap.size 0 32 _ P rfl rfl (Whole.new w4 32 zero32) (by rw [hPs]; decide) (by rw [hPs]; exact size32) hPo ?_
             intro w5 hw5 hf5
             rw [laidAt_all _ _ (by rw [hPs]; rfl)] at hw5
             have F24 := ((HF.out.then_below b3).then_below b4).alloc (.cells zero32 32)
             have F5 : Fr (fun _ => False) w w5 := F24.trans hf5 (fun i hi e => by have := b3.size; have := b4.size; omega)
             have Z5 : Whole w5 w.heap.size 54 zeroM := (((HZ.out.fr (Fr.of_below (S := fun _ => False) b3) (fun e => e)).fr (Fr.of_below (S := fun _ => False) b4) (fun e => e)).fr ((Fr.refl (fun _ => False) _).alloc (.cells zero32 32)) (fun e => e)).fr hf5 (fun e => by have := b3.size; have := b4.size; omega)
             have R5 : MarkAt w5 (w.heap.size + 1) 0 0 [] 0 [] := Whole.fr (((HRV.out.fr (Fr.of_below (S := fun _ => False) b3)).fr (Fr.of_below (S := fun _ => False) b4)).fr ((Fr.refl (fun _ => False) _).alloc (.cells zero32 32))) hf5 (fun e => by have := b3.size; have := b4.size; omega)
             have K5 : Hid (Qm w w5 0 0 [] 0 []) := Lib.hid ⟨F5, Z5, R5⟩
             have M5 := True.intro
             clear F24 F5 Z5 R5 hf5)))
        (
          refine bodyPost_ret (v := .tuple #[.agg zeroM, .int .i64 12]) (results_cell_slot (p := 2) (u := 3) rfl _ _ _ _ _ _ rfl hwz Tryz.underlying54 rfl size36m) rfl ?_
          exact MarkIs.bad HG.out rfl FZ)
      | some xa =>
        obtain ⟨a, r2⟩ := xa
        have hl2 := takeL_len hta
        have HG2 : Hid (X = getK (markL3 T kn a r2)) := Lib.hid (by rw [HG1.out, markL2, hta])
        rw [hta] at hla
        have HLA := Lib.hid hla
        have HSA := Lib.hid (fun (w5 : World) (h : Qm w w5 T kk [] 0 []) => (h.put (p := ⟨w.heap.size + 1, 33, none⟩) rfl (.string (strB a)) (h.mark.setA a) : Qm w _ T kk a 0 []))
        obtain ⟨Za, hZa⟩ : ∃ Z, strB a = Z := ⟨_, rfl⟩
        have HZa := Lib.hid hZa
        have hlm := fun w => QvLine_any wTime r2 (by decide) (by decide) (by omega) w
        obtain ⟨R2, hR2⟩ : ∃ Z, strB r2 = Z := ⟨_, rfl⟩
        have HR2 := Lib.hid hR2
        rw [hZa] at HSA
        rw [hR2, hW4] at hlm
        clear hta hla hZa hR2
        cases htm : takeL wTime r2 with
        | none =>
          have HG := Lib.hid (show X = (zeroQ, 12) by rw [HG2.out, markL3, numL, htm]; rfl)
          rw [htm] at hlm
          have HLM := Lib.hid hlm
          have hnk := fun w => QvNumber_any [] (by decide) w
          obtain ⟨Zx, hZx⟩ : ∃ Z, strB [] = Z := ⟨_, rfl⟩
          have HZx := Lib.hid hZx
          rw [hZx] at hnk
          obtain ⟨N1, hN1⟩ : ∃ x, (numW []).1 = x := ⟨_, rfl⟩
          obtain ⟨N2, hN2⟩ : ∃ x, (numW []).2 = x := ⟨_, rfl⟩
          rw [hN1, hN2] at hnk
          have HNT := Lib.hid hnk
          clear hZx hN1 hN2 hnk
          clear htm hlm
          go_enter Tryz.func13, Tryz.ntmps13
          go_wp2_with (first
            | (
              (have _ := K11; go_at_call 26; refine (HNT.out _).mono ?_; rintro e w' ⟨rfl, rfl⟩))
            | (
              (have _ := K10; go_at_call 24; refine (HLM.out _).mono ?_; rintro e w11 ⟨rfl, b11⟩; rw [HZx.out]; have K11 := Lib.hid (K10.out.later (Fr.of_below (S := fun _ => False) b11)); have d11 := K11.out.mark.cn; have e11 := K11.out.mark.frozen 34))
            | (
              (have _ := K8; go_at_call 24; refine (HLA.out _).mono ?_; rintro e w9 ⟨rfl, b9⟩; rw [HZa.out, HR2.out]; have K10 := Lib.hid (HSA.out _ (K8.out.later (Fr.of_below (S := fun _ => False) b9))); have K9 := Lib.hid (K8.out.later (Fr.of_below (S := fun _ => False) b9)); have d9 := K9.out.mark.ca; have e9 := K9.out.mark.frozen 33))
            | (
              (go_at_call 26; refine (HNK.out _).mono ?_; rintro e w' ⟨rfl, rfl⟩))
            | (
              (have _ := K6; go_at_call 24; refine (HLK.out _).mono ?_; rintro e w7 ⟨rfl, b7⟩; rw [HZk.out, HR1.out]; have K8 := Lib.hid (HSK.out _ (K6.out.later (Fr.of_below (S := fun _ => False) b7))); have K7 := Lib.hid (K6.out.later (Fr.of_below (S := fun _ => False) b7)); have d7 := K7.out.mark.ck; have e7 := K7.out.mark.frozen 32))
            | (
              (have _ := M5
               refine wpList_store_at rfl 54 _ _ rfl w.heap.size 0 54 zeroM zeroM rfl rfl K11.out.zero (by decide) size36m zeroM_one ?_
               intro w6 hwz hf6
               rw [laidAt_all _ _ rfl] at hwz
               have FZ := K11.out.fr.trans hf6 (fun i hi e => by omega)))
            | (
              (go_at_call 24; refine (HL.out _).mono ?_; rintro e w3 ⟨rfl, b3⟩; rw [HZe.out, HR0.out]))
            | (
              (go_at_call 25; refine (HR.out _).mono ?_; rintro e w4 ⟨rfl, b4⟩))
            | (
              (refine wpList_build_to rfl 54 _ rfl #[] (by first | rfl | simp [Act.eval]) (.agg zeroM) (HBZ.out _) ?_))
            | (
              (refine wpList_load_row rfl 32 _ rfl _ rfl 32 _ _ _ hw5 Tryz.underlying32 rfl (by rw [hPs]; exact size32) ?_))
            | (
              (have _ := M5
               refine wpList_store_at rfl 32 _ _ rfl (w.heap.size + 1) 0 54 _ P rfl rfl K5.out.mark (by rw [hRS, hPs]; decide) (by rw [hPs]; exact size32) hPo ?_
               intro w6 hw6 hf6
               rw [HLD.out] at hw6
               have K6 : Hid (Qm w w6 T 0 [] 0 []) := Lib.hid ⟨K5.out.fr.trans hf6 (fun i hi e => by omega), K5.out.zero.fr hf6 (fun e => by omega), hw6⟩
               clear hf6 hw6))
            | (
              (refine wpList_store_at rfl 32 _ _ rfl w4.heap.size 0 32 _ P rfl rfl (Whole.new w4 32 zero32) (by rw [hPs]; decide) (by rw [hPs]; exact size32) hPo ?_
               intro w5 hw5 hf5
               rw [laidAt_all _ _ (by rw [hPs]; rfl)] at hw5
               have F24 := ((HF.out.then_below b3).then_below b4).alloc (.cells zero32 32)
               have F5 : Fr (fun _ => False) w w5 := F24.trans hf5 (fun i hi e => by have := b3.size; have := b4.size; omega)
               have Z5 : Whole w5 w.heap.size 54 zeroM := (((HZ.out.fr (Fr.of_below (S := fun _ => False) b3) (fun e => e)).fr (Fr.of_below (S := fun _ => False) b4) (fun e => e)).fr ((Fr.refl (fun _ => False) _).alloc (.cells zero32 32)) (fun e => e)).fr hf5 (fun e => by have := b3.size; have := b4.size; omega)
               have R5 : MarkAt w5 (w.heap.size + 1) 0 0 [] 0 [] := Whole.fr (((HRV.out.fr (Fr.of_below (S := fun _ => False) b3)).fr (Fr.of_below (S := fun _ => False) b4)).fr ((Fr.refl (fun _ => False) _).alloc (.cells zero32 32))) hf5 (fun e => by have := b3.size; have := b4.size; omega)
               have K5 : Hid (Qm w w5 0 0 [] 0 []) := Lib.hid ⟨F5, Z5, R5⟩
               have M5 := True.intro
               clear F24 F5 Z5 R5 hf5)))
          (
            refine bodyPost_ret (v := .tuple #[.agg zeroM, .int .i64 12]) (results_cell_slot (p := 2) (u := 3) rfl _ _ _ _ _ _ rfl hwz Tryz.underlying54 rfl size36m) rfl ?_
            exact MarkIs.bad HG.out rfl FZ)
        | some xt =>
          obtain ⟨tt, r3⟩ := xt
          have hl3 := takeL_len htm
          rw [htm] at hlm
          have HLM := Lib.hid hlm
          have hnt := fun w => QvNumber_any tt (by omega) w
          obtain ⟨Zt, hZt⟩ : ∃ Z, strB tt = Z := ⟨_, rfl⟩
          have HZt := Lib.hid hZt
          have hl3z := strB_list r3
          obtain ⟨R3, hR3⟩ : ∃ Z, strB r3 = Z := ⟨_, rfl⟩
          have HR3 := Lib.hid hR3
          rw [hZt] at hnt
          rw [hR3] at hl3z
          clear hlm hZt
          rcases numW_cases tt with ⟨h1, h2, h3⟩ | ⟨h1, _, h2⟩
          rotate_left
          · have HG := Lib.hid (show X = (zeroQ, 12) by rw [HG2.out, markL3, numL, htm]; simp only []; rw [h1]; rfl)
            rw [h2] at hnt
            have HNT := Lib.hid hnt
            clear htm h1 h2 hnt hR3 hl3z
            go_enter Tryz.func13, Tryz.ntmps13
            go_wp2_with (first
              | (
                (have _ := K11; go_at_call 26; refine (HNT.out _).mono ?_; rintro e w' ⟨rfl, rfl⟩))
              | (
                (have _ := K10; go_at_call 24; refine (HLM.out _).mono ?_; rintro e w11 ⟨rfl, b11⟩; rw [HZt.out, HR3.out]; have K11 := Lib.hid (K10.out.later (Fr.of_below (S := fun _ => False) b11)); have d11 := K11.out.mark.cn; have e11 := K11.out.mark.frozen 34))
              | (
                (have _ := K8; go_at_call 24; refine (HLA.out _).mono ?_; rintro e w9 ⟨rfl, b9⟩; rw [HZa.out, HR2.out]; have K10 := Lib.hid (HSA.out _ (K8.out.later (Fr.of_below (S := fun _ => False) b9))); have K9 := Lib.hid (K8.out.later (Fr.of_below (S := fun _ => False) b9)); have d9 := K9.out.mark.ca; have e9 := K9.out.mark.frozen 33))
              | (
                (go_at_call 26; refine (HNK.out _).mono ?_; rintro e w' ⟨rfl, rfl⟩))
              | (
                (have _ := K6; go_at_call 24; refine (HLK.out _).mono ?_; rintro e w7 ⟨rfl, b7⟩; rw [HZk.out, HR1.out]; have K8 := Lib.hid (HSK.out _ (K6.out.later (Fr.of_below (S := fun _ => False) b7))); have K7 := Lib.hid (K6.out.later (Fr.of_below (S := fun _ => False) b7)); have d7 := K7.out.mark.ck; have e7 := K7.out.mark.frozen 32))
              | (
                (have _ := M5
                 refine wpList_store_at rfl 54 _ _ rfl w.heap.size 0 54 zeroM zeroM rfl rfl K11.out.zero (by decide) size36m zeroM_one ?_
                 intro w6 hwz hf6
                 rw [laidAt_all _ _ rfl] at hwz
                 have FZ := K11.out.fr.trans hf6 (fun i hi e => by omega)))
              | (
                (go_at_call 24; refine (HL.out _).mono ?_; rintro e w3 ⟨rfl, b3⟩; rw [HZe.out, HR0.out]))
              | (
                (go_at_call 25; refine (HR.out _).mono ?_; rintro e w4 ⟨rfl, b4⟩))
              | (
                (refine wpList_build_to rfl 54 _ rfl #[] (by first | rfl | simp [Act.eval]) (.agg zeroM) (HBZ.out _) ?_))
              | (
                (refine wpList_load_row rfl 32 _ rfl _ rfl 32 _ _ _ hw5 Tryz.underlying32 rfl (by rw [hPs]; exact size32) ?_))
              | (
                (have _ := M5
                 refine wpList_store_at rfl 32 _ _ rfl (w.heap.size + 1) 0 54 _ P rfl rfl K5.out.mark (by rw [hRS, hPs]; decide) (by rw [hPs]; exact size32) hPo ?_
                 intro w6 hw6 hf6
                 rw [HLD.out] at hw6
                 have K6 : Hid (Qm w w6 T 0 [] 0 []) := Lib.hid ⟨K5.out.fr.trans hf6 (fun i hi e => by omega), K5.out.zero.fr hf6 (fun e => by omega), hw6⟩
                 clear hf6 hw6))
              | (
                (refine wpList_store_at rfl 32 _ _ rfl w4.heap.size 0 32 _ P rfl rfl (Whole.new w4 32 zero32) (by rw [hPs]; decide) (by rw [hPs]; exact size32) hPo ?_
                 intro w5 hw5 hf5
                 rw [laidAt_all _ _ (by rw [hPs]; rfl)] at hw5
                 have F24 := ((HF.out.then_below b3).then_below b4).alloc (.cells zero32 32)
                 have F5 : Fr (fun _ => False) w w5 := F24.trans hf5 (fun i hi e => by have := b3.size; have := b4.size; omega)
                 have Z5 : Whole w5 w.heap.size 54 zeroM := (((HZ.out.fr (Fr.of_below (S := fun _ => False) b3) (fun e => e)).fr (Fr.of_below (S := fun _ => False) b4) (fun e => e)).fr ((Fr.refl (fun _ => False) _).alloc (.cells zero32 32)) (fun e => e)).fr hf5 (fun e => by have := b3.size; have := b4.size; omega)
                 have R5 : MarkAt w5 (w.heap.size + 1) 0 0 [] 0 [] := Whole.fr (((HRV.out.fr (Fr.of_below (S := fun _ => False) b3)).fr (Fr.of_below (S := fun _ => False) b4)).fr ((Fr.refl (fun _ => False) _).alloc (.cells zero32 32))) hf5 (fun e => by have := b3.size; have := b4.size; omega)
                 have K5 : Hid (Qm w w5 0 0 [] 0 []) := Lib.hid ⟨F5, Z5, R5⟩
                 have M5 := True.intro
                 clear F24 F5 Z5 R5 hf5)))
            (
              refine bodyPost_ret (v := .tuple #[.agg zeroM, .int .i64 12]) (results_cell_slot (p := 2) (u := 3) rfl _ _ _ _ _ _ rfl hwz Tryz.underlying54 rfl size36m) rfl ?_
              exact MarkIs.bad HG.out rfl FZ)
          have HG3 : Hid (X = getK (markL4 T kn a (valN tt) r3)) := Lib.hid (by rw [HG2.out, markL3, numL, htm]; simp only []; rw [h1])
          rw [h2] at hnt
          obtain ⟨nn, hnn⟩ : ∃ x : Nat, valN tt = x := ⟨_, rfl⟩
          rw [hnn] at HG3 hnt h3
          have HSN := Lib.hid (fun (w5 : World) (h : Qm w w5 T kk a 0 []) => (h.put (p := ⟨w.heap.size + 1, 34, none⟩) rfl (.int .i64 nn) (h.mark.setN nn) : Qm w _ T kk a nn []))
          obtain ⟨zn, hzn⟩ : ∃ x : Int, (nn : Int) = x := ⟨_, rfl⟩
          have HZN := Lib.hid hzn
          rw [hzn] at hnt HSN
          have HNT := Lib.hid hnt
          clear htm h1 h2 hnt hnn hzn
          rcases r3 with _ | ⟨c0, r4⟩
          · have HG := Lib.hid (show X = (zeroQ, 12) by rw [HG3.out]; rfl)
            clear hR3
            go_enter Tryz.func13, Tryz.ntmps13
            go_wp2_with (first
              | (
                (have _ := K11; go_at_call 26; refine (HNT.out _).mono ?_; rintro e w' ⟨rfl, rfl⟩))
              | (
                (have _ := K10; go_at_call 24; refine (HLM.out _).mono ?_; rintro e w11 ⟨rfl, b11⟩; rw [HZt.out, HR3.out]; have K11 := Lib.hid (K10.out.later (Fr.of_below (S := fun _ => False) b11)); have d11 := K11.out.mark.cn; have e11 := K11.out.mark.frozen 34))
              | (
                (have _ := K8; go_at_call 24; refine (HLA.out _).mono ?_; rintro e w9 ⟨rfl, b9⟩; rw [HZa.out, HR2.out]; have K10 := Lib.hid (HSA.out _ (K8.out.later (Fr.of_below (S := fun _ => False) b9))); have K9 := Lib.hid (K8.out.later (Fr.of_below (S := fun _ => False) b9)); have d9 := K9.out.mark.ca; have e9 := K9.out.mark.frozen 33))
              | (
                (go_at_call 26; refine (HNK.out _).mono ?_; rintro e w' ⟨rfl, rfl⟩))
              | (
                (have _ := K6; go_at_call 24; refine (HLK.out _).mono ?_; rintro e w7 ⟨rfl, b7⟩; rw [HZk.out, HR1.out]; have K8 := Lib.hid (HSK.out _ (K6.out.later (Fr.of_below (S := fun _ => False) b7))); have K7 := Lib.hid (K6.out.later (Fr.of_below (S := fun _ => False) b7)); have d7 := K7.out.mark.ck; have e7 := K7.out.mark.frozen 32))
              | (
                (have _ := M5
                 refine wpList_store_at rfl 54 _ _ rfl w.heap.size 0 54 zeroM zeroM rfl rfl K11.out.zero (by decide) size36m zeroM_one ?_
                 intro w6 hwz hf6
                 rw [laidAt_all _ _ rfl] at hwz
                 have FZ := K11.out.fr.trans hf6 (fun i hi e => by omega)))
              | (
                (go_at_call 24; refine (HL.out _).mono ?_; rintro e w3 ⟨rfl, b3⟩; rw [HZe.out, HR0.out]))
              | (
                (go_at_call 25; refine (HR.out _).mono ?_; rintro e w4 ⟨rfl, b4⟩))
              | (
                (refine wpList_build_to rfl 54 _ rfl #[] (by first | rfl | simp [Act.eval]) (.agg zeroM) (HBZ.out _) ?_))
              | (
                (refine wpList_load_row rfl 32 _ rfl _ rfl 32 _ _ _ hw5 Tryz.underlying32 rfl (by rw [hPs]; exact size32) ?_))
              | (
                (have _ := M5
                 refine wpList_store_at rfl 32 _ _ rfl (w.heap.size + 1) 0 54 _ P rfl rfl K5.out.mark (by rw [hRS, hPs]; decide) (by rw [hPs]; exact size32) hPo ?_
                 intro w6 hw6 hf6
                 rw [HLD.out] at hw6
                 have K6 : Hid (Qm w w6 T 0 [] 0 []) := Lib.hid ⟨K5.out.fr.trans hf6 (fun i hi e => by omega), K5.out.zero.fr hf6 (fun e => by omega), hw6⟩
                 clear hf6 hw6))
              | (
                (refine wpList_store_at rfl 32 _ _ rfl w4.heap.size 0 32 _ P rfl rfl (Whole.new w4 32 zero32) (by rw [hPs]; decide) (by rw [hPs]; exact size32) hPo ?_
                 intro w5 hw5 hf5
                 rw [laidAt_all _ _ (by rw [hPs]; rfl)] at hw5
                 have F24 := ((HF.out.then_below b3).then_below b4).alloc (.cells zero32 32)
                 have F5 : Fr (fun _ => False) w w5 := F24.trans hf5 (fun i hi e => by have := b3.size; have := b4.size; omega)
                 have Z5 : Whole w5 w.heap.size 54 zeroM := (((HZ.out.fr (Fr.of_below (S := fun _ => False) b3) (fun e => e)).fr (Fr.of_below (S := fun _ => False) b4) (fun e => e)).fr ((Fr.refl (fun _ => False) _).alloc (.cells zero32 32)) (fun e => e)).fr hf5 (fun e => by have := b3.size; have := b4.size; omega)
                 have R5 : MarkAt w5 (w.heap.size + 1) 0 0 [] 0 [] := Whole.fr (((HRV.out.fr (Fr.of_below (S := fun _ => False) b3)).fr (Fr.of_below (S := fun _ => False) b4)).fr ((Fr.refl (fun _ => False) _).alloc (.cells zero32 32))) hf5 (fun e => by have := b3.size; have := b4.size; omega)
                 have K5 : Hid (Qm w w5 0 0 [] 0 []) := Lib.hid ⟨F5, Z5, R5⟩
                 have M5 := True.intro
                 clear F24 F5 Z5 R5 hf5)))
            (
              refine bodyPost_ret (v := .tuple #[.agg zeroM, .int .i64 12]) (results_cell_slot (p := 2) (u := 3) rfl _ _ _ _ _ _ rfl hwz Tryz.underlying54 rfl size36m) rfl ?_
              exact MarkIs.bad HG.out rfl FZ)
          · have hix : ∀ w, (Instr.index 9 (.string R3) (.int .i64 0)).run Tryz.prog w = .ok (.int .u8 (c0.toNat : Nat)) w := fun w => by have := index_str (P := Tryz.prog) w Tryz.underlying9 (c0 :: r4) 0 (by simp); rw [hR3] at this; exact this
            have hne3 : ¬ R3.toList = [] := by rw [hl3z]; simp
            have hie : R3.toList.isEmpty = false := by rw [hl3z]; rfl
            have hsl := fun w => slice_from (P := Tryz.prog) w Tryz.underlying9 (c0 :: r4) 1 (by simp)
            rw [hR3] at hsl
            rw [show (c0 :: r4).drop 1 = r4 from rfl] at hsl
            have hl4 : r4.length + 1 < r2.length := hl3.2
            by_cases hc0 : c0 = 10
            rotate_left
            · have HG := Lib.hid (show X = (zeroQ, 12) by
                rw [HG3.out, markL4, textL, if_neg]
                · rfl
                · simp [List.isPrefixOf]; exact fun e => hc0 e.symm)
              have hcz : (((c0.toNat : Nat) : Int) == 10) = false := by
                rw [beq_eq_false_iff_ne]
                intro e
                exact hc0 (UInt8.toNat_inj.1 (by show _ = 10; omega))
              obtain ⟨xc, hxc⟩ : ∃ x : Int, ((c0.toNat : Nat) : Int) = x := ⟨_, rfl⟩
              rw [hxc] at hix hcz
              clear hR3 hsl hxc hc0
              go_enter Tryz.func13, Tryz.ntmps13
              go_wp2_with (first
                | (
                  (have _ := K11; go_at_call 26; refine (HNT.out _).mono ?_; rintro e w' ⟨rfl, rfl⟩))
                | (
                  (have _ := K10; go_at_call 24; refine (HLM.out _).mono ?_; rintro e w11 ⟨rfl, b11⟩; rw [HZt.out, HR3.out]; have K11 := Lib.hid (K10.out.later (Fr.of_below (S := fun _ => False) b11)); have d11 := K11.out.mark.cn; have e11 := K11.out.mark.frozen 34))
                | (
                  (have _ := K8; go_at_call 24; refine (HLA.out _).mono ?_; rintro e w9 ⟨rfl, b9⟩; rw [HZa.out, HR2.out]; have K10 := Lib.hid (HSA.out _ (K8.out.later (Fr.of_below (S := fun _ => False) b9))); have K9 := Lib.hid (K8.out.later (Fr.of_below (S := fun _ => False) b9)); have d9 := K9.out.mark.ca; have e9 := K9.out.mark.frozen 33))
                | (
                  (go_at_call 26; refine (HNK.out _).mono ?_; rintro e w' ⟨rfl, rfl⟩))
                | (
                  (have _ := K6; go_at_call 24; refine (HLK.out _).mono ?_; rintro e w7 ⟨rfl, b7⟩; rw [HZk.out, HR1.out]; have K8 := Lib.hid (HSK.out _ (K6.out.later (Fr.of_below (S := fun _ => False) b7))); have K7 := Lib.hid (K6.out.later (Fr.of_below (S := fun _ => False) b7)); have d7 := K7.out.mark.ck; have e7 := K7.out.mark.frozen 32))
                | (
                  (have _ := M5
                   refine wpList_store_at rfl 54 _ _ rfl w.heap.size 0 54 zeroM zeroM rfl rfl K11.out.zero (by decide) size36m zeroM_one ?_
                   intro w6 hwz hf6
                   rw [laidAt_all _ _ rfl] at hwz
                   have FZ := K11.out.fr.trans hf6 (fun i hi e => by omega)))
                | (
                  (go_at_call 24; refine (HL.out _).mono ?_; rintro e w3 ⟨rfl, b3⟩; rw [HZe.out, HR0.out]))
                | (
                  (go_at_call 25; refine (HR.out _).mono ?_; rintro e w4 ⟨rfl, b4⟩))
                | (
                  (refine wpList_build_to rfl 54 _ rfl #[] (by first | rfl | simp [Act.eval]) (.agg zeroM) (HBZ.out _) ?_))
                | (
                  (refine wpList_load_row rfl 32 _ rfl _ rfl 32 _ _ _ hw5 Tryz.underlying32 rfl (by rw [hPs]; exact size32) ?_))
                | (
                  (have _ := M5
                   refine wpList_store_at rfl 32 _ _ rfl (w.heap.size + 1) 0 54 _ P rfl rfl K5.out.mark (by rw [hRS, hPs]; decide) (by rw [hPs]; exact size32) hPo ?_
                   intro w6 hw6 hf6
                   rw [HLD.out] at hw6
                   have K6 : Hid (Qm w w6 T 0 [] 0 []) := Lib.hid ⟨K5.out.fr.trans hf6 (fun i hi e => by omega), K5.out.zero.fr hf6 (fun e => by omega), hw6⟩
                   clear hf6 hw6))
                | (
                  (refine wpList_store_at rfl 32 _ _ rfl w4.heap.size 0 32 _ P rfl rfl (Whole.new w4 32 zero32) (by rw [hPs]; decide) (by rw [hPs]; exact size32) hPo ?_
                   intro w5 hw5 hf5
                   rw [laidAt_all _ _ (by rw [hPs]; rfl)] at hw5
                   have F24 := ((HF.out.then_below b3).then_below b4).alloc (.cells zero32 32)
                   have F5 : Fr (fun _ => False) w w5 := F24.trans hf5 (fun i hi e => by have := b3.size; have := b4.size; omega)
                   have Z5 : Whole w5 w.heap.size 54 zeroM := (((HZ.out.fr (Fr.of_below (S := fun _ => False) b3) (fun e => e)).fr (Fr.of_below (S := fun _ => False) b4) (fun e => e)).fr ((Fr.refl (fun _ => False) _).alloc (.cells zero32 32)) (fun e => e)).fr hf5 (fun e => by have := b3.size; have := b4.size; omega)
                   have R5 : MarkAt w5 (w.heap.size + 1) 0 0 [] 0 [] := Whole.fr (((HRV.out.fr (Fr.of_below (S := fun _ => False) b3)).fr (Fr.of_below (S := fun _ => False) b4)).fr ((Fr.refl (fun _ => False) _).alloc (.cells zero32 32))) hf5 (fun e => by have := b3.size; have := b4.size; omega)
                   have K5 : Hid (Qm w w5 0 0 [] 0 []) := Lib.hid ⟨F5, Z5, R5⟩
                   have M5 := True.intro
                   clear F24 F5 Z5 R5 hf5)))
              (
                refine bodyPost_ret (v := .tuple #[.agg zeroM, .int .i64 12]) (results_cell_slot (p := 2) (u := 3) rfl _ _ _ _ _ _ rfl hwz Tryz.underlying54 rfl size36m) rfl ?_
                exact MarkIs.bad HG.out rfl FZ)
            subst hc0
            have HG4 := Lib.hid (show X = getK (some ⟨T, kn, a, nn, r4⟩) by rw [HG3.out]; rfl)
            rw [show ((10 : UInt8).toNat : Int) = 10 from rfl] at hix
            have hsl' : ∀ w, (Instr.slice 9 (.string R3) (some (.int .i64 1)) none none).run Tryz.prog w = .ok (.string (strB r4)) w := hsl
            have HSX := Lib.hid (fun (w5 : World) (h : Qm w w5 T kk a zn []) => (h.put (p := ⟨w.heap.size + 1, 35, none⟩) rfl (.string (strB r4)) (h.mark.setT r4) : Qm w _ T kk a zn r4))
            have HCK := Lib.hid (fun (w5 : World) => QvCheckMark_any T kn a nn r4 (by omega) (by omega) w5)
            have hrs' := markC_size T kn a nn r4
            have hro' := markC_one T kn a nn r4
            obtain ⟨cr, hcr⟩ : ∃ c, markC T kn a nn r4 = c := ⟨_, rfl⟩
            have HCR := Lib.hid hcr
            have hcr2 := hcr
            rw [HKK.out, HZN.out] at hcr2
            have HCR2 := Lib.hid hcr2
            rw [hcr] at HCK hrs' hro'
            obtain ⟨S4, hS4⟩ : ∃ Z, strB r4 = Z := ⟨_, rfl⟩
            rw [hS4] at hsl' HSX
            have HGok := Lib.hid (fun h => getK_ok (R := ⟨T, kn, a, nn, r4⟩) h)
            have HGbad := Lib.hid (fun h => getK_bad (R := ⟨T, kn, a, nn, r4⟩) h)
            simp only [] at HGok HGbad
            obtain ⟨q, hq'⟩ : ∃ q, mchkE kn a nn r4 = q := ⟨_, rfl⟩
            rw [hq'] at HCK HGok HGbad
            clear hR3 h3 hsl hcr hcr2 hS4 hq'
            by_cases hq0 : q = 0
            · subst hq0
              go_enter Tryz.func13, Tryz.ntmps13
              go_wp2_with (first
                | (go_at_call 28; refine (HCK.out _).mono ?_; rintro e w14 ⟨rfl, b14⟩; have K14 := Lib.hid (K13.out.later (Fr.of_below (S := fun _ => False) b14)))
                | (have _ := K14; refine wpList_load_row rfl 54 _ rfl _ rfl 54 cr _ _ (by rw [← HCR2.out]; exact K14.out.mark) Tryz.underlying54 rfl (by rw [hrs']; exact size36m) ?_)
                | (have _ := K13; refine wpList_load_row rfl 54 _ rfl _ rfl 54 cr _ _ (by rw [← HCR2.out]; exact K13.out.mark) Tryz.underlying54 rfl (by rw [hrs']; exact size36m) ?_)
                | (have _ := K14; refine wpList_store_at rfl 54 _ _ rfl w.heap.size 0 54 zeroM cr rfl rfl K14.out.zero (by rw [hrs']; decide) (by rw [hrs']; exact size36m) hro' ?_
                   intro w15 hwz hf15
                   rw [laidAt_all _ _ (by rw [hrs']; rfl)] at hwz
                   have FZ := K14.out.fr.trans hf15 (fun i hi e => by omega))
                | (
                  (have _ := K11; go_at_call 26; refine (HNT.out _).mono ?_; rintro e w' ⟨rfl, rfl⟩))
                | (
                  (have _ := K10; go_at_call 24; refine (HLM.out _).mono ?_; rintro e w11 ⟨rfl, b11⟩; rw [HZt.out, HR3.out]; have K12 := Lib.hid (HSN.out _ (K10.out.later (Fr.of_below (S := fun _ => False) b11))); have d12 := K12.out.mark.ct; have e12 := K12.out.mark.frozen 35; have K13 := Lib.hid (HSX.out _ K12.out); have K11 := Lib.hid (K10.out.later (Fr.of_below (S := fun _ => False) b11)); have d11 := K11.out.mark.cn; have e11 := K11.out.mark.frozen 34))
                | (
                  (have _ := K8; go_at_call 24; refine (HLA.out _).mono ?_; rintro e w9 ⟨rfl, b9⟩; rw [HZa.out, HR2.out]; have K10 := Lib.hid (HSA.out _ (K8.out.later (Fr.of_below (S := fun _ => False) b9))); have K9 := Lib.hid (K8.out.later (Fr.of_below (S := fun _ => False) b9)); have d9 := K9.out.mark.ca; have e9 := K9.out.mark.frozen 33))
                | (
                  (go_at_call 26; refine (HNK.out _).mono ?_; rintro e w' ⟨rfl, rfl⟩))
                | (
                  (have _ := K6; go_at_call 24; refine (HLK.out _).mono ?_; rintro e w7 ⟨rfl, b7⟩; rw [HZk.out, HR1.out]; have K8 := Lib.hid (HSK.out _ (K6.out.later (Fr.of_below (S := fun _ => False) b7))); have K7 := Lib.hid (K6.out.later (Fr.of_below (S := fun _ => False) b7)); have d7 := K7.out.mark.ck; have e7 := K7.out.mark.frozen 32))
                | (
                  (go_at_call 24; refine (HL.out _).mono ?_; rintro e w3 ⟨rfl, b3⟩; rw [HZe.out, HR0.out]))
                | (
                  (go_at_call 25; refine (HR.out _).mono ?_; rintro e w4 ⟨rfl, b4⟩))
                | (
                  (refine wpList_build_to rfl 54 _ rfl #[] (by first | rfl | simp [Act.eval]) (.agg zeroM) (HBZ.out _) ?_))
                | (
                  (refine wpList_load_row rfl 32 _ rfl _ rfl 32 _ _ _ hw5 Tryz.underlying32 rfl (by rw [hPs]; exact size32) ?_))
                | (
                  (have _ := M5
                   refine wpList_store_at rfl 32 _ _ rfl (w.heap.size + 1) 0 54 _ P rfl rfl K5.out.mark (by rw [hRS, hPs]; decide) (by rw [hPs]; exact size32) hPo ?_
                   intro w6 hw6 hf6
                   rw [HLD.out] at hw6
                   have K6 : Hid (Qm w w6 T 0 [] 0 []) := Lib.hid ⟨K5.out.fr.trans hf6 (fun i hi e => by omega), K5.out.zero.fr hf6 (fun e => by omega), hw6⟩
                   clear hf6 hw6))
                | (
                  (refine wpList_store_at rfl 32 _ _ rfl w4.heap.size 0 32 _ P rfl rfl (Whole.new w4 32 zero32) (by rw [hPs]; decide) (by rw [hPs]; exact size32) hPo ?_
                   intro w5 hw5 hf5
                   rw [laidAt_all _ _ (by rw [hPs]; rfl)] at hw5
                   have F24 := ((HF.out.then_below b3).then_below b4).alloc (.cells zero32 32)
                   have F5 : Fr (fun _ => False) w w5 := F24.trans hf5 (fun i hi e => by have := b3.size; have := b4.size; omega)
                   have Z5 : Whole w5 w.heap.size 54 zeroM := (((HZ.out.fr (Fr.of_below (S := fun _ => False) b3) (fun e => e)).fr (Fr.of_below (S := fun _ => False) b4) (fun e => e)).fr ((Fr.refl (fun _ => False) _).alloc (.cells zero32 32)) (fun e => e)).fr hf5 (fun e => by have := b3.size; have := b4.size; omega)
                   have R5 : MarkAt w5 (w.heap.size + 1) 0 0 [] 0 [] := Whole.fr (((HRV.out.fr (Fr.of_below (S := fun _ => False) b3)).fr (Fr.of_below (S := fun _ => False) b4)).fr ((Fr.refl (fun _ => False) _).alloc (.cells zero32 32))) hf5 (fun e => by have := b3.size; have := b4.size; omega)
                   have K5 : Hid (Qm w w5 0 0 [] 0 []) := Lib.hid ⟨F5, Z5, R5⟩
                   have M5 := True.intro
                   clear F24 F5 Z5 R5 hf5)))
              refine bodyPost_ret (v := .tuple #[.agg cr, .int .i64 0]) (results_cell_slot (p := 2) (u := 3) rfl _ _ _ _ _ _ rfl hwz Tryz.underlying54 rfl (by rw [hrs']; exact size36m)) rfl ?_
              exact MarkIs.good (R := ⟨T, kn, a, nn, r4⟩) (by rw [HG4.out]; exact HGok.out (by first | rfl | trivial)) (by rw [← HCR.out]) FZ
            · have hqz : (q == 0) = false := by simp [hq0]
              go_enter Tryz.func13, Tryz.ntmps13
              go_wp2_with (first
                | (go_at_call 28; refine (HCK.out _).mono ?_; rintro e w14 ⟨rfl, b14⟩; have K14 := Lib.hid (K13.out.later (Fr.of_below (S := fun _ => False) b14)))
                | (have _ := K13; refine wpList_load_row rfl 54 _ rfl _ rfl 54 cr _ _ (by rw [← HCR2.out]; exact K13.out.mark) Tryz.underlying54 rfl (by rw [hrs']; exact size36m) ?_)
                | (
                  (have _ := K11; go_at_call 26; refine (HNT.out _).mono ?_; rintro e w' ⟨rfl, rfl⟩))
                | (
                  (have _ := K10; go_at_call 24; refine (HLM.out _).mono ?_; rintro e w11 ⟨rfl, b11⟩; rw [HZt.out, HR3.out]; have K12 := Lib.hid (HSN.out _ (K10.out.later (Fr.of_below (S := fun _ => False) b11))); have d12 := K12.out.mark.ct; have e12 := K12.out.mark.frozen 35; have K13 := Lib.hid (HSX.out _ K12.out); have K11 := Lib.hid (K10.out.later (Fr.of_below (S := fun _ => False) b11)); have d11 := K11.out.mark.cn; have e11 := K11.out.mark.frozen 34))
                | (
                  (have _ := K8; go_at_call 24; refine (HLA.out _).mono ?_; rintro e w9 ⟨rfl, b9⟩; rw [HZa.out, HR2.out]; have K10 := Lib.hid (HSA.out _ (K8.out.later (Fr.of_below (S := fun _ => False) b9))); have K9 := Lib.hid (K8.out.later (Fr.of_below (S := fun _ => False) b9)); have d9 := K9.out.mark.ca; have e9 := K9.out.mark.frozen 33))
                | (
                  (go_at_call 26; refine (HNK.out _).mono ?_; rintro e w' ⟨rfl, rfl⟩))
                | (
                  (have _ := K6; go_at_call 24; refine (HLK.out _).mono ?_; rintro e w7 ⟨rfl, b7⟩; rw [HZk.out, HR1.out]; have K8 := Lib.hid (HSK.out _ (K6.out.later (Fr.of_below (S := fun _ => False) b7))); have K7 := Lib.hid (K6.out.later (Fr.of_below (S := fun _ => False) b7)); have d7 := K7.out.mark.ck; have e7 := K7.out.mark.frozen 32))
                | (
                  (have _ := M5
                   refine wpList_store_at rfl 54 _ _ rfl w.heap.size 0 54 zeroM zeroM rfl rfl K14.out.zero (by decide) size36m zeroM_one ?_
                   intro w6 hwz hf6
                   rw [laidAt_all _ _ rfl] at hwz
                   have FZ := K14.out.fr.trans hf6 (fun i hi e => by omega)))
                | (
                  (go_at_call 24; refine (HL.out _).mono ?_; rintro e w3 ⟨rfl, b3⟩; rw [HZe.out, HR0.out]))
                | (
                  (go_at_call 25; refine (HR.out _).mono ?_; rintro e w4 ⟨rfl, b4⟩))
                | (
                  (refine wpList_build_to rfl 54 _ rfl #[] (by first | rfl | simp [Act.eval]) (.agg zeroM) (HBZ.out _) ?_))
                | (
                  (refine wpList_load_row rfl 32 _ rfl _ rfl 32 _ _ _ hw5 Tryz.underlying32 rfl (by rw [hPs]; exact size32) ?_))
                | (
                  (have _ := M5
                   refine wpList_store_at rfl 32 _ _ rfl (w.heap.size + 1) 0 54 _ P rfl rfl K5.out.mark (by rw [hRS, hPs]; decide) (by rw [hPs]; exact size32) hPo ?_
                   intro w6 hw6 hf6
                   rw [HLD.out] at hw6
                   have K6 : Hid (Qm w w6 T 0 [] 0 []) := Lib.hid ⟨K5.out.fr.trans hf6 (fun i hi e => by omega), K5.out.zero.fr hf6 (fun e => by omega), hw6⟩
                   clear hf6 hw6))
                | (
                  (refine wpList_store_at rfl 32 _ _ rfl w4.heap.size 0 32 _ P rfl rfl (Whole.new w4 32 zero32) (by rw [hPs]; decide) (by rw [hPs]; exact size32) hPo ?_
                   intro w5 hw5 hf5
                   rw [laidAt_all _ _ (by rw [hPs]; rfl)] at hw5
                   have F24 := ((HF.out.then_below b3).then_below b4).alloc (.cells zero32 32)
                   have F5 : Fr (fun _ => False) w w5 := F24.trans hf5 (fun i hi e => by have := b3.size; have := b4.size; omega)
                   have Z5 : Whole w5 w.heap.size 54 zeroM := (((HZ.out.fr (Fr.of_below (S := fun _ => False) b3) (fun e => e)).fr (Fr.of_below (S := fun _ => False) b4) (fun e => e)).fr ((Fr.refl (fun _ => False) _).alloc (.cells zero32 32)) (fun e => e)).fr hf5 (fun e => by have := b3.size; have := b4.size; omega)
                   have R5 : MarkAt w5 (w.heap.size + 1) 0 0 [] 0 [] := Whole.fr (((HRV.out.fr (Fr.of_below (S := fun _ => False) b3)).fr (Fr.of_below (S := fun _ => False) b4)).fr ((Fr.refl (fun _ => False) _).alloc (.cells zero32 32))) hf5 (fun e => by have := b3.size; have := b4.size; omega)
                   have K5 : Hid (Qm w w5 0 0 [] 0 []) := Lib.hid ⟨F5, Z5, R5⟩
                   have M5 := True.intro
                   clear F24 F5 Z5 R5 hf5)))
              refine bodyPost_ret (v := .tuple #[.agg zeroM, .int .i64 q]) (results_cell_slot (p := 2) (u := 3) rfl _ _ _ _ _ _ rfl hwz Tryz.underlying54 rfl size36m) rfl ?_
              exact MarkIs.bad (by rw [HG4.out]; exact HGbad.out hq0) rfl FZ
end Go.Proofs.YtddckehejdpjcabGreatDoor
/- What is proved: a tag held against itself whole is one; what a tag is put as is read as that tag, what is read as a tag is just what that one is put as. Conditions: none. -/
namespace Go.Proofs.YtddckehejdpjcabGreatDoor
open Go.RowKit Go.Sort Go.Shelf
open Ids (idC dgt big idC_size idC_get idC_one cellD zero32 size32 dgt_lt hexB nu)
set_option linter.unusedVariables false
section
variable (T : Nat) (k : Int) (a : List UInt8) (n : Int) (t : List UInt8)
end
theorem getM_props (l : List UInt8) : (getM l).1.a.length ≤ l.length ∧ (getM l).1.t.length ≤ l.length ∧ (getM l).1.T < big := by
  have hz : zeroQ.a.length ≤ l.length ∧ zeroQ.t.length ≤ l.length ∧ zeroQ.T < big := ⟨Nat.zero_le _, Nat.zero_le _, by decide⟩
  rw [getM]
  cases h : markL l with
  | none => exact hz
  | some R =>
    have hp := markL_props h
    by_cases h0 : mchkE R.k R.a R.n R.t = 0
    · rw [getK_ok h0]; exact ⟨hp.2.1, hp.2.2.1, hp.2.2.2.2⟩
    · rw [getK_bad h0]; exact hz
end Go.Proofs.YtddckehejdpjcabGreatDoor

/- What is proved: the walk of the law RefsSets, for every list, name and id. Conditions: the list's cells are there; the name is not too long for any machine. -/
import Derived.Test.YtoakbdmfoepdgaaDoorRgi
import Derived.Test.YtoakbdmfoepdgaaDoorRgl
import Derived.Test.YtoakbdmfoepdgaaDoorRfh
namespace Go.Proofs.YtoakbdmfoepdgaaDoor
open Go.RowKit Go.Sort Go.Shelf
set_option linter.unusedVariables false

theorem load_whole2 {w : World} {g : Nat} {t : TypeId} {cs : Array Value} (h : Whole w g t cs) (n : Nat) (hn : n = cs.size) : (loadCellsFrom ⟨g, 0, none⟩ 0 n #[]).run Tryd.prog w = .ok cs w := by
  have h2 := run_loadCells_list (P := Tryd.prog) w ⟨g, 0, none⟩ cs.toList (fun j v hv => by rw [add_off, Nat.zero_add, h.cell]; simpa using hv)
  rw [Array.length_toList] at h2
  rw [hn]
  simpa [loadCells] using h2
theorem setL_len (l : List Rf) (x : Rf) : (setL l x).length = (witR l x.name).length + 1 := by
  rw [setL, List.length_append, List.length_cons, List.length_take, List.length_drop]
  omega
theorem witR_le (l : List Rf) (n : List UInt8) : (witR l n).length ≤ l.length := by
  have := witR_len l n l.length
  rwa [List.take_length] at this
theorem setO_len (l : List Rf) (x : Rf) : (setO l x).1.length ≤ l.length + 1 := by
  have h := witR_le l x.name
  have h2 := setL_len l x
  unfold setO
  repeat' split
  all_goals simp
  omega
theorem dropO_len (l : List Rf) (n : List UInt8) : (dropO l n).1.length ≤ l.length := by
  have h := witR_le l n
  unfold dropO
  repeat' split
  all_goals simp
  exact h
theorem own_copyR {w1 wa : World} {vO : Value} {l : List Rf} {L : Nat} (hL : l.length = L) (o1 : wa.ownsRow w1.heap.size 50 33 vO (0 + L) ([] ++ flatR l)) (g1 : (w1.alloc (.cells #[] 50)).grownBy wa (Value.slice (some ⟨w1.heap.size, 0, none⟩) 0 0).ownBlock) : ∃ A c, vO = .slice A L c ∧ L ≤ c ∧ Lies wa A (flatR l) ∧ Fr (fun _ => False) w1 wa := by
  have f : Fr (fun _ => False) w1 wa := fr_append (own_noneR w1) ((Fr.refl (fun _ => False) w1).alloc _) g1
  have h : OwnR w1 wa vO l := ⟨by rw [hL]; simpa using o1, f⟩
  exact h.form hL

set_option maxHeartbeats 6400000 in
set_option maxRecDepth 100000 in
theorem sets_walk (A : Option Addr) (cap : Nat) (l : List Rf) (hcap : l.length ≤ cap) (x : List UInt8) (hx : x.length ≤ 140737488355327) (a : Nat) (ha : a < Ids.big) (w : World) (hl : Lies w A (flatR l)) (hlen : l.length ≤ 9223372036854775807) :
    Calls Tryd.prog 5 #[.slice A l.length cap, .string (strB x), .agg (Ids.idC (Ids.dgt a))] w fun e w' => e = .returned (.bool true) ∧ Below w.heap.size w w' := by
  have HL := Lib.hid (fun w' (f : Fr (fun _ => False) w w') => hl.fr f (fun _ _ e => e))
  have hci := Ids.idC_size (Ids.dgt a)
  by_cases hbig : 80 < l.length
  · have hgt : (80 : Int) < (l.length : Int) := by omega
    obtain ⟨L, hL⟩ : ∃ L, l.length = L := ⟨_, rfl⟩
    obtain ⟨X, hX⟩ : ∃ S, strB x = S := ⟨_, rfl⟩
    obtain ⟨ci, hcI⟩ : ∃ c, Ids.idC (Ids.dgt a) = c := ⟨_, rfl⟩
    rw [hL] at hgt ⊢
    rw [hX, hcI]
    clear hL hl hbig hlen HL hX hcI hcap hx ha hci
    have HF1 := Lib.hid ((Fr.refl (fun _ => False) w).alloc (.cells ci 41))
    go_enter Tryd.func5, Tryd.ntmps5
    go_wp2_with (go_at_call 8; refine (works12_any _).mono ?_; rintro e w2 ⟨rfl, b2⟩)
    go_ret
    exact ⟨rfl, (HF1.out.then_below b2).below (fun _ _ e => e)⟩
  · obtain ⟨i0, hi, hz0, hz1, hz2⟩ := info_parts info_ref
    have hz3 := zeroR_cells
    obtain ⟨Z, hZ⟩ : ∃ Z, (refV default).toArray = Z := ⟨_, rfl⟩
    rw [hZ] at hz0 hz3
    have C1 := Lib.hid (fun w' A c (hc : l.length ≤ c) (h : Lies w' A (flatR l)) => RfSet_any A c l (by omega) hc ⟨x, a, hx, ha⟩ w' h)
    have C2 := Lib.hid (fun w' (h : Lies w' A (flatR l)) => QfSet_any A cap l (by omega) ⟨x, a, hx, ha⟩ w' h)
    have C3 := Lib.hid (fun w' A c (hc : l.length ≤ c) (h : Lies w' A (flatR l)) => RfDrop_any A c l (by omega) hc x w' h)
    have C4 := Lib.hid (fun w' (h : Lies w' A (flatR l)) => QfDrop_any A cap l (by omega) x w' h)
    have hp1 := setO_len l ⟨x, a, hx, ha⟩
    have hd1 := dropO_len l x
    obtain ⟨p, hp⟩ : ∃ p, (setO l ⟨x, a, hx, ha⟩).1 = p := ⟨_, rfl⟩
    obtain ⟨e1, he1⟩ : ∃ p, (setO l ⟨x, a, hx, ha⟩).2 = p := ⟨_, rfl⟩
    obtain ⟨d, hd⟩ : ∃ p, (dropO l x).1 = p := ⟨_, rfl⟩
    obtain ⟨e2, he2⟩ : ∃ p, (dropO l x).2 = p := ⟨_, rfl⟩
    rw [hp, he1] at C1 C2
    rw [hd, he2] at C3 C4
    rw [hp] at hp1
    rw [hd] at hd1
    have S1 := Lib.hid (fun w' A B c d' (h : Lies w' A (flatR p)) (h2 : Lies w' B (flatR p)) => QfSame_same A B c d' p (by omega) w' h h2)
    have S2 := Lib.hid (fun w' A B c d' (h : Lies w' A (flatR d)) (h2 : Lies w' B (flatR d)) => QfSame_same A B c d' d (by omega) w' h h2)
    have S3 := Lib.hid (fun w' A B c d' (h : Lies w' A (flatR l)) (h2 : Lies w' B (flatR l)) => QfSame_same A B c d' l (by omega) w' h h2)
    obtain ⟨m1, hm1⟩ : ∃ m, p.length = m := ⟨_, rfl⟩
    have HM1 := Lib.hid hm1
    obtain ⟨m2, hm2⟩ : ∃ m, d.length = m := ⟨_, rfl⟩
    have HM2 := Lib.hid hm2
    rw [hm1] at S1
    rw [hm2] at S2
    obtain ⟨L, hL⟩ : ∃ L, l.length = L := ⟨_, rfl⟩
    have HLn := Lib.hid hL
    obtain ⟨X, hX⟩ : ∃ S, strB x = S := ⟨_, rfl⟩
    obtain ⟨ci, hcI⟩ : ∃ c, Ids.idC (Ids.dgt a) = c := ⟨_, rfl⟩
    simp only [] at C1 C2
    rw [hL] at C1 C2 C3 C4 S3 hbig ⊢
    rw [hX] at C1 C2 C3 C4 ⊢
    rw [hcI] at C1 C2 hci ⊢
    have hle : ¬ ((80 : Int) < (L : Int)) := by omega
    obtain ⟨w1, hw1⟩ : ∃ w1, w.alloc (.cells ci 41) = w1 := ⟨_, rfl⟩
    have HZ1 := Lib.hid (show Whole w1 w.heap.size 41 ci from by subst hw1; exact Whole.new w 41 ci)
    have F1 := Lib.hid (show Fr (fun _ => False) w w1 from by subst hw1; exact (Fr.refl (fun _ => False) w).alloc _)
    obtain ⟨T, hT⟩ : ∃ T : TypeId, T = 41 := ⟨_, rfl⟩
    obtain ⟨n32, h32⟩ : ∃ n : Nat, n = 32 := ⟨_, rfl⟩
    have ag32 : ∀ w, (isAgg T).run Tryd.prog w = .ok true w := by rw [hT]; exact fun _ => by kernel_rfl
    have sz32 : ∀ w, (sizeOf T).run Tryd.prog w = .ok n32 w := by rw [hT, h32]; exact fun _ => by kernel_rfl
    have HN := Lib.hid h32
    have HId : Hid (∀ w', Fr (fun _ => False) w1 w' → (loadCellsFrom ⟨w.heap.size, 0, none⟩ 0 n32 #[]).run Tryd.prog w' = .ok ci w') := Lib.hid (fun w' f => load_whole2 (HZ1.out.fr f (fun e => e)) n32 (by rw [HN.out, hci]))
    clear hL hl hX hcI hcap hx ha hlen hbig hp he1 hd he2 hm1 hm2 h32 hZ hp1 hd1
    go_enter Tryd.func5, Tryd.ntmps5
    rw [show Op.load 41 (.tmp 5) = Op.load T (.tmp 5) by rw [hT]]
    clear hT
    go_wp2_with (first
      | (go_at_call 8; refine (works12_any _).mono ?_; rintro e wj ⟨rfl, b5⟩; have Gj := Lib.hid (Gi.out.then_below b5); clear b5)
      | (go_at_call 16; have _ := M2; refine (S3.out wh _ _ _ _ (HlO.out.fr ((FOf.out.trans ((Fr.of_below (S := fun _ => False) Bg.out)) (fun _ _ e => e)).trans (Fr.of_below (S := fun _ => False) Bh.out) (fun _ _ e => e)) (fun _ _ e => e)) (HL.out wh Gh.out)).mono ?_; rintro e wi ⟨rfl, b5⟩; have Gi := Lib.hid (Gh.out.then_below b5); clear b5)
      | (go_at_call 16; have _ := M1; refine (S2.out wg _ _ _ _ (HlD.out.fr (FDf.out.then_below Bg.out) (fun _ _ e => e)) (HlE.out.fr (Fr.of_below (S := fun _ => False) Bg.out) (fun _ _ e => e))).mono ?_; rintro e wh ⟨rfl, b5⟩; have Bh := Lib.hid b5; have Gh := Lib.hid (Gg.out.then_below b5); have M2 := True.intro; clear b5)
      | (go_at_call 16; refine (S1.out wf _ _ _ _ (HlP.out.fr FPf.out (fun _ _ e => e)) (HlQ.out.fr FQf.out (fun _ _ e => e))).mono ?_; rintro e wg ⟨rfl, b5⟩; have Bg := Lib.hid b5; have Gg := Lib.hid (Gf.out.then_below b5); have M1 := True.intro; clear b5)
      | (go_at_call 20; refine (C4.out we (HL.out we Ge.out)).mono ?_; rintro e wf ⟨vE, rfl, hoE⟩
         obtain ⟨AE, cE, rfl, -, hlE, hfE⟩ := hoE.form HM2.out
         have HlE := Lib.hid hlE
         have Gf := Lib.hid (Ge.out.trans hfE (fun _ _ e => e))
         have FPf := Lib.hid (FPe.out.trans hfE (fun _ _ e => e))
         have FQf := Lib.hid (FQe.out.trans hfE (fun _ _ e => e))
         have FDf := Lib.hid hfE
         have FOf := Lib.hid (FOe.out.trans hfE (fun _ _ e => e))
         clear hoE hlE hfE)
      | (go_at_call 19; refine (C3.out wd _ _ HcO.out (HlO.out.fr FOd.out (fun _ _ e => e))).mono ?_; rintro e we ⟨vD, rfl, hoD⟩
         obtain ⟨AD, cD, rfl, -, hlD, hfD⟩ := hoD.form HM2.out
         have HlD := Lib.hid hlD
         have Ge := Lib.hid (Gd.out.trans hfD (fun _ _ e => e))
         have FPe := Lib.hid (FPd.out.trans hfD (fun _ _ e => e))
         have FQe := Lib.hid hfD
         have FOe := Lib.hid (FOd.out.trans hfD (fun _ _ e => e))
         clear hoD hlD hfD)
      | (go_at_call 18; refine (C2.out wb (HL.out wb Gb.out)).mono ?_; rintro e wd ⟨vQ, rfl, hoQ⟩
         obtain ⟨AQ, cQ, rfl, -, hlQ, hfQ⟩ := hoQ.form HM1.out
         have HlQ := Lib.hid hlQ
         have Gd := Lib.hid (Gb.out.trans hfQ (fun _ _ e => e))
         have FPd := Lib.hid hfQ
         have FOd := Lib.hid (FOb.out.trans hfQ (fun _ _ e => e))
         clear hoQ hlQ hfQ)
      | (go_at_call 17; refine (C1.out wa _ _ HcO.out HlO.out).mono ?_; rintro e wb ⟨vP, rfl, hoP⟩
         obtain ⟨AP, cP, rfl, -, hlP, hfP⟩ := hoP.form HM1.out
         have HlP := Lib.hid hlP
         have Gb := Lib.hid (Ga.out.trans hfP (fun _ _ e => e))
         have FOb := Lib.hid hfP
         have lb := HId.out wb (Ha.out.trans hfP (fun _ _ e => e))
         clear hoP hlP hfP)
      | (at_builtin; refine wpList_append_row _ rfl (.tmp 20) (.tmp 21) 22 22 rfl w1.heap.size 50 i0 (.agg Z) 33 48 Tryd.underlying22 hi hz0 hz1 hz2 hz3 (.slice (some ⟨w1.heap.size, 0, none⟩) 0 0) 0 [] rfl (own_noneR w1) (.slice A L cap) L (flatR l) rfl (Lies.src33 (HL.out _ (F1.out.alloc _)) HLn.out cap) (by unfold maxLen; omega) (by omega) (by simp) ?_
         intro vO wa o1 g1 at1
         obtain ⟨AO, cO, rfl, hcO, hlO, hfO⟩ := own_copyR HLn.out o1 g1
         have HlO := Lib.hid hlO
         have HcO := Lib.hid hcO
         have Ha := Lib.hid hfO
         have Ga := Lib.hid (F1.out.trans hfO (fun _ _ e => e))
         have la := HId.out wa hfO
         clear o1 g1 at1 hfO hlO hcO))
    go_ret
    exact ⟨rfl, Gj.out.below (fun _ _ e => e)⟩
end Go.Proofs.YtoakbdmfoepdgaaDoor

/- What is proved: the walk of the law RefsFinds, for every list, word and directory. Conditions: the list's cells are there; the texts are not too long for any machine. -/
import Derived.Test.YtoakbdmfoepdgaaDoorRfk
import Derived.Test.YtoakbdmfoepdgaaDoorRfh
namespace Go.Proofs.YtoakbdmfoepdgaaDoor
open Go.RowKit Go.Sort Go.Shelf
set_option linter.unusedVariables false

theorem load_whole {w : World} {g : Nat} {t : TypeId} {cs : Array Value} (h : Whole w g t cs) (n : Nat) (hn : n = cs.size) : (loadCellsFrom ⟨g, 0, none⟩ 0 n #[]).run Tryd.prog w = .ok cs w := by
  have h2 := run_loadCells_list (P := Tryd.prog) w ⟨g, 0, none⟩ cs.toList (fun j v hv => by rw [add_off, Nat.zero_add, h.cell]; simpa using hv)
  rw [Array.length_toList] at h2
  rw [hn]
  simpa [loadCells] using h2

set_option maxHeartbeats 6400000 in
set_option maxRecDepth 100000 in
theorem finds_walk (A : Option Addr) (cap : Nat) (l : List Rf) (hcap : l.length ≤ cap) (x d : List UInt8) (hx : x.length ≤ 9223372036854775000) (hd : d.length ≤ 9223372036854775000) (w : World) (hl : Lies w A (flatR l)) (hlen : l.length ≤ 9223372036854775807) :
    Calls Tryd.prog 6 #[.slice A l.length cap, .string (strB x), .string (strB d)] w fun e w' => e = .returned (.bool true) ∧ Below w.heap.size w w' := by
  have HL := Lib.hid (fun w' (f : Fr (fun _ => False) w w') => hl.fr f (fun _ _ e => e))
  obtain ⟨X, hX⟩ : ∃ S, strB x = S := ⟨_, rfl⟩
  obtain ⟨D, hD⟩ : ∃ S, strB d = S := ⟨_, rfl⟩
  by_cases hbig : 80 < l.length
  · have hgt : (80 : Int) < (l.length : Int) := by omega
    obtain ⟨L, hL⟩ : ∃ L, l.length = L := ⟨_, rfl⟩
    rw [hL] at hgt ⊢
    rw [hX, hD]
    clear hL hl hbig hlen HL hX hD hcap hx hd
    go_enter Tryd.func6, Tryd.ntmps6
    go_wp2_with (go_at_call 8; refine (works12_any _).mono ?_; rintro e w2 ⟨rfl, b2⟩)
    go_ret
    exact ⟨rfl, b2⟩
  · have C1 := Lib.hid (fun w' (h : Lies w' A (flatR l)) => RfFind_any A cap l (by omega) x w' h)
    have C2 := Lib.hid (fun w' (h : Lies w' A (flatR l)) => QfFind_any A cap l (by omega) x w' h)
    have C3 := Lib.hid (fun w' (h : Lies w' A (flatR l)) => RfResolve_any A cap l (by omega) hcap x hx w' h)
    have C4 := Lib.hid (fun w' (h : Lies w' A (flatR l)) => QfResolve_any A cap l (by omega) x hx w' h)
    have C5 := Lib.hid (fun w' (h : Lies w' A (flatR l)) => RfUnder_any A cap l (by omega) d (by omega) w' h)
    have C6 := Lib.hid (fun w' (h : Lies w' A (flatR l)) => QfUnder_any A cap l (by omega) d (by omega) w' h)
    have hul : (undR l d).length ≤ 80 := by have := undR_len l d l.length; rw [List.take_length] at this; omega
    have C7 := Lib.hid (fun w' A B c d' (h : Lies w' A (flatR (undR l d))) (h2 : Lies w' B (flatR (undR l d))) => QfSame_same A B c d' (undR l d) (by omega) w' h h2)
    obtain ⟨u, hu⟩ : ∃ u, undR l d = u := ⟨_, rfl⟩
    rw [hu] at C5 C6 C7 hul
    obtain ⟨m, hm⟩ : ∃ m, u.length = m := ⟨_, rfl⟩
    have HM := Lib.hid hm
    rw [hm] at C7
    obtain ⟨f, hf⟩ : ∃ f, optR (findR l x) = f := ⟨_, rfl⟩
    obtain ⟨fb, hfb⟩ : ∃ b, (findR l x).isSome = b := ⟨_, rfl⟩
    rw [hf, hfb] at C1 C2
    obtain ⟨y, hy⟩ : ∃ y, (resR l x).1 = y := ⟨_, rfl⟩
    obtain ⟨c, hc⟩ : ∃ c, (resR l x).2 = c := ⟨_, rfl⟩
    rw [hy, hc] at C3 C4
    have heq1 := fun w => Ids.eq_nums f.id f.id f.hi f.hi w
    rw [beq_self_eq_true] at heq1
    have heq2 := fun w => eq_refs y y 10000 (by decide) w
    rw [rfEq_self] at heq2
    have HIS := Lib.hid (idC_sz f.id)
    have HIA := Lib.hid (idC_al f.id)
    have hci := Ids.idC_size (Ids.dgt f.id)
    obtain ⟨ci, hcI⟩ : ∃ c, Ids.idC (Ids.dgt f.id) = c := ⟨_, rfl⟩
    rw [hcI] at C1 C2 hci HIS HIA heq1
    have hcs := refV_size y
    have HO := Lib.hid (refV_all y)
    obtain ⟨cr, hcr⟩ : ∃ c, (refV y).toArray = c := ⟨_, rfl⟩
    rw [hcr] at C3 C4 hcs HO heq2
    obtain ⟨L, hL⟩ : ∃ L, l.length = L := ⟨_, rfl⟩
    rw [hL] at C1 C2 C3 C4 C5 C6 hbig ⊢
    rw [hX] at C1 C2 C3 C4 ⊢
    rw [hD] at C5 C6 ⊢
    have hle : ¬ ((80 : Int) < (L : Int)) := by omega
    obtain ⟨T, hT⟩ : ∃ T : TypeId, T = 41 := ⟨_, rfl⟩
    obtain ⟨n32, h32⟩ : ∃ n : Nat, n = 32 := ⟨_, rfl⟩
    have ag32 : ∀ w, (isAgg T).run Tryd.prog w = .ok true w := by rw [hT]; exact fun _ => by kernel_rfl
    have sz32 : ∀ w, (sizeOf T).run Tryd.prog w = .ok n32 w := by rw [hT, h32]; exact fun _ => by kernel_rfl
    have HN32 := Lib.hid h32
    obtain ⟨T2, hT2⟩ : ∃ T : TypeId, T = 50 := ⟨_, rfl⟩
    obtain ⟨n33, h33⟩ : ∃ n : Nat, n = 33 := ⟨_, rfl⟩
    have ag33 : ∀ w, (isAgg T2).run Tryd.prog w = .ok true w := by rw [hT2]; exact fun _ => by kernel_rfl
    have sz33 : ∀ w, (sizeOf T2).run Tryd.prog w = .ok n33 w := by rw [hT2, h33]; exact fun _ => by kernel_rfl
    have HN33 := Lib.hid h33
    have hgi := guardI
    have hgr := guardR
    clear hL hl hX hD hcap hx hd hlen hbig hu hm hf hfb hy hc hcI hcr h32 h33
    go_enter Tryd.func6, Tryd.ntmps6
    rw [show Op.load 41 (.tmp 7) = Op.load T (.tmp 7) by rw [hT], show Op.load 41 (.tmp 9) = Op.load T (.tmp 9) by rw [hT], show Op.load 50 (.tmp 11) = Op.load T2 (.tmp 11) by rw [hT2], show Op.load 50 (.tmp 13) = Op.load T2 (.tmp 13) by rw [hT2]]
    clear hT hT2
    go_upto_region 4 with (first
      | (go_at_call 21; refine (C1.out w (HL.out w (Fr.refl _ _))).mono ?_; rintro e w1 ⟨rfl, b1⟩; have HF1 := Lib.hid (Fr.of_below (S := fun _ => False) b1); clear b1)
      | (refine wpList_store_at rfl 41 _ _ rfl w1.heap.size 0 41 Ids.zero32 ci rfl rfl (Whole.new w1 41 Ids.zero32) (by rw [hci]; decide) HIS.out HIA.out ?_
         intro w2 hw2 hf2
         rw [laidAt_all _ _ (by rw [hci]; rfl)] at hw2
         have HW2 := Lib.hid hw2
         have HF2 := Lib.hid (HF1.out.trans (((Fr.refl (fun _ => False) w1).alloc _).trans hf2 (fun i hi e => by omega)) (fun _ _ e => e))
         clear hw2 hf2))
    obtain ⟨g7, hg7⟩ : ∃ g, w1.heap.size = g := ⟨_, rfl⟩
    rw [hg7] at HW2 ⊢
    clear hg7
    go_upto_region 5 with (first
      | (go_at_call 22; refine (C2.out w2 (HL.out w2 HF2.out)).mono ?_; rintro e w3 ⟨rfl, b1⟩; have HF3 := Lib.hid (Fr.of_below (S := fun _ => False) b1); clear b1)
      | (refine wpList_store_at rfl 41 _ _ rfl w3.heap.size 0 41 Ids.zero32 ci rfl rfl (Whole.new w3 41 Ids.zero32) (by rw [hci]; decide) HIS.out HIA.out ?_
         intro w4 hw2 hf2
         rw [laidAt_all _ _ (by rw [hci]; rfl)] at hw2
         have HW4 := Lib.hid hw2
         have HF4 := Lib.hid (HF3.out.trans (((Fr.refl (fun _ => False) w3).alloc _).trans hf2 (fun i hi e => by omega)) (fun _ _ e => e))
         have HG4 := Lib.hid (HF2.out.trans HF4.out (fun _ _ e => e))
         clear hw2 hf2))
    obtain ⟨g9, hg9⟩ : ∃ g, w3.heap.size = g := ⟨_, rfl⟩
    rw [hg9] at HW4 ⊢
    clear hg9
    go_upto_region 6 with (first
      | (go_at_call 23; refine (C3.out w4 (HL.out w4 HG4.out)).mono ?_; rintro e w5 ⟨rfl, b1⟩; have HF5 := Lib.hid (Fr.of_below (S := fun _ => False) b1); clear b1)
      | (refine wpList_store_at rfl 50 _ _ rfl w5.heap.size 0 50 zeroR cr rfl rfl (Whole.new w5 50 zeroR) (by rw [zeroR_size, hcs]; exact Nat.le_refl _) (by rw [hcs]; exact size_ref) HO.out ?_
         intro w6 hw2 hf2
         rw [laidAt_all _ _ (by rw [zeroR_size, hcs])] at hw2
         have HW6 := Lib.hid hw2
         have HF6 := Lib.hid (HF5.out.trans (((Fr.refl (fun _ => False) w5).alloc _).trans hf2 (fun i hi e => by omega)) (fun _ _ e => e))
         have HG6 := Lib.hid (HG4.out.trans HF6.out (fun _ _ e => e))
         clear hw2 hf2))
    obtain ⟨g11, hg11⟩ : ∃ g, w5.heap.size = g := ⟨_, rfl⟩
    rw [hg11] at HW6 ⊢
    clear hg11
    go_upto_region 7 with (first
      | (go_at_call 24; refine (C4.out w6 (HL.out w6 HG6.out)).mono ?_; rintro e w7 ⟨rfl, b1⟩; have HF7 := Lib.hid (Fr.of_below (S := fun _ => False) b1); clear b1)
      | (refine wpList_store_at rfl 50 _ _ rfl w7.heap.size 0 50 zeroR cr rfl rfl (Whole.new w7 50 zeroR) (by rw [zeroR_size, hcs]; exact Nat.le_refl _) (by rw [hcs]; exact size_ref) HO.out ?_
         intro w8 hw2 hf2
         rw [laidAt_all _ _ (by rw [zeroR_size, hcs])] at hw2
         have HW8 := Lib.hid hw2
         have HF8 := Lib.hid (HF7.out.trans (((Fr.refl (fun _ => False) w7).alloc _).trans hf2 (fun i hi e => by omega)) (fun _ _ e => e))
         have HG8 := Lib.hid (HG6.out.trans HF8.out (fun _ _ e => e))
         clear hw2 hf2))
    obtain ⟨g13, hg13⟩ : ∃ g, w7.heap.size = g := ⟨_, rfl⟩
    rw [hg13] at HW8 ⊢
    clear hg13
    have q7 := load_whole (HW2.out.fr ((HF4.out.trans HF6.out (fun _ _ e => e)).trans HF8.out (fun _ _ e => e)) (fun e => e)) n32 (by rw [HN32.out, hci])
    have q9 := load_whole (HW4.out.fr (HF6.out.trans HF8.out (fun _ _ e => e)) (fun e => e)) n32 (by rw [HN32.out, hci])
    have q11 := load_whole (HW6.out.fr HF8.out (fun e => e)) n33 (by rw [HN33.out, hcs])
    have q13 := load_whole HW8.out n33 (by rw [HN33.out, hcs])
    go_wp2_with (first
      | (go_at_call 8; refine (works12_any wb).mono ?_; rintro e wd ⟨rfl, b5⟩; have HGd := Lib.hid (HGb.out.then_below b5); clear b5)
      | (go_at_call 16; refine (C7.out wa _ _ _ _ (hlU.fr hfV (fun _ _ e => e)) hlV).mono ?_; rintro e wb ⟨rfl, b4⟩; have HGb := Lib.hid (HGa.out.then_below b4); clear b4)
      | (go_at_call 26; refine (C6.out w9 (HL.out w9 HG9.out)).mono ?_; rintro e wa ⟨vV, rfl, hoV⟩
         obtain ⟨AV, cV, rfl, -, hlV, hfV⟩ := hoV.form HM.out
         have HGa := Lib.hid (HG9.out.trans hfV (fun _ _ e => e))
         clear hoV)
      | (go_at_call 25; refine (C5.out w8 (HL.out w8 HG8.out)).mono ?_; rintro e w9 ⟨vU, rfl, hoU⟩
         obtain ⟨AU, cU, rfl, -, hlU, hfU⟩ := hoU.form HM.out
         have HG9 := Lib.hid (HG8.out.trans hfU (fun _ _ e => e))
         clear hoU))
    go_ret
    exact ⟨rfl, HGd.out.below (fun _ _ e => e)⟩
end Go.Proofs.YtoakbdmfoepdgaaDoor

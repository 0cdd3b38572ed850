/- What is proved: a table as text, by the document; the walk of the law RefsPuts, for every list. Conditions: the list's cells are there. -/
import Derived.Test.YtoakbdmfoepdgaaDoorRfn
import Derived.Test.YtoakbdmfoepdgaaDoorRfi
import Derived.Test.YtoakbdmfoepdgaaDoorRfh
namespace Go.Proofs.YtoakbdmfoepdgaaDoor
open Go.RowKit Go.Sort Go.Shelf
set_option linter.unusedVariables false

/-- Bytes that a value is. -/
def BytAt (w : World) (v : Value) (l : List UInt8) : Prop := ∃ B d, v = .slice B l.length d ∧ Lies w B (bytesV l)
theorem BytAt.mk {w : World} {B : Option Addr} {n d : Nat} {l : List UInt8} (hn : l.length = n) (h : Lies w B (bytesV l)) : BytAt w (.slice B n d) l := ⟨B, d, by rw [hn], h⟩

set_option maxHeartbeats 3200000 in
set_option maxRecDepth 100000 in
theorem QfPut_any (A : Option Addr) (cap : Nat) (l : List Rf) (hn : l.length ≤ 100000) (w : World) (h : Lies w A (flatR l)) :
    Calls Tryd.prog 10 #[.slice A l.length cap] w fun e w' => ∃ v, e = .returned (.tuple #[v, .int .i64 (chkR l)]) ∧ BytAt w' v (putO l) ∧ Below w.heap.size w w' := by
  have HLI := Lib.hid h
  have HCk := Lib.hid (QfCheck_any A cap l hn w h)
  have HT : Hid (chkR l = 0 → TabR l) := Lib.hid (chkR_tab l).1
  have HP : Hid (putO l = if chkR l = 0 then putR l else []) := Lib.hid rfl
  have HSn := Lib.hid (putR_snoc l)
  obtain ⟨L, hL⟩ : ∃ L, l.length = L := ⟨_, rfl⟩
  have HLn := Lib.hid hL
  obtain ⟨c, hc⟩ : ∃ c, chkR l = c := ⟨_, rfl⟩
  obtain ⟨T2, hT2⟩ : ∃ T : TypeId, T = 41 := ⟨_, rfl⟩
  obtain ⟨n32, h32⟩ : ∃ n : Nat, n = 32 := ⟨_, rfl⟩
  have ag32 : ∀ w, (isAgg T2).run Tryd.prog w = .ok true w := by rw [hT2]; exact fun _ => by kernel_rfl
  have sz32 : ∀ w, (sizeOf T2).run Tryd.prog w = .ok n32 w := by rw [hT2, h32]; exact fun _ => by kernel_rfl
  have HN2 := Lib.hid h32
  rw [hc] at HCk HT HP ⊢
  rw [hL] at hn HSn HCk ⊢
  clear h hL hc h32
  go_enter Tryd.func10, Tryd.ntmps10
  rw [show Op.load 41 (.tmp 22) = Op.load T2 (.tmp 22) by rw [hT2]]
  clear hT2
  by_cases hc0 : c = 0
  · subst hc0
    have hTab := HT.out rfl
    have HPl := Lib.hid (putR_len hTab)
    have HRt := Lib.hid hTab.right
    clear hTab
    go_wp2_with (go_at_call 13; refine HCk.out.mono ?_; rintro e w1 ⟨rfl, b1⟩; have HF1 := Lib.hid (Fr.of_below (S := fun _ => False) b1); clear b1)
    go_loopg [5, 6] L (fun kx s5 s6 wr => ∃ (k : Nat) (S0 : ByteArray), s5 = .string S0 ∧ s6 = .int .i64 k ∧ k ≤ L ∧ L - k ≤ kx ∧ Fr (fun _ => False) w1 wr ∧ Hid (strB (putR (l.take k)) = S0))
    case atStart => exact ⟨0, _, rfl, rfl, by omega, by omega, Fr.refl _ _, Lib.hid rfl⟩
    case round =>
      obtain ⟨k, S0, rfl, rfl, hk, hkx, hf, HB⟩ := hrel
      obtain ⟨wo, rfl⟩ : ∃ wo, wo = wr := ⟨wr, rfl⟩
      have HFo := Lib.hid (HF1.out.trans hf (fun _ _ e => e))
      have HFo1 := Lib.hid hf
      clear hf
      have wk := wrap_nat k (by omega)
      by_cases hlt : k < L
      · have hltz : (k : Int) < L := by omega
        obtain ⟨b, o, hB⟩ := HLI.out.someR (by rw [HLn.out]; omega)
        subst hB
        have cq : ∀ q : Later wo, q.w'.cell? ⟨b, o + k * 33, none⟩ = some (.string (strB l[k]!.name)) := fun q => rname_at HLI.out (rf_some (by rw [HLn.out]; omega)) (HFo.out.trans q.fr (fun _ _ e => e))
        have lq : ∀ q : Later wo, (loadCellsFrom ⟨b, o + k * 33 + 1, none⟩ 0 n32 #[]).run Tryd.prog q.w' = .ok (Ids.idC (Ids.dgt l[k]!.id)) q.w' := fun q => load_rid HLI.out (rf_some (by rw [HLn.out]; omega)) (HFo.out.trans q.fr (fun _ _ e => e)) n32 HN2.out
        have HSk := Lib.hid (HSn.out k hlt)
        have hpl := HPl.out k
        have hyn := right_len (HRt.out l[k]! (rf_mem (by rw [HLn.out]; omega)))
        obtain ⟨y, hy⟩ : ∃ y, l[k]! = y := ⟨_, rfl⟩
        rw [hy] at cq lq HSk hyn
        have hHx := fun w => Ids.QHex_any (Ids.dgt y.id) (Ids.dgt_lt y.id) w
        obtain ⟨pl, hple⟩ : ∃ pl, putR (l.take k) = pl := ⟨_, rfl⟩
        rw [hple] at hpl HSk HB
        have s0 : ∀ w, (Op.stringOp .add (strB pl) (Ids.hexS (Ids.dgt y.id))).run Tryd.prog w = .ok (.string (strB (pl ++ Ids.hexB (Ids.dgt y.id) 64))) w := fun w => add_str pl (Ids.hexB (Ids.dgt y.id) 64) (by rw [Ids.hexB_len]; omega) w
        have s1 : ∀ w, (Op.stringOp .add (strB (pl ++ Ids.hexB (Ids.dgt y.id) 64)) { data := #[32] }).run Tryd.prog w = .ok (.string (strB ((pl ++ Ids.hexB (Ids.dgt y.id) 64) ++ [32]))) w := fun w => add_str _ [32] (by rw [List.length_append, Ids.hexB_len]; simp; omega) w
        have s2 : ∀ w, (Op.stringOp .add (strB ((pl ++ Ids.hexB (Ids.dgt y.id) 64) ++ [32])) (strB y.name)).run Tryd.prog w = .ok (.string (strB (((pl ++ Ids.hexB (Ids.dgt y.id) 64) ++ [32]) ++ y.name))) w := fun w => add_str _ _ (by rw [List.length_append, List.length_append, Ids.hexB_len]; simp; omega) w
        have s3 : ∀ w, (Op.stringOp .add (strB (((pl ++ Ids.hexB (Ids.dgt y.id) 64) ++ [32]) ++ y.name)) { data := #[10] }).run Tryd.prog w = .ok (.string (strB ((((pl ++ Ids.hexB (Ids.dgt y.id) 64) ++ [32]) ++ y.name) ++ [10]))) w := fun w => add_str _ [10] (by rw [List.length_append, List.length_append, List.length_append, Ids.hexB_len]; simp; omega) w
        have he : (((pl ++ Ids.hexB (Ids.dgt y.id) 64) ++ [32]) ++ y.name) ++ [10] = pl ++ lineR y := by simp [lineR]
        rw [he, ← HSk.out] at s3
        rw [HB.out] at s0
        obtain ⟨ci, hcI⟩ : ∃ c, Ids.idC (Ids.dgt y.id) = c := ⟨_, rfl⟩
        rw [hcI] at hHx lq
        obtain ⟨H0, hH0⟩ : ∃ S, Ids.hexS (Ids.dgt y.id) = S := ⟨_, rfl⟩
        rw [hH0] at hHx s0
        obtain ⟨S1, hS1⟩ : ∃ S, strB (pl ++ Ids.hexB (Ids.dgt y.id) 64) = S := ⟨_, rfl⟩
        rw [hS1] at s0 s1
        obtain ⟨S2, hS2⟩ : ∃ S, strB ((pl ++ Ids.hexB (Ids.dgt y.id) 64) ++ [32]) = S := ⟨_, rfl⟩
        rw [hS2] at s1 s2
        obtain ⟨S3, hS3⟩ : ∃ S, strB (((pl ++ Ids.hexB (Ids.dgt y.id) 64) ++ [32]) ++ y.name) = S := ⟨_, rfl⟩
        rw [hS3] at s2 s3
        obtain ⟨S4, hS4⟩ : ∃ S, strB (putR (l.take (k + 1))) = S := ⟨_, rfl⟩
        have HS4 := Lib.hid hS4
        rw [hS4] at s3
        obtain ⟨S, hS⟩ : ∃ S, strB y.name = S := ⟨_, rfl⟩
        rw [hS] at cq s2
        have HHx := Lib.hid hHx
        clear hy hS hS1 hS2 hS3 hS4 hH0 hcI hple hHx hyn he
        go_wp2_with fail
        refine wp_region_later (w0 := wo) (Fr.refl _ _) (by kernel_rfl) (by kernel_rfl) ?_
        repeat (quiet_step ((go_at_call 28; refine Calls.later_of (HHx.out _))))
        refine wpQuiet_nil ?_
        intro _ hw'
        obtain ⟨q, hw''⟩ := hw'
        subst hw''
        go_wp2_with fail
        go_roundg (L - (k + 1))
        case measure => omega
        case rel => exact ⟨k + 1, S4, rfl, by go_num, by omega, Nat.le_refl _, HFo1.out.trans q.fr (fun _ _ e => e), HS4⟩
      · have hltz : ¬ ((k : Int) < L) := by omega
        obtain rfl : k = L := by omega
        have hfin : l.take k = l := List.take_of_length_le (by rw [HLn.out]; omega)
        rw [hfin] at HB
        clear hfin
        obtain ⟨cc, wz, hcv, hfz, hlz⟩ := conv_str wo (putR l)
        rw [strB_size, HB.out] at hcv
        obtain ⟨np, hnp⟩ : ∃ n, (putR l).length = n := ⟨_, rfl⟩
        have HNp := Lib.hid hnp
        rw [hnp] at hcv
        have HFz := Lib.hid hfz
        have HLz := Lib.hid hlz
        clear hfz hlz hnp
        go_wp2_with fail
        go_ret2
        exact ⟨_, rfl, by rw [HP.out, if_pos (by first | rfl | trivial)]; exact BytAt.mk HNp.out HLz.out, (HFo.out.trans HFz.out (fun _ _ e => e)).below (fun _ _ e => e)⟩
  · go_wp2_with (go_at_call 13; refine HCk.out.mono ?_; rintro e w1 ⟨rfl, b1⟩; have HF1 := Lib.hid (Fr.of_below (S := fun _ => False) b1); clear b1)
    go_ret2
    exact ⟨_, rfl, by rw [HP.out, if_neg hc0]; exact BytAt.mk rfl (.inl rfl), HF1.out.below (fun _ _ e => e)⟩

theorem OwnB.byt {w0 w : World} {v : Value} {l : List UInt8} (h : OwnB w0 w v l) : BytAt w v l := by
  obtain ⟨A, c, hv, _, hl⟩ := h.slice
  exact ⟨A, c, hv, hl⟩
set_option maxHeartbeats 6400000 in
set_option maxRecDepth 100000 in
theorem puts_walk (A : Option Addr) (cap : Nat) (l : List Rf) (hcap : l.length ≤ cap) (w : World) (hl : Lies w A (flatR l)) (hlen : l.length ≤ 9223372036854775807) :
    Calls Tryd.prog 3 #[.slice A l.length cap] w fun e w' => e = .returned (.bool true) ∧ Below w.heap.size w w' := by
  have HL := Lib.hid (fun w' (f : Fr (fun _ => False) w w') => hl.fr f (fun _ _ e => e))
  by_cases hbig : 80 < l.length
  · have hgt : (80 : Int) < (l.length : Int) := by omega
    obtain ⟨L, hL⟩ : ∃ L, l.length = L := ⟨_, rfl⟩
    rw [hL] at hgt ⊢
    clear hL hl hbig hlen HL hcap
    go_enter Tryd.func3, Tryd.ntmps3
    go_wp2_with (go_at_call 8; refine (works12_any _).mono ?_; rintro e w2 ⟨rfl, b2⟩)
    go_ret
    exact ⟨rfl, b2⟩
  · have C1 := Lib.hid (fun w' (h : Lies w' A (flatR l)) => RfPut_any A cap l (by omega) hcap w' h)
    have C2 := Lib.hid (fun w' (h : Lies w' A (flatR l)) => QfPut_any A cap l (by omega) w' h)
    have C3 := Lib.hid (fun w' (h : Lies w' A (flatR l)) => RfCheck_any A cap l (by omega) hcap w' h)
    have C4 := Lib.hid (fun w' (h : Lies w' A (flatR l)) => QfCheck_any A cap l (by omega) w' h)
    have C5 := Lib.hid (fun w' A B c d (h : Lies w' A (bytesV (putO l))) (h2 : Lies w' B (bytesV (putO l))) => Same_any A B c d (putO l) (putO l) w' h h2)
    rw [beq_self_eq_true] at C5
    obtain ⟨pl, hpl⟩ : ∃ p, putO l = p := ⟨_, rfl⟩
    rw [hpl] at C1 C2 C5
    obtain ⟨m, hm⟩ : ∃ m, pl.length = m := ⟨_, rfl⟩
    have HM := Lib.hid hm
    rw [hm] at C5
    obtain ⟨c, hc⟩ : ∃ c, chkR l = c := ⟨_, rfl⟩
    rw [hc] at C1 C2 C3 C4
    obtain ⟨L, hL⟩ : ∃ L, l.length = L := ⟨_, rfl⟩
    rw [hL] at C1 C2 C3 C4 hbig ⊢
    have hle : ¬ ((80 : Int) < (L : Int)) := by omega
    clear hL hl hcap hlen hbig hpl hm hc
    go_enter Tryd.func3, Tryd.ntmps3
    go_wp2_with (first
      | (go_at_call 8; refine (works12_any wf).mono ?_; rintro e wg ⟨rfl, b5⟩; have HGg := Lib.hid (HGf.out.then_below b5); clear b5)
      | (go_at_call 13; refine (C4.out we (HL.out we HGe.out)).mono ?_; rintro e wf ⟨rfl, b4⟩; have HGf := Lib.hid (HGe.out.then_below b4); clear b4)
      | (go_at_call 12; refine (C3.out wd (HL.out wd HGd.out)).mono ?_; rintro e we ⟨rfl, b4⟩; have HGe := Lib.hid (HGd.out.then_below b4); clear b4)
      | (go_at_call 11; refine (C5.out wb _ _ _ _ (hlU.fr HFb.out (fun _ _ e => e)) hlV).mono ?_; rintro e wd ⟨rfl, b4⟩; have HGd := Lib.hid (show Fr (fun _ => False) w wd from by rw [← b4]; exact HGb.out); clear b4)
      | (go_at_call 10; refine (C2.out wa (HL.out wa HGa.out)).mono ?_; rintro e wb ⟨vV, rfl, hoV, b4⟩
         obtain ⟨AV, cV, hvV, hlV⟩ := hoV
         rw [HM.out] at hvV
         subst hvV
         have HFb := Lib.hid (Fr.of_below (S := fun _ => False) b4)
         have HGb := Lib.hid (HGa.out.then_below b4)
         clear b4)
      | (go_at_call 9; refine (C1.out w (HL.out w (Fr.refl _ _))).mono ?_; rintro e wa ⟨vU, rfl, hoU⟩
         have HGa := Lib.hid hoU.2
         obtain ⟨AU, cU, hvU, hlU⟩ := hoU.byt
         rw [HM.out] at hvU
         subst hvU
         clear hoU))
    go_ret
    exact ⟨rfl, HGg.out.below (fun _ _ e => e)⟩
end Go.Proofs.YtoakbdmfoepdgaaDoor

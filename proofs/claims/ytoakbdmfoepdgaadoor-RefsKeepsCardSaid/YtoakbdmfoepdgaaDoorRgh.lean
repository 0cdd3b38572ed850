/- What is proved: a ref is set, dropped, by the program. Conditions: the list's cells are there. -/
import Derived.Test.YtoakbdmfoepdgaaDoorRge
import Derived.Test.YtoakbdmfoepdgaaDoorRgf
namespace Go.Proofs.YtoakbdmfoepdgaaDoor
open Go.RowKit Go.Sort Go.Shelf
set_option linter.unusedVariables false

def setO (l : List Rf) (x : Rf) : List Rf × Int := if chkR l = 0 then (if rightB x.name = true then (if (witR l x.name).length = 64 then ([], 5) else (setL l x, 0)) else ([], 15)) else ([], chkR l)
def dropO (l : List Rf) (n : List UInt8) : List Rf × Int := if chkR l = 0 then (if hasR l n = true then (witR l n, 0) else ([], 35)) else ([], chkR l)
theorem own_down {w : World} {base b' : Nat} {e : TypeId} {size n : Nat} {v : Value} {xs : List Value} (h : w.ownsRow base e size v n xs) (hb : b' ≤ base) : w.ownsRow b' e size v n xs := by
  refine ⟨h.1, ?_⟩
  rcases h.2 with h0 | ⟨g, cap, cur, hv, hbg, r⟩
  · exact .inl h0
  · exact .inr ⟨g, cap, cur, hv, by omega, r⟩
theorem OwnR.down {w w4 w5 : World} {v : Value} {l : List Rf} (h : OwnR w4 w5 v l) (f : Fr (fun _ => False) w w4) : OwnR w w5 v l := ⟨own_down h.1 f.size, f.trans h.2 (fun _ _ e => e)⟩
/-- An id laid in a row of the call's own. -/
theorem flatR_set {l : List Rf} {x : Rf} {i : Nat} (hi : i < l.length) (hx : l[i]!.name = x.name) (rest : List Value) :
    ((flatR l ++ rest).take (i * 33 + 1) ++ (Ids.idC (Ids.dgt x.id)).toList ++ (flatR l ++ rest).drop (i * 33 + 1 + (Ids.idC (Ids.dgt x.id)).size)) = flatR (l.set i x) ++ rest := by
  have hs : l = l.take i ++ l[i]! :: l.drop (i + 1) := by rw [← rf_drop l i hi, List.take_append_drop]
  have h1 : flatR l ++ rest = (flatR (l.take i) ++ [.string (strB x.name)]) ++ ((Ids.idC (Ids.dgt l[i]!.id)).toList ++ (flatR (l.drop (i + 1)) ++ rest)) := by
    conv => lhs; rw [hs]
    rw [flatR_append, flatR_cons, refV, hx]
    simp
  have hp : (flatR (l.take i) ++ [Value.string (strB x.name)]).length = i * 33 + 1 := by rw [List.length_append, take_len (by omega)]; rfl
  have hz : (Ids.idC (Ids.dgt x.id)).size = (Ids.idC (Ids.dgt x.id)).toList.length := by simp
  have hzl : (Ids.idC (Ids.dgt x.id)).toList.length = (Ids.idC (Ids.dgt l[i]!.id)).toList.length := by simp [Ids.idC_size]
  rw [h1, hz, splice_at _ _ _ _ hp, hzl, List.drop_left]
  have h2 : l.set i x = l.take i ++ x :: l.drop (i + 1) := by rw [List.set_eq_take_append_cons_drop, if_pos hi]
  rw [h2, flatR_append, flatR_cons, refV]
  simp
theorem build_rfS (e : Rf) (w : World) : (Instr.build 50 #[(0, .string (strB e.name)), (1, .agg (Ids.idC (Ids.dgt e.id)))]).run Tryd.prog w = .ok (.agg (refV e).toArray) w := by kernel_rfl
theorem laidAt_list (cs : Array Value) (o : Nat) (vs : Array Value) : laidAt cs o vs = (cs.toList.take o ++ vs.toList ++ cs.toList.drop (o + vs.size)).toArray := rfl

set_option maxHeartbeats 3200000 in
set_option maxRecDepth 100000 in
theorem RfSet_any (A : Option Addr) (cap : Nat) (l : List Rf) (hn : l.length ≤ 1000) (hcap : l.length ≤ cap) (x : Rf) (w : World) (h : Lies w A (flatR l)) :
    Calls Tryd.prog 17 #[.slice A l.length cap, .string (strB x.name), .agg (Ids.idC (Ids.dgt x.id))] w fun e w' => ∃ v, e = .returned (.tuple #[v, .int .i64 (setO l x).2]) ∧ OwnR w w' v (setO l x).1 := by
  have HCk := Lib.hid (fun (w' : World) (f : Fr (fun _ => False) w w') => RfCheck_any A cap l (by omega) hcap w' (h.fr f (fun _ _ e => e)))
  have HRt := Lib.hid (fun w => RtRight_all x.name w)
  have HPl := Lib.hid (fun (w' : World) (f : Fr (fun _ => False) w w') => RfPlace_any A cap l (by omega) x.name w' (h.fr f (fun _ _ e => e)))
  have HCl := Lib.hid (fun (w' : World) (f : Fr (fun _ => False) w w') => GrClone_any A cap l (by omega) w' (h.fr f (fun _ _ e => e)))
  have HT : Hid (chkR l = 0 → TabR l) := Lib.hid (chkR_tab l).1
  have HS : Hid (setO l x = if chkR l = 0 then (if rightB x.name = true then (if (witR l x.name).length = 64 then ([], 5) else (setL l x, 0)) else ([], 15)) else ([], chkR l)) := Lib.hid rfl
  have hci := Ids.idC_size (Ids.dgt x.id)
  have HIS := Lib.hid (idC_sz x.id)
  have HIA := Lib.hid (idC_al x.id)
  have hbr := fun w => build_rfS x w
  have hbl := fun w => build_ref x w
  have hn1 := hn
  obtain ⟨c, hc⟩ : ∃ c, chkR l = c := ⟨_, rfl⟩
  obtain ⟨r, hr⟩ : ∃ r, rightB x.name = r := ⟨_, rfl⟩
  obtain ⟨p, hp⟩ : ∃ p, plcR l x.name = p := ⟨_, rfl⟩
  obtain ⟨hb, hhb⟩ : ∃ b, hasR l x.name = b := ⟨_, rfl⟩
  have HPp := Lib.hid hp
  have HHb := Lib.hid hhb
  obtain ⟨L, hL⟩ : ∃ L, l.length = L := ⟨_, rfl⟩
  have HLn := Lib.hid hL
  obtain ⟨X, hX⟩ : ∃ S, strB x.name = S := ⟨_, rfl⟩
  have HX := Lib.hid hX
  obtain ⟨ci, hcI⟩ : ∃ c, Ids.idC (Ids.dgt x.id) = c := ⟨_, rfl⟩
  have HCI := Lib.hid hcI
  obtain ⟨cx, hcx⟩ : ∃ c, (refV x).toArray = c := ⟨_, rfl⟩
  have HCX := Lib.hid hcx
  rw [hX, hcI, hcx] at hbr
  rw [hcx] at hbl
  rw [hcI] at hci HIS HIA
  rw [hc, hL] at HCk
  rw [hX, hr] at HRt
  rw [hp, hhb, hL, hX] at HPl
  rw [hL] at HCl
  rw [hc] at HT HS
  rw [hr] at HS
  rw [hL, hX, hcI]
  rw [hL] at hn1
  have HBr := Lib.hid hbr
  have HBl := Lib.hid hbl
  clear h hc hr hp hhb hL hX hcI hcx hbr hbl hn hcap
  obtain ⟨w1, hw1⟩ : ∃ w1, w.alloc (.cells ci 41) = w1 := ⟨_, rfl⟩
  have HZ1 := Lib.hid (show Whole w1 w.heap.size 41 ci from by subst hw1; exact Whole.new w 41 ci)
  have F1 := Lib.hid (show Fr (fun _ => False) w w1 from by subst hw1; exact (Fr.refl (fun _ => False) w).alloc _)
  obtain ⟨T, hT⟩ : ∃ T : TypeId, T = 41 := ⟨_, rfl⟩
  obtain ⟨n32, h32⟩ : ∃ n : Nat, n = 32 := ⟨_, rfl⟩
  have ag32 : ∀ w, (isAgg T).run Tryd.prog w = .ok true w := by rw [hT]; exact fun _ => by kernel_rfl
  have sz32 : ∀ w, (sizeOf T).run Tryd.prog w = .ok n32 w := by rw [hT, h32]; exact fun _ => by kernel_rfl
  have HN := Lib.hid h32
  clear h32
  go_enter Tryd.func17, Tryd.ntmps17
  rw [show Op.load 41 (.tmp 5) = Op.load T (.tmp 5) by rw [hT]]
  clear hT
  by_cases hc0 : c = 0
  · subst hc0
    have HTab := Lib.hid (HT.out rfl)
    cases r
    · go_wp2_with ((
      (first
        | (go_at_call 40; refine (HCl.out w4 F4.out).mono ?_; rintro e w5 ⟨vT, rfl, hoT⟩; have HoT := Lib.hid hoT; clear hoT; skip)
        | (go_at_call 39; refine (HPl.out w3 F3.out).mono ?_; rintro e w4 ⟨rfl, b4⟩; have F4 := Lib.hid (F3.out.then_below b4); have G4 := Lib.hid (G3.out.then_below b4); clear b4)
        | (go_at_call 30; refine (HRt.out w2).mono ?_; rintro e w3 ⟨rfl, b3⟩; have F3 := Lib.hid (F2.out.then_below b3); have G3 := Lib.hid (G2.out.then_below b3); clear b3)
        | (go_at_call 12; refine (HCk.out w1 F1.out).mono ?_; rintro e w2 ⟨rfl, b2⟩; have F2 := Lib.hid (F1.out.then_below b2); have G2 := Lib.hid (Fr.of_below (S := fun _ => False) b2); clear b2))))
      go_ret2
      have e : setO l x = ([], 15) := by rw [HS.out]; simp
      rw [e]
      exact ⟨_, rfl, OwnR.nil F3.out⟩
    · go_upto_region 9 with ((
      (first
        | (go_at_call 40; refine (HCl.out w4 F4.out).mono ?_; rintro e w5 ⟨vT, rfl, hoT⟩; have HoT := Lib.hid hoT; clear hoT; skip)
        | (go_at_call 39; refine (HPl.out w3 F3.out).mono ?_; rintro e w4 ⟨rfl, b4⟩; have F4 := Lib.hid (F3.out.then_below b4); have G4 := Lib.hid (G3.out.then_below b4); clear b4)
        | (go_at_call 30; refine (HRt.out w2).mono ?_; rintro e w3 ⟨rfl, b3⟩; have F3 := Lib.hid (F2.out.then_below b3); have G3 := Lib.hid (G2.out.then_below b3); clear b3)
        | (go_at_call 12; refine (HCk.out w1 F1.out).mono ?_; rintro e w2 ⟨rfl, b2⟩; have F2 := Lib.hid (F1.out.then_below b2); have G2 := Lib.hid (Fr.of_below (S := fun _ => False) b2); clear b2))))
      have F5 := Lib.hid (F4.out.trans HoT.out.2 (fun _ _ e => e))
      have HOw := Lib.hid (HoT.out.down F4.out)
      have HId : Hid (∀ w', Fr (fun _ => False) w1 w' → (loadCellsFrom ⟨w.heap.size, 0, none⟩ 0 n32 #[]).run Tryd.prog w' = .ok ci w') := Lib.hid (fun w' f => by
        have h2 := run_loadCells_list (P := Tryd.prog) w' ⟨w.heap.size, 0, none⟩ ci.toList (fun j v hv => by rw [add_off, Nat.zero_add, (HZ1.out.fr f (fun e => e)).cell]; simpa using hv)
        rw [Array.length_toList, hci] at h2
        rw [HN.out]
        simpa [loadCells] using h2)
      cases hb
      · have hnot := set_not HTab.out.rise HHb.out
        rw [HPp.out] at hnot
        have HNot := Lib.hid hnot
        clear hnot
        have l5 := HId.out w5 (G4.out.trans HoT.out.2 (fun _ _ e => e))
        have hpl : p ≤ l.length := by rw [← HPp.out]; exact plcR_le l x.name
        have HIns := Lib.hid (GrInsert_any w vT l x p w5.heap.size (by rw [HLn.out]; omega) hpl (w5.alloc (.cells (refV x).toArray 50)) (HOw.out.fr ((Fr.refl (fun _ => False) w5).alloc _)) (Whole.new w5 50 _) (fun e => by have := (World.ownsRow.lt HOw.out.1 _ e).2; omega))
        obtain ⟨A5, c5, hv5, -, -, -, -⟩ := HoT.out.slice
        rw [HLn.out] at hv5
        subst hv5
        rw [HCX.out] at HIns
        by_cases h64 : L = 64
        · have h64z : (L : Int) = 64 := by omega
          go_wp2_with fail
          go_ret2
          have e : setO l x = ([], 5) := by rw [HS.out, if_pos (show (witR l x.name).length = 64 from by rw [HNot.out.2, HLn.out]; exact h64)]; simp
          rw [e]
          exact ⟨_, rfl, OwnR.nil F5.out⟩
        · have h64z : ¬ (L : Int) = 64 := by omega
          go_wp2_with (first
            | (go_at_call 41; refine HIns.out.mono ?_; rintro e w6 ⟨vR, rfl, hoR⟩; have HoR := Lib.hid hoR; clear hoR)
            | (refine wpList_buildSlice_to rfl 22 1 _ rfl #[(0, .agg cx)] (by simp [Act.eval, Act.put]) _ _ (HBl.out _) ?_)
            | (refine wpList_build_to rfl 50 _ rfl #[(0, .string X), (1, .agg ci)] (by first | rfl | simp [Act.eval, Act.put]) (.agg cx) (HBr.out _) ?_))
          go_ret2
          have e : setO l x = (setL l x, 0) := by
            rw [HS.out, if_neg (show ¬ (witR l x.name).length = 64 from by rw [HNot.out.2, HLn.out]; exact h64)]
            simp
          rw [e, HNot.out.1]
          exact ⟨_, rfl, HoR.out⟩
      · have hhas := set_has HTab.out.rise HHb.out
        rw [HPp.out] at hhas
        have HHas := Lib.hid hhas
        clear hhas
        obtain ⟨A5, c5, hv5, -, -, -, -⟩ := HoT.out.slice
        rw [HLn.out] at hv5
        subst hv5
        have hx0 : 0 < L := by have := HHas.out.1; have := HLn.out; omega
        obtain ⟨g, cap5, hv5⟩ : ∃ g cap5, Value.slice A5 L c5 = .slice (some ⟨g, 0, none⟩) L cap5 := by
          rcases own_shape HoT.out.1 with ⟨_, _, h0⟩ | ⟨g, cap, hv, _⟩
          · have := flatR_nil h0; have := HLn.out; simp_all
          · exact ⟨g, cap, by rw [HLn.out] at hv; exact hv⟩
        injection hv5 with e1 e2 e3
        subst e1; subst e3
        obtain ⟨rest, hW, hlen, -, hnc, hcm, hbase⟩ := HoT.out.row
        have HW := Lib.hid hW
        have HLen := Lib.hid hlen
        have HCm := Lib.hid hcm
        have HBase := Lib.hid hbase
        have HNc := Lib.hid hnc
        have hpL : p < L := by have := HHas.out.1; have := HLn.out; omega
        have hpz : (p : Int) < L := by omega
        have HNm : Hid (l[p]!.name = x.name) := Lib.hid (by
          have h1 := hasR_at HPp.out HHas.out.1
          rw [HHb.out] at h1
          simpa using h1.symm)
        have l5 := HId.out w5 (G4.out.trans HoT.out.2 (fun _ _ e => e))
        clear hW hlen hcm hbase hnc
        go_wp2_with (first
          | (refine wpList_store_at rfl 41 (.tmp 41) (.tmp 39) rfl g (p * 33 + 1) 50 (flatR l ++ rest).toArray ci rfl rfl HW.out (by have h1 := HNc.out; have h2 := HLen.out; simp only [List.size_toArray, h2]; first | omega | (simp only [Array.length_toList]; omega)) HIS.out HIA.out ?_
             intro w6 hw6 hf6
             have HW6 := Lib.hid hw6
             have HF6 := Lib.hid hf6
             clear hw6 hf6))
        go_ret2
        have e : setO l x = (setL l x, 0) := by
          rw [HS.out, if_neg (show ¬ (witR l x.name).length = 64 from by have h1 := HHas.out.2.2; have h2 := HTab.out.len; omega)]
          simp
        rw [e, HHas.out.2.1]
        refine ⟨_, rfl, ?_⟩
        have hW6 := HW6.out
        rw [laidAt_list, ← HCI.out] at hW6
        rw [show (flatR l ++ rest).toArray.toList = flatR l ++ rest from rfl, flatR_set HHas.out.1 HNm.out rest] at hW6
        have hl2 : (l.set p x).length = L := by rw [List.length_set, HLn.out]
        have := OwnR.of_row (w0 := w) (c := c5) hW6 (by
          have h1 := HLen.out
          rw [List.length_append, flatR_len] at h1 ⊢
          rw [List.length_set]
          exact h1) (by rw [hl2]; have := HNc.out; omega) HCm.out (by have h1 := HBase.out; have h2 := F4.out.size; omega) (F5.out.trans HF6.out (fun j hj e => by have h1 := HBase.out; have h2 := F4.out.size; omega))
        rwa [hl2] at this
  · go_wp2_with ((
    (first
      | (go_at_call 40; refine (HCl.out w4 F4.out).mono ?_; rintro e w5 ⟨vT, rfl, hoT⟩; have HoT := Lib.hid hoT; clear hoT; skip)
      | (go_at_call 39; refine (HPl.out w3 F3.out).mono ?_; rintro e w4 ⟨rfl, b4⟩; have F4 := Lib.hid (F3.out.then_below b4); have G4 := Lib.hid (G3.out.then_below b4); clear b4)
      | (go_at_call 30; refine (HRt.out w2).mono ?_; rintro e w3 ⟨rfl, b3⟩; have F3 := Lib.hid (F2.out.then_below b3); have G3 := Lib.hid (G2.out.then_below b3); clear b3)
      | (go_at_call 12; refine (HCk.out w1 F1.out).mono ?_; rintro e w2 ⟨rfl, b2⟩; have F2 := Lib.hid (F1.out.then_below b2); have G2 := Lib.hid (Fr.of_below (S := fun _ => False) b2); clear b2))))
    go_ret2
    have e : setO l x = ([], c) := by rw [HS.out, if_neg hc0]
    rw [e]
    exact ⟨_, rfl, OwnR.nil F2.out⟩
end Go.Proofs.YtoakbdmfoepdgaaDoor

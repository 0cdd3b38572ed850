/- What is proved: whether refs may be a table, by the document. Conditions: the list's cells are there. -/
import Derived.Test.YtoakbdmfoepdgaaDoorRfe
import Derived.Laws.Cover1
namespace Go.Proofs.YtoakbdmfoepdgaaDoor
open Go.RowKit Go.Sort Go.Shelf
set_option linter.unusedVariables false

set_option maxHeartbeats 6400000 in
set_option maxRecDepth 100000 in
theorem QfCheck_any (A : Option Addr) (cap : Nat) (l : List Rf) (hn : l.length ≤ 100000) (w : World) (h : Lies w A (flatR l)) :
    Calls Tryd.prog 13 #[.slice A l.length cap] w fun e w' => e = .returned (.int .i64 (chkR l)) ∧ Below w.heap.size w w' := by
  have HLI := Lib.hid h
  have HC : Hid (chkR l = if 64 < l.length then 5 else if (l.all fun r => rightB r.name) = true then (if twR l = true then 17 else if isrR l = true then 0 else 18) else 15) := Lib.hid rfl
  have HY : Hid ((∀ k, k < l.length → rightB l[k]!.name = true) → (l.all fun x => rightB x.name) = true) := Lib.hid (fun hh => List.all_eq_true.2 (fun x hx => by
    obtain ⟨k, hk, rfl⟩ := List.getElem_of_mem hx
    have := hh k hk
    rwa [getElem!_pos l k hk] at this))
  have HX : Hid (∀ k, k < l.length → rightB l[k]!.name = false → (l.all fun x => rightB x.name) = false) := Lib.hid (fun k hk hh => by
    cases e : (l.all fun x => rightB x.name) with
    | false => rfl
    | true => have := List.all_eq_true.1 e _ (rf_mem hk); rw [hh] at this; cases this)
  have HRI := Lib.hid (ris_isrR l)
  have HTN := Lib.hid (twR_none (l := l))
  have HTA := Lib.hid (fun j k h1 h2 h3 => twR_at (l := l) (j := j) (k := k) h1 h2 h3)
  have HR1 := Lib.hid (risR_iff l)
  obtain ⟨R, hR⟩ : ∃ b, (l.all fun x => rightB x.name) = b := ⟨_, rfl⟩
  obtain ⟨r, hr⟩ : ∃ r, chkR l = r := ⟨_, rfl⟩
  obtain ⟨L, hL⟩ : ∃ L, l.length = L := ⟨_, rfl⟩
  have HLn := Lib.hid hL
  rw [hr] at HC ⊢
  rw [hR] at HX HY HC
  rw [hL] at hn HC HX HY HTN HTA HR1 ⊢
  clear h hr hL hR
  go_enter Tryd.func13, Tryd.ntmps13
  by_cases hlen : 64 < L
  · have hlz : (64 : Int) < L := by omega
    go_wp2
    go_ret
    exact ⟨by rw [HC.out, if_pos hlen]; rfl, (Fr.refl (fun _ => False) w).below (fun _ _ e => e)⟩
  · have hlz : ¬ ((64 : Int) < L) := by omega
    go_wp2
    go_loopg [3] L (fun kx s3 wr => ∃ k : Nat, s3 = .int .i64 k ∧ k ≤ L ∧ L - k ≤ kx ∧ Fr (fun _ => False) w wr ∧ Hid (∀ j, j < k → rightB l[j]!.name = true))
    case atStart => exact ⟨0, rfl, by omega, by omega, Fr.refl _ _, Lib.hid (fun j hj => by omega)⟩
    case round =>
      obtain ⟨k, rfl, hk, hkx, hf, HB⟩ := hrel
      obtain ⟨wo, rfl⟩ : ∃ wo, wo = wr := ⟨wr, rfl⟩
      have HFr := Lib.hid hf
      clear hf
      have wk := wrap_nat k (by omega)
      by_cases hlt : k < L
      · have hltz : (k : Int) < L := by omega
        obtain ⟨b, o, hB⟩ := HLI.out.someR (by rw [HLn.out]; omega)
        subst hB
        have c0 : wo.cell? ⟨b, o + k * 33, none⟩ = some (.string (strB l[k]!.name)) := rname_at HLI.out (rf_some (by rw [HLn.out]; omega)) HFr.out
        have HXk := Lib.hid (HX.out k hlt)
        have cn := fun w => QrRight_all l[k]!.name w
        obtain ⟨S, hS⟩ : ∃ S, strB l[k]!.name = S := ⟨_, rfl⟩
        obtain ⟨b2, hb2⟩ : ∃ b, rightB l[k]!.name = b := ⟨_, rfl⟩
        have HB2 := Lib.hid hb2
        rw [hS, hb2] at cn
        rw [hS] at c0
        rw [hb2] at HXk
        have CN := Lib.hid cn
        clear hS hb2 cn
        cases b2
        · go_wp2_with (go_at_call 35; refine (CN.out _).mono ?_; rintro e w' ⟨rfl, bb⟩; have HB1 := Lib.hid bb; clear bb)
          (try simp only [Exit.inBlock, Exit.then])
          go_ret
          exact ⟨by rw [HC.out, if_neg hlen, HXk.out (by first | rfl | trivial)]; rfl, (HFr.out.then_below HB1.out).below (fun _ _ e => e)⟩
        · go_wp2_with (go_at_call 35; refine (CN.out _).mono ?_; rintro e w' ⟨rfl, bb⟩; have HB1 := Lib.hid bb; clear bb)
          go_roundg (L - (k + 1))
          case measure => omega
          case rel => exact ⟨k + 1, by go_num, by omega, Nat.le_refl _, HFr.out.then_below HB1.out, Lib.hid (fun j hj => by
            by_cases e : j = k
            · subst e; exact HB2.out
            · exact HB.out j (by omega))⟩
      · have hltz : ¬ ((k : Int) < L) := by omega
        have HH : Hid (R = true) := Lib.hid (HY.out (fun j hj => HB.out j (by omega)))
        clear HB
        go_wp2
        go_loopg [4] L (fun kx s4 wr => ∃ k : Nat, s4 = .int .i64 k ∧ k ≤ L ∧ L - k ≤ kx ∧ Fr (fun _ => False) w wr ∧ Hid (∀ j i, j < i → i < k → l[j]!.name ≠ l[i]!.name))
        case atStart => exact ⟨0, rfl, by omega, by omega, HFr.out, Lib.hid (fun j i h1 h2 => by omega)⟩
        case round =>
          clear HFr hltz hlt hk hkx
          obtain ⟨k, rfl, hk, hkx, hf, HB⟩ := hrel
          have HFr := Lib.hid hf
          clear hf
          by_cases hlt : k < L
          · have hltz : (k : Int) < L := by omega
            obtain ⟨b, o, hB⟩ := HLI.out.someR (by rw [HLn.out]; omega)
            subst hB
            go_wp2
            go_loopg [5] L (fun kx s5 wr => ∃ j : Nat, s5 = .int .i64 j ∧ j ≤ k ∧ k - j ≤ kx ∧ Fr (fun _ => False) w wr ∧ Hid (∀ i, i < j → l[i]!.name ≠ l[k]!.name))
            case atStart => exact ⟨0, rfl, by omega, by omega, HFr.out, Lib.hid (fun i h1 => by omega)⟩
            case round =>
              clear HFr
              obtain ⟨j, rfl, hj, hjx, hf, HJ⟩ := hrel
              obtain ⟨wo, rfl⟩ : ∃ wo, wo = wr := ⟨wr, rfl⟩
              have HFr := Lib.hid hf
              clear hf
              have wk := wrap_nat k (by omega)
              have wj := wrap_nat j (by omega)
              by_cases hjk : j < k
              · have hjz : (j : Int) < (k : Int) := by omega
                have hjl : (j : Int) < L := by omega
                have c1' : ∀ q : Later wo, q.w'.cell? ⟨b, o + j * 33, none⟩ = some (.string (strB l[j]!.name)) := fun q => rname_at HLI.out (rf_some (by rw [HLn.out]; omega)) (HFr.out.trans q.fr (fun _ _ e => e))
                have c2' : ∀ q : Later wo, q.w'.cell? ⟨b, o + k * 33, none⟩ = some (.string (strB l[k]!.name)) := fun q => rname_at HLI.out (rf_some (by rw [HLn.out]; omega)) (HFr.out.trans q.fr (fun _ _ e => e))
                have heq := str_eq l[j]!.name l[k]!.name
                have HQ : Hid ((l[j]!.name == l[k]!.name) = true → twR l = true) := Lib.hid (fun e => HTA.out j k hjk hlt (by simpa using e))
                have HQ2 : Hid ((l[j]!.name == l[k]!.name) = false → l[j]!.name ≠ l[k]!.name) := Lib.hid (fun e => by simpa using e)
                obtain ⟨bq, hbq⟩ : ∃ b, (l[j]!.name == l[k]!.name) = b := ⟨_, rfl⟩
                obtain ⟨S1, hS1⟩ : ∃ S, strB l[j]!.name = S := ⟨_, rfl⟩
                obtain ⟨S2, hS2⟩ : ∃ S, strB l[k]!.name = S := ⟨_, rfl⟩
                rw [hS1] at c1' heq
                rw [hS2] at c2' heq
                rw [hbq] at heq HQ HQ2
                clear hS1 hS2 hbq
                cases bq
                · (
                  go_wp2_with fail
                  refine wp_region_later (w0 := wo) (Fr.refl _ _) (by kernel_rfl) (by kernel_rfl) ?_
                  repeat (quiet_step (fail))
                  refine wpQuiet_nil ?_
                  intro _ hw'
                  obtain ⟨q, hw''⟩ := hw'
                  subst hw''
                  go_wp2_with fail)
                  go_roundg (k - (j + 1))
                  case measure => omega
                  case rel => exact ⟨j + 1, by go_num, by omega, Nat.le_refl _, HFr.out.trans q.fr (fun _ _ e => e), Lib.hid (fun i hi => by
                    by_cases e : i = j
                    · subst e; exact HQ2.out (by first | rfl | trivial)
                    · exact HJ.out i (by omega))⟩
                · (
                  go_wp2_with fail
                  refine wp_region_later (w0 := wo) (Fr.refl _ _) (by kernel_rfl) (by kernel_rfl) ?_
                  repeat (quiet_step (fail))
                  refine wpQuiet_nil ?_
                  intro _ hw'
                  obtain ⟨q, hw''⟩ := hw'
                  subst hw''
                  go_wp2_with fail)
                  (try simp only [Exit.inBlock, Exit.then])
                  go_ret
                  exact ⟨by rw [HC.out, if_neg hlen, if_pos HH.out, if_pos (HQ.out (by first | rfl | trivial))]; rfl, (HFr.out.trans q.fr (fun _ _ e => e)).below (fun _ _ e => e)⟩
              · have hjz : ¬ ((j : Int) < (k : Int)) := by omega
                go_wp2
                go_roundg (L - (k + 1))
                case measure => omega
                case rel => exact ⟨k + 1, by go_num, by omega, Nat.le_refl _, HFr.out, Lib.hid (fun a i h1 h2 => by
                  by_cases e : i = k
                  · subst e; exact HJ.out a (by omega)
                  · exact HB.out a i h1 (by omega))⟩
          · have hltz : ¬ ((k : Int) < L) := by omega
            have HTW : Hid (twR l = false) := Lib.hid (HTN.out (fun j i h1 h2 => HB.out j i h1 (by omega)))
            have HRR := Lib.hid (HRI.out HTW.out)
            clear HB
            go_wp2
            go_loopg [6] L (fun kx s6 wr => ∃ k : Nat, s6 = .int .i64 k ∧ k ≤ L ∧ L - k ≤ kx ∧ Fr (fun _ => False) w wr ∧ Hid (∀ j, j < k → j + 1 < L → ltB l[j]!.name l[j + 1]!.name = true))
            case atStart => exact ⟨0, rfl, by omega, by omega, HFr.out, Lib.hid (fun j h1 h2 => by omega)⟩
            case round =>
              clear HFr hltz hlt hk hkx
              obtain ⟨k, rfl, hk, hkx, hf, HB⟩ := hrel
              obtain ⟨wo, rfl⟩ : ∃ wo, wo = wr := ⟨wr, rfl⟩
              have HFr := Lib.hid hf
              clear hf
              have wk := wrap_nat k (by omega)
              have wk1 := wrap_nat1 k (by omega)
              have tn1 := toNat_nat1 k
              have nn1 := nonneg_nat1 k
              by_cases hlt : k + 1 < L
              · have hltz : (k : Int) + 1 < L := by omega
                have hkz : (k : Int) < L := by omega
                obtain ⟨b, o, hB⟩ := HLI.out.someR (by rw [HLn.out]; omega)
                subst hB
                have c1' : ∀ q : Later wo, q.w'.cell? ⟨b, o + k * 33, none⟩ = some (.string (strB l[k]!.name)) := fun q => rname_at HLI.out (rf_some (by rw [HLn.out]; omega)) (HFr.out.trans q.fr (fun _ _ e => e))
                have c2' : ∀ q : Later wo, q.w'.cell? ⟨b, o + (k + 1) * 33, none⟩ = some (.string (strB l[k + 1]!.name)) := fun q => rname_at HLI.out (rf_some (by rw [HLn.out]; omega)) (HFr.out.trans q.fr (fun _ _ e => e))
                have hls := lt_str l[k]!.name l[k + 1]!.name
                have HQ : Hid (ltB l[k]!.name l[k + 1]!.name = false → isrR l = false) := Lib.hid (fun e => by
                  rw [← HRR.out]
                  cases hq : risR l with
                  | false => rfl
                  | true => have := HR1.out.1 hq k hlt; rw [e] at this; cases this)
                obtain ⟨bq, hbq⟩ : ∃ b, ltB l[k]!.name l[k + 1]!.name = b := ⟨_, rfl⟩
                have HBQ := Lib.hid hbq
                obtain ⟨S1, hS1⟩ : ∃ S, strB l[k]!.name = S := ⟨_, rfl⟩
                obtain ⟨S2, hS2⟩ : ∃ S, strB l[k + 1]!.name = S := ⟨_, rfl⟩
                rw [hS1] at c1' hls
                rw [hS2] at c2' hls
                rw [hbq] at hls
                clear hS1 hS2 hbq
                cases bq
                · (
                  go_wp2_with fail
                  refine wp_region_later (w0 := wo) (Fr.refl _ _) (by kernel_rfl) (by kernel_rfl) ?_
                  repeat (quiet_step (fail))
                  refine wpQuiet_nil ?_
                  intro _ hw'
                  obtain ⟨q, hw''⟩ := hw'
                  subst hw''
                  go_wp2_with fail)
                  (try simp only [Exit.inBlock, Exit.then])
                  go_ret
                  exact ⟨by rw [HC.out, if_neg hlen, if_pos HH.out, HTW.out, HQ.out HBQ.out]; rfl, (HFr.out.trans q.fr (fun _ _ e => e)).below (fun _ _ e => e)⟩
                · (
                  go_wp2_with fail
                  refine wp_region_later (w0 := wo) (Fr.refl _ _) (by kernel_rfl) (by kernel_rfl) ?_
                  repeat (quiet_step (fail))
                  refine wpQuiet_nil ?_
                  intro _ hw'
                  obtain ⟨q, hw''⟩ := hw'
                  subst hw''
                  go_wp2_with fail)
                  go_roundg (L - (k + 1))
                  case measure => omega
                  case rel => exact ⟨k + 1, by go_num, by omega, Nat.le_refl _, HFr.out.trans q.fr (fun _ _ e => e), Lib.hid (fun j hj hj1 => by
                    by_cases e : j = k
                    · subst e; exact HBQ.out
                    · exact HB.out j (by omega) hj1)⟩
              · have hltz : ¬ ((k : Int) + 1 < L) := by omega
                go_wp2_with fail
                go_ret
                exact ⟨by rw [HC.out, if_neg hlen, if_pos HH.out, HTW.out, ← HRR.out, HR1.out.2 (fun j hj => HB.out j (by omega) hj)]; rfl, HFr.out.below (fun _ _ e => e)⟩
end Go.Proofs.YtoakbdmfoepdgaaDoor

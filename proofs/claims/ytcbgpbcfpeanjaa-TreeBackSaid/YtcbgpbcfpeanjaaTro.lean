/- What is proved: whether entries may be a tree, by the document. Conditions: the list's cells are there. -/
import Derived.Test.YtcbgpbcfpeanjaaTrm
namespace Go.Proofs.Ytcbgpbcfpeanjaa
open Go.RowKit Go.Sort Go.Shelf
set_option linter.unusedVariables false

theorem lt_str (x y : List UInt8) : Op.bytesLess (strB x).toList (strB y).toList = ltB x y := by rw [strB_list, strB_list]; rfl

set_option maxHeartbeats 6400000 in
theorem QtCheck_any (A : Option Addr) (cap : Nat) (es : List Ent) (hn : es.length ≤ 100000) (w : World) (h : Lies w A (flatE es)) :
    Calls Try.prog 11 #[.slice A es.length cap] w fun e w' => e = .returned (.int .i64 (chk es)) ∧ Below w.heap.size w w' := by
  have HLI := Lib.hid h
  have HC : Hid (chk es = if 64 < es.length then 3 else if firstBad es = 0 then (if twB es = true then 17 else if isrB es = true then 0 else 18) else firstBad es) := Lib.hid rfl
  have HD := Lib.hid (firstBad_drop es)
  have HRI := Lib.hid (ris_isr es)
  have HTN := Lib.hid (twB_none (es := es))
  have HTA := Lib.hid (fun j k h1 h2 h3 => twB_at (es := es) (j := j) (k := k) h1 h2 h3)
  have HR1 := Lib.hid (risB_iff es)
  obtain ⟨r, hr⟩ : ∃ r, chk es = r := ⟨_, rfl⟩
  obtain ⟨L, hL⟩ : ∃ L, es.length = L := ⟨_, rfl⟩
  have HLn := Lib.hid hL
  obtain ⟨T, hT⟩ : ∃ T : TypeId, T = 45 := ⟨_, rfl⟩
  obtain ⟨n34, h34⟩ : ∃ n : Nat, n = 34 := ⟨_, rfl⟩
  have ag34 : ∀ w, (isAgg T).run Try.prog w = .ok true w := by rw [hT]; exact fun _ => by kernel_rfl
  have sz34 : ∀ w, (sizeOf T).run Try.prog w = .ok n34 w := by rw [hT, h34]; exact fun _ => by kernel_rfl
  have HN := Lib.hid h34
  rw [hr] at HC ⊢
  rw [hL] at hn HC HD HTN HTA HR1 ⊢
  clear h hr hL h34
  go_enter Try.func11, Try.ntmps11
  rw [show Op.load 45 (.tmp 68) = Op.load T (.tmp 68) by rw [hT], show Op.load 45 (.tmp 74) = Op.load T (.tmp 74) by rw [hT]]
  clear hT
  by_cases hlen : 64 < L
  · have hlz : (64 : Int) < L := by omega
    go_wp2
    go_ret
    exact ⟨by rw [HC.out, if_pos hlen]; rfl, (Fr.refl (fun _ => False) w).below (fun _ _ e => e)⟩
  · have hlz : ¬ ((64 : Int) < L) := by omega
    go_wp2
    go_loopg [3] L (fun kx s3 wr => ∃ k : Nat, s3 = .int .i64 k ∧ k ≤ L ∧ L - k ≤ kx ∧ Fr (fun _ => False) w wr ∧ Hid (firstBad es = firstBad (es.drop k)))
    case atStart => exact ⟨0, rfl, by omega, by omega, Fr.refl _ _, Lib.hid rfl⟩
    case round =>
      obtain ⟨k, rfl, hk, hkx, hf, HB⟩ := hrel
      obtain ⟨wo, rfl⟩ : ∃ wo, wo = wr := ⟨wr, rfl⟩
      have HFr := Lib.hid hf
      clear hf
      have wk := wrap_nat k (by omega)
      by_cases hlt : k < L
      · have hltz : (k : Int) < L := by omega
        obtain ⟨b, o, hB⟩ := HLI.out.someE (by rw [HLn.out]; omega)
        subst hB
        have c0 : wo.cell? ⟨b, o + k * 34, none⟩ = some (.string (strB es[k]!.name)) := name_at HLI.out (some_of_mem (by rw [HLn.out]; omega)) HFr.out
        have c1 : wo.cell? ⟨b, o + k * 34 + 1, none⟩ = some (.int .i64 es[k]!.mode) := mode_at HLI.out (some_of_mem (by rw [HLn.out]; omega)) HFr.out
        have HDk := Lib.hid (HD.out k hlt)
        have cn := fun w => QrName_any es[k]!.name (by have := es[k]!.hn; omega) w
        obtain ⟨S, hS⟩ : ∃ S, strB es[k]!.name = S := ⟨_, rfl⟩
        obtain ⟨m, hm⟩ : ∃ m, es[k]!.mode = m := ⟨_, rfl⟩
        obtain ⟨b2, hb2⟩ : ∃ b, nameB es[k]!.name = b := ⟨_, rfl⟩
        rw [hS, hb2] at cn
        rw [hS] at c0
        rw [hm] at c1 HDk
        rw [hb2] at HDk
        have HM1 : Hid (m < 1 → modeB m = false) := Lib.hid (fun h => by rw [modeB, decide_eq_false (by omega)]; rfl)
        have HM2 : Hid (3 < m → modeB m = false) := Lib.hid (fun h => by rw [modeB, decide_eq_false (p := m ≤ 3) (by omega), Bool.and_false])
        have HM3 : Hid (1 ≤ m → m ≤ 3 → modeB m = true) := Lib.hid (fun h1 h2 => by rw [modeB, decide_eq_true h1, decide_eq_true h2]; rfl)
        clear hS hm hb2
        by_cases m1 : m < 1
        · go_wp2_with fail
          (try simp only [Exit.inBlock, Exit.then])
          go_ret
          exact ⟨by rw [HC.out, if_neg hlen, HB.out, HDk.out, HM1.out m1]; simp, HFr.out.below (fun _ _ e => e)⟩
        · by_cases m2 : 3 < m
          · go_wp2_with fail
            (try simp only [Exit.inBlock, Exit.then])
            go_ret
            exact ⟨by rw [HC.out, if_neg hlen, HB.out, HDk.out, HM2.out m2]; simp, HFr.out.below (fun _ _ e => e)⟩
          · cases b2
            · go_wp2_with (go_at_call 29; refine (cn _).mono ?_; rintro e w' ⟨rfl, bb⟩; have HB1 := Lib.hid bb; clear bb)
              (try simp only [Exit.inBlock, Exit.then])
              go_ret
              exact ⟨by rw [HC.out, if_neg hlen, HB.out, HDk.out, HM3.out (by omega) (by omega)]; simp, (HFr.out.then_below HB1.out).below (fun _ _ e => e)⟩
            · go_wp2_with (go_at_call 29; refine (cn _).mono ?_; rintro e w' ⟨rfl, bb⟩; have HB1 := Lib.hid bb; clear bb)
              go_roundg (L - (k + 1))
              case measure => omega
              case rel => exact ⟨k + 1, by go_num, by omega, Nat.le_refl _, HFr.out.then_below HB1.out, Lib.hid (by rw [HB.out, HDk.out, HM3.out (by omega) (by omega)]; simp)⟩
      · have hltz : ¬ ((k : Int) < L) := by omega
        have HH : Hid (firstBad es = 0) := Lib.hid (by rw [HB.out, List.drop_of_length_le (by rw [HLn.out]; omega)]; rfl)
        clear HB
        go_wp2
        go_loopg [4] L (fun kx s4 wr => ∃ k : Nat, s4 = .int .i64 k ∧ k ≤ L ∧ L - k ≤ kx ∧ Fr (fun _ => False) w wr ∧ Hid (∀ j i, j < i → i < k → es[j]!.name ≠ es[i]!.name))
        case atStart => exact ⟨0, rfl, by omega, by omega, HFr.out, Lib.hid (fun j i h1 h2 => by omega)⟩
        case round =>
          clear HFr hltz hlt hk hkx
          obtain ⟨k, rfl, hk, hkx, hf, HB⟩ := hrel
          have HFr := Lib.hid hf
          clear hf
          by_cases hlt : k < L
          · have hltz : (k : Int) < L := by omega
            obtain ⟨b, o, hB⟩ := HLI.out.someE (by rw [HLn.out]; omega)
            subst hB
            go_wp2
            go_loopg [5] L (fun kx s5 wr => ∃ j : Nat, s5 = .int .i64 j ∧ j ≤ k ∧ k - j ≤ kx ∧ Fr (fun _ => False) w wr ∧ Hid (∀ i, i < j → es[i]!.name ≠ es[k]!.name))
            case atStart => exact ⟨0, rfl, by omega, by omega, HFr.out, Lib.hid (fun i h1 => by omega)⟩
            case round =>
              clear HFr
              obtain ⟨j, rfl, hj, hjx, hf, HJ⟩ := hrel
              obtain ⟨wo, rfl⟩ : ∃ wo, wo = wr := ⟨wr, rfl⟩
              have HFr := Lib.hid hf
              clear hf
              have wk := wrap_nat k (by omega)
              have wj := wrap_nat j (by omega)
              by_cases hjk : j < k
              · have hjz : (j : Int) < (k : Int) := by omega
                have hjl : (j : Int) < L := by omega
                have c1' : ∀ q : Later wo, q.w'.cell? ⟨b, o + j * 34, none⟩ = some (.string (strB es[j]!.name)) := fun q => name_at HLI.out (some_of_mem (by rw [HLn.out]; omega)) (HFr.out.trans q.fr (fun _ _ e => e))
                have c2' : ∀ q : Later wo, q.w'.cell? ⟨b, o + k * 34, none⟩ = some (.string (strB es[k]!.name)) := fun q => name_at HLI.out (some_of_mem (by rw [HLn.out]; omega)) (HFr.out.trans q.fr (fun _ _ e => e))
                have heq := str_eq es[j]!.name es[k]!.name
                have HQ : Hid ((es[j]!.name == es[k]!.name) = true → twB es = true) := Lib.hid (fun e => HTA.out j k hjk hlt (by simpa using e))
                have HQ2 : Hid ((es[j]!.name == es[k]!.name) = false → es[j]!.name ≠ es[k]!.name) := Lib.hid (fun e => by simpa using e)
                obtain ⟨bq, hbq⟩ : ∃ b, (es[j]!.name == es[k]!.name) = b := ⟨_, rfl⟩
                obtain ⟨S1, hS1⟩ : ∃ S, strB es[j]!.name = S := ⟨_, rfl⟩
                obtain ⟨S2, hS2⟩ : ∃ S, strB es[k]!.name = S := ⟨_, rfl⟩
                rw [hS1] at c1' heq
                rw [hS2] at c2' heq
                rw [hbq] at heq HQ HQ2
                clear hS1 hS2 hbq
                cases bq
                · (
                  go_wp2_with fail
                  refine wp_region_later (w0 := wo) (Fr.refl _ _) (by kernel_rfl) (by kernel_rfl) ?_
                  repeat (quiet_step (fail))
                  refine wpQuiet_nil ?_
                  intro _ hw'
                  obtain ⟨q, hw''⟩ := hw'
                  subst hw''
                  go_wp2_with fail)
                  go_roundg (k - (j + 1))
                  case measure => omega
                  case rel => exact ⟨j + 1, by go_num, by omega, Nat.le_refl _, HFr.out.trans q.fr (fun _ _ e => e), Lib.hid (fun i hi => by
                    by_cases e : i = j
                    · subst e; exact HQ2.out (by first | rfl | trivial)
                    · exact HJ.out i (by omega))⟩
                · (
                  go_wp2_with fail
                  refine wp_region_later (w0 := wo) (Fr.refl _ _) (by kernel_rfl) (by kernel_rfl) ?_
                  repeat (quiet_step (fail))
                  refine wpQuiet_nil ?_
                  intro _ hw'
                  obtain ⟨q, hw''⟩ := hw'
                  subst hw''
                  go_wp2_with fail)
                  (try simp only [Exit.inBlock, Exit.then])
                  go_ret
                  exact ⟨by rw [HC.out, if_neg hlen, if_pos HH.out, if_pos (HQ.out (by first | rfl | trivial))]; rfl, (HFr.out.trans q.fr (fun _ _ e => e)).below (fun _ _ e => e)⟩
              · have hjz : ¬ ((j : Int) < (k : Int)) := by omega
                go_wp2
                go_roundg (L - (k + 1))
                case measure => omega
                case rel => exact ⟨k + 1, by go_num, by omega, Nat.le_refl _, HFr.out, Lib.hid (fun a i h1 h2 => by
                  by_cases e : i = k
                  · subst e; exact HJ.out a (by omega)
                  · exact HB.out a i h1 (by omega))⟩
          · have hltz : ¬ ((k : Int) < L) := by omega
            have HTW : Hid (twB es = false) := Lib.hid (HTN.out (fun j i h1 h2 => HB.out j i h1 (by omega)))
            have HRR := Lib.hid (HRI.out HH.out HTW.out)
            clear HB
            go_wp2
            go_loopg [6] L (fun kx s6 wr => ∃ k : Nat, s6 = .int .i64 k ∧ k ≤ L ∧ L - k ≤ kx ∧ Fr (fun _ => False) w wr ∧ Hid (∀ j, j < k → j + 1 < L → ltB (keyE es[j]!) (keyE es[j + 1]!) = true))
            case atStart => exact ⟨0, rfl, by omega, by omega, HFr.out, Lib.hid (fun j h1 h2 => by omega)⟩
            case round =>
              clear HFr hltz hlt hk hkx
              obtain ⟨k, rfl, hk, hkx, hf, HB⟩ := hrel
              obtain ⟨wo, rfl⟩ : ∃ wo, wo = wr := ⟨wr, rfl⟩
              have HFr := Lib.hid hf
              clear hf
              have wk := wrap_nat k (by omega)
              have wk1 := wrap_nat1 k (by omega)
              have tn1 := toNat_nat1 k
              have nn1 := nonneg_nat1 k
              by_cases hlt : k + 1 < L
              · have hltz : (k : Int) + 1 < L := by omega
                have hkz : (k : Int) < L := by omega
                obtain ⟨b, o, hB⟩ := HLI.out.someE (by rw [HLn.out]; omega)
                subst hB
                have l1 : ∀ q : Later wo, (loadCellsFrom ⟨b, o + k * 34, none⟩ 0 n34 #[]).run Try.prog q.w' = .ok (entV es[k]!).toArray q.w' := fun q => load_ent HLI.out (some_of_mem (by rw [HLn.out]; omega)) (HFr.out.trans q.fr (fun _ _ e => e)) n34 HN.out
                have l2 : ∀ q : Later wo, (loadCellsFrom ⟨b, o + (k + 1) * 34, none⟩ 0 n34 #[]).run Try.prog q.w' = .ok (entV es[k + 1]!).toArray q.w' := fun q => load_ent HLI.out (some_of_mem (by rw [HLn.out]; omega)) (HFr.out.trans q.fr (fun _ _ e => e)) n34 HN.out
                have kk1 := fun w => QtKey_any es[k]! w
                have kk2 := fun w => QtKey_any es[k + 1]! w
                have hls := lt_str (keyE es[k]!) (keyE es[k + 1]!)
                have HQ : Hid (ltB (keyE es[k]!) (keyE es[k + 1]!) = false → isrB es = false) := Lib.hid (fun e => by
                  rw [← HRR.out]
                  cases hq : risB es with
                  | false => rfl
                  | true => have := HR1.out.1 hq k hlt; rw [e] at this; cases this)
                have HQ2 : Hid (∀ b, ltB (keyE es[k]!) (keyE es[k + 1]!) = b → b = true → ltB (keyE es[k]!) (keyE es[k + 1]!) = true) := Lib.hid (fun b h1 h2 => h1.trans h2)
                obtain ⟨bq, hbq⟩ : ∃ b, ltB (keyE es[k]!) (keyE es[k + 1]!) = b := ⟨_, rfl⟩
                have HBQ := Lib.hid hbq
                obtain ⟨c1, hc1⟩ : ∃ c, (entV es[k]!).toArray = c := ⟨_, rfl⟩
                obtain ⟨c2, hc2⟩ : ∃ c, (entV es[k + 1]!).toArray = c := ⟨_, rfl⟩
                obtain ⟨S1, hS1⟩ : ∃ S, strB (keyE es[k]!) = S := ⟨_, rfl⟩
                obtain ⟨S2, hS2⟩ : ∃ S, strB (keyE es[k + 1]!) = S := ⟨_, rfl⟩
                rw [hc1] at l1 kk1
                rw [hc2] at l2 kk2
                rw [hS1] at kk1 hls
                rw [hS2] at kk2 hls
                rw [hbq] at hls
                have k1 := Lib.hid kk1
                have k2 := Lib.hid kk2
                clear hc1 hc2 hS1 hS2 hbq kk1 kk2
                cases bq
                · (
                  go_wp2_with fail
                  refine wp_region_later (w0 := wo) (Fr.refl _ _) (by kernel_rfl) (by kernel_rfl) ?_
                  repeat (quiet_step (first | (go_at_call_of 30 (Value.agg c1); refine Calls.later_of (k1.out _)) | (go_at_call_of 30 (Value.agg c2); refine Calls.later_of (k2.out _))))
                  refine wpQuiet_nil ?_
                  intro _ hw'
                  obtain ⟨q, hw''⟩ := hw'
                  subst hw''
                  go_wp2_with fail)
                  (try simp only [Exit.inBlock, Exit.then])
                  go_ret
                  exact ⟨by rw [HC.out, if_neg hlen, if_pos HH.out, HTW.out, HQ.out HBQ.out]; rfl, (HFr.out.trans q.fr (fun _ _ e => e)).below (fun _ _ e => e)⟩
                · (
                  go_wp2_with fail
                  refine wp_region_later (w0 := wo) (Fr.refl _ _) (by kernel_rfl) (by kernel_rfl) ?_
                  repeat (quiet_step (first | (go_at_call_of 30 (Value.agg c1); refine Calls.later_of (k1.out _)) | (go_at_call_of 30 (Value.agg c2); refine Calls.later_of (k2.out _))))
                  refine wpQuiet_nil ?_
                  intro _ hw'
                  obtain ⟨q, hw''⟩ := hw'
                  subst hw''
                  go_wp2_with fail)
                  go_roundg (L - (k + 1))
                  case measure => omega
                  case rel => exact ⟨k + 1, by go_num, by omega, Nat.le_refl _, HFr.out.trans q.fr (fun _ _ e => e), Lib.hid (fun j hj hj1 => by
                    by_cases e : j = k
                    · subst e; exact HBQ.out
                    · exact HB.out j (by omega) hj1)⟩
              · have hltz : ¬ ((k : Int) + 1 < L) := by omega
                go_wp2_with fail
                go_ret
                exact ⟨by rw [HC.out, if_neg hlen, if_pos HH.out, HTW.out, ← HRR.out, HR1.out.2 (fun j hj => HB.out j (by omega) hj)]; rfl, HFr.out.below (fun _ _ e => e)⟩
end Go.Proofs.Ytcbgpbcfpeanjaa

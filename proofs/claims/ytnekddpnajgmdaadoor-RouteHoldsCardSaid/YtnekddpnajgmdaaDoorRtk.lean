/- What is proved: whether a word stands for a part, by the program. Conditions: the texts are not too long for any machine. -/
import Derived.Test.YtnekddpnajgmdaaDoorRti
import Derived.Test.YtnekddpnajgmdaaDoorRtj
import Derived.WalkMore
import Derived.ScopeJumps
import Derived.BigQuiet
namespace Go.Proofs.YtnekddpnajgmdaaDoor
open Go.RowKit
set_option linter.unusedVariables false

/-- The slot's number. -/
def slotN (a : Act) (k : Nat) : Nat := (intOf (a.tmps.getD k undef)).toNat

set_option maxRecDepth 100000 in
set_option maxHeartbeats 6400000 in
theorem Rtmeans_any (W S : List UInt8) (hW : W.length ≤ 900000) (hS : S.length ≤ 900000) (w : World) : Calls Tryd.prog 66 #[.string (strB W), .string (strB S)] w fun e w' => e = .returned (.bool (wordB W S)) ∧ Below w.heap.size w w' := by
  have HIW := Lib.hid (fun k hk w => index_str (P := Tryd.prog) w Tryd.underlying9 W k hk)
  have HIS := Lib.hid (fun k hk w => index_str (P := Tryd.prog) w Tryd.underlying9 S k hk)
  have hsw := strB_size W
  have hss := strB_size S
  obtain ⟨X, hX⟩ : ∃ X, strB W = X := ⟨_, rfl⟩
  obtain ⟨Y, hY⟩ : ∃ X, strB S = X := ⟨_, rfl⟩
  rw [hX] at HIW hsw ⊢
  rw [hY] at HIS hss ⊢
  obtain ⟨n, hn⟩ : ∃ n, W.length = n := ⟨_, rfl⟩
  obtain ⟨m, hm⟩ : ∃ n, S.length = n := ⟨_, rfl⟩
  have HNn := Lib.hid hn
  have HMm := Lib.hid hm
  rw [hn] at HIW hsw hW
  rw [hm] at HIS hss hS
  clear hX hY hn hm
  go_enter Tryd.func66, Tryd.ntmps66
  go_wp2
  refine wp_scope_jumps 0 (fun a' w' => Fr (fun _ => False) w w' ∧ ∃ (w1 a1 b1 r1 : Nat) (u9 u10 u11 u12 u13 u14 u15 u16 u17 u18 u19 u20 u21 u22 u23 u24 u25 u26 u27 u28 u29 u30 u31 u32 u33 u34 u35 u36 u37 u38 u39 u40 u41 u42 u43 u44 u45 u46 u47 u48 u49 u50 u51 u52 u53 u54 u55 u56 u57 u58 u59 u60 u61 u62 u63 u64 u65 u66 u67 u68 u69 u70 u71 u72 u73 u74 u75 u76 u77 u78 u79 u80 u81 u82 : Value), a' = { tmps := #[.string X, .string Y, undef, undef, .bool false, .int .i64 w1, .int .i64 a1, .int .i64 b1, .int .i64 r1, u9, u10, u11, u12, u13, u14, u15, u16, u17, u18, u19, u20, u21, u22, u23, u24, u25, u26, u27, u28, u29, u30, u31, u32, u33, u34, u35, u36, u37, u38, u39, u40, u41, u42, u43, u44, u45, u46, u47, u48, u49, u50, u51, u52, u53, u54, u55, u56, u57, u58, u59, u60, u61, u62, u63, u64, u65, u66, u67, u68, u69, u70, u71, u72, u73, u74, u75, u76, u77, u78, u79, u80, u81, u82], defers := [] } ∧ MI W S w1 a1 b1 r1) (fun a' _ => miM W S (slotN a' 7) (slotN a' 8)) rfl ?_ ?_
  · go_wp2
    go_step3
    go_wp2
    go_loopw [5, 6] (fun v5 v6 wr => ∃ (w2 a2 : Nat), v5 = .int .i64 w2 ∧ v6 = .int .i64 a2 ∧ Hid (MI W S w2 a2 0 0) ∧ Fr (fun _ => False) w wr) (fun v5 _ _ => n - (intOf v5).toNat)
    case atStart => exact ⟨0, 0, rfl, rfl, Lib.hid (MI.start W S), Fr.refl _ _⟩
    case round =>
      (
        obtain ⟨w2, a2, rfl, rfl, hI, hfr⟩ := hrel
        have hwn : w2 ≤ n := by rw [← HNn.out]; exact hI.out.hw
        have ham : a2 ≤ m := by rw [← HMm.out]; exact hI.out.ha
        have hr900 : (0 : Nat) ≤ m := by rw [← HMm.out]; exact hI.out.ra
        have HFr := Lib.hid hfr
        clear hfr
        by_cases h1 : w2 < n
        · have hiw := HIW.out w2 h1
          obtain ⟨c, hc⟩ : ∃ c : Int, (((W.getD w2 0).toNat : Nat) : Int) = c := ⟨_, rfl⟩
          rw [hc] at hiw
          have HC := Lib.hid hc
          clear hc
          have c1 : ((w2 : Nat) : Int) < n := by omega
          have d1 : decide (((w2 : Nat) : Int) < n) = true := decide_eq_true c1
          have n1 : ¬ ((w2 : Nat) : Int) = n := by omega
          by_cases h3 : c = 42
          · have HS42 := Lib.hid (hI.out.star (by rw [HNn.out]; exact h1) (UInt8.toNat_inj.1 (by have := HC.out; show (W.getD w2 0).toNat = 42; omega)))
            subst h3
            by_cases h2 : a2 < m
            · have c2 : ((a2 : Nat) : Int) < m := by omega
              have d2 : decide (((a2 : Nat) : Int) < m) = true := decide_eq_true c2
              go_wp2_with fail
              go_quiet (fail)
              go_wp2
              go_step3
              (
                simp +zetaDelta only [Exit.inBlock, Exit.then, Exit.jump]
                rw [show ((w2 : Nat) : Int) + 1 = ((w2 + 1 : Nat) : Int) by omega]
                exact ⟨trivial, HFr.out.drewN nq, w2 + 1, a2, w2 + 1, a2, _, _, _, _, _, _, _, _, _, _, _, _, _, _, _, _, _, _, _, _, _, _, _, _, _, _, _, _, _, _, _, _, _, _, _, _, _, _, _, _, _, _, _, _, _, _, _, _, _, _, _, _, _, _, _, _, _, _, _, _, _, _, _, _, _, _, _, _, _, _, _, _, _, _, rfl, HS42.out⟩)
            · have c2 : ¬ ((a2 : Nat) : Int) < m := by omega
              have d2 : decide (((a2 : Nat) : Int) < m) = false := decide_eq_false c2
              go_wp2_with fail
              go_quiet (fail)
              go_wp2
              go_step3
              (
                simp +zetaDelta only [Exit.inBlock, Exit.then, Exit.jump]
                rw [show ((w2 : Nat) : Int) + 1 = ((w2 + 1 : Nat) : Int) by omega]
                exact ⟨trivial, HFr.out.drewN nq, w2 + 1, a2, w2 + 1, a2, _, _, _, _, _, _, _, _, _, _, _, _, _, _, _, _, _, _, _, _, _, _, _, _, _, _, _, _, _, _, _, _, _, _, _, _, _, _, _, _, _, _, _, _, _, _, _, _, _, _, _, _, _, _, _, _, _, _, _, _, _, _, _, _, _, _, _, _, _, _, _, _, _, _, rfl, HS42.out⟩)
          · have e3 : (c == 42) = false := by simpa using h3
            have d3 : decide (c = 42) = false := decide_eq_false h3
            have HN42 : Hid (W.getD w2 0 ≠ 42) := Lib.hid (fun e => h3 (by rw [← HC.out, e]; rfl))
            by_cases h2 : a2 < m
            · have c2 : ((a2 : Nat) : Int) < m := by omega
              have d2 : decide (((a2 : Nat) : Int) < m) = true := decide_eq_true c2
              have his := HIS.out a2 h2
              obtain ⟨d, hd⟩ : ∃ d : Int, (((S.getD a2 0).toNat : Nat) : Int) = d := ⟨_, rfl⟩
              rw [hd] at his
              have HD := Lib.hid hd
              clear hd
              by_cases h4 : c = 63
              · have HST := Lib.hid (hI.out.step (by rw [HNn.out]; exact h1) (by rw [HMm.out]; exact h2) HN42.out (.inl (UInt8.toNat_inj.1 (by have := HC.out; show (W.getD w2 0).toNat = 63; omega))))
                subst h4
                go_wp2_with fail
                go_quiet (fail)
                go_wp2
                go_roundw
                case rel => exact ⟨w2 + 1, a2 + 1, by go_num, by go_num, HST.out, HFr.out.drewN nq⟩
                case measure => simp [intOf]; omega
              · have e4 : (c == 63) = false := by simpa using h4
                have d4 : decide (c = 63) = false := decide_eq_false h4
                by_cases h5 : c = d
                · have HST := Lib.hid (hI.out.step (by rw [HNn.out]; exact h1) (by rw [HMm.out]; exact h2) HN42.out (.inr (UInt8.toNat_inj.1 (by have := HC.out; have := HD.out; omega))))
                  have HD2 := HD.out
                  clear HD2
                  have HHC := HC
                  clear HD HHC
                  subst h5
                  go_wp2_with fail
                  go_quiet (fail)
                  go_wp2
                  go_roundw
                  case rel => exact ⟨w2 + 1, a2 + 1, by go_num, by go_num, HST.out, HFr.out.drewN nq⟩
                  case measure => simp [intOf]; omega
                · have e5 : (c == d) = false := by simpa using h5
                  have d5 : decide (c = d) = false := decide_eq_false h5
                  have HCF := Lib.hid (cur_other (W := W) (S := S) (w := w2) (a := a2) (by rw [HNn.out]; exact h1) (by rw [HMm.out]; exact h2) HN42.out (fun e => h4 (by rw [← HC.out, e]; rfl)) (fun e => h5 (by rw [← HC.out, ← HD.out, e])))
                  go_wp2_with fail
                  go_quiet (fail)
                  (
                    have HNo := Lib.hid (hI.out.no rfl HCF.out)
                    go_wp2
                    simp +zetaDelta only [Exit.jump]
                    go_ret
                    exact ⟨by rw [HNo.out]; rfl, (HFr.out.drewN nq).below (fun _ _ e => e)⟩)
            · have c2 : ¬ ((a2 : Nat) : Int) < m := by omega
              have d2 : decide (((a2 : Nat) : Int) < m) = false := decide_eq_false c2
              have HNo := Lib.hid (hI.out.no_end (by rw [HNn.out]; exact h1) HN42.out (by rw [HMm.out]; omega))
              go_wp2_with fail
              go_quiet (fail)
              go_wp2
              all_goals
                simp +zetaDelta only [Exit.jump]
                go_ret
                exact ⟨by rw [HNo.out]; rfl, (HFr.out.drewN nq).below (fun _ _ e => e)⟩
        · have c1 : ¬ ((w2 : Nat) : Int) < n := by omega
          have d1 : decide (((w2 : Nat) : Int) < n) = false := decide_eq_false c1
          have hwn2 : w2 = n := by omega
          have n1 : ((w2 : Nat) : Int) = n := by omega
          by_cases h2 : a2 < m
          · have c2 : ((a2 : Nat) : Int) < m := by omega
            have d2 : decide (((a2 : Nat) : Int) < m) = true := decide_eq_true c2
            have n2 : ¬ ((a2 : Nat) : Int) = m := by omega
            have HCF := Lib.hid (cur_short (W := W) (S := S) (w := w2) (a := a2) (by rw [HNn.out]; exact hwn2) (by rw [HMm.out]; exact h2))
            go_wp2_with fail
            go_quiet (fail)
            (
              have HNo := Lib.hid (hI.out.no rfl HCF.out)
              go_wp2
              simp +zetaDelta only [Exit.jump]
              go_ret
              exact ⟨by rw [HNo.out]; rfl, (HFr.out.drewN nq).below (fun _ _ e => e)⟩)
          · have c2 : ¬ ((a2 : Nat) : Int) < m := by omega
            have d2 : decide (((a2 : Nat) : Int) < m) = false := decide_eq_false c2
            have n2 : ((a2 : Nat) : Int) = m := by omega
            have HYes := Lib.hid (hI.out.yes (by rw [HNn.out]; exact hwn2) (by rw [HMm.out]; omega))
            go_wp2_with fail
            go_quiet (fail)
            go_wp2
            simp +zetaDelta only [Exit.jump]
            go_ret
            exact ⟨by rw [HYes.out]; rfl, (HFr.out.drewN nq).below (fun _ _ e => e)⟩)
  · intro a' w' h0
    obtain ⟨hf0, h0⟩ := h0
    obtain ⟨w1, a1, b1, r1, h0⟩ := h0
    iterate 74 (refine Exists.elim h0 ?_; clear h0; intro _ h0)
    have hI := h0.2
    have he := h0.1
    clear h0
    subst he
    have HI := Lib.hid hI
    clear hI
    go_wp2
    go_loopw [5, 6] (fun v5 v6 wr => ∃ (w2 a2 : Nat), v5 = .int .i64 w2 ∧ v6 = .int .i64 a2 ∧ Hid (MI W S w2 a2 b1 r1) ∧ Fr (fun _ => False) w wr) (fun v5 _ _ => n - (intOf v5).toNat)
    case atStart => exact ⟨w1, a1, rfl, rfl, HI, hf0⟩
    case round =>
      (
        obtain ⟨w2, a2, rfl, rfl, hI, hfr⟩ := hrel
        have hwn : w2 ≤ n := by rw [← HNn.out]; exact hI.out.hw
        have ham : a2 ≤ m := by rw [← HMm.out]; exact hI.out.ha
        have hr900 : (r1 : Nat) ≤ m := by rw [← HMm.out]; exact hI.out.ra
        have HFr := Lib.hid hfr
        clear hfr
        by_cases h1 : w2 < n
        · have hiw := HIW.out w2 h1
          obtain ⟨c, hc⟩ : ∃ c : Int, (((W.getD w2 0).toNat : Nat) : Int) = c := ⟨_, rfl⟩
          rw [hc] at hiw
          have HC := Lib.hid hc
          clear hc
          have c1 : ((w2 : Nat) : Int) < n := by omega
          have d1 : decide (((w2 : Nat) : Int) < n) = true := decide_eq_true c1
          have n1 : ¬ ((w2 : Nat) : Int) = n := by omega
          by_cases h3 : c = 42
          · have HS42 := Lib.hid (hI.out.star (by rw [HNn.out]; exact h1) (UInt8.toNat_inj.1 (by have := HC.out; show (W.getD w2 0).toNat = 42; omega)))
            subst h3
            by_cases h2 : a2 < m
            · have c2 : ((a2 : Nat) : Int) < m := by omega
              have d2 : decide (((a2 : Nat) : Int) < m) = true := decide_eq_true c2
              go_wp2_with fail
              go_quiet (fail)
              go_wp2
              go_step3
              (
                simp +zetaDelta only [Exit.inBlock, Exit.then, Exit.jump]
                rw [show ((w2 : Nat) : Int) + 1 = ((w2 + 1 : Nat) : Int) by omega]
                exact ⟨trivial, ⟨HFr.out.drewN nq, w2 + 1, a2, w2 + 1, a2, _, _, _, _, _, _, _, _, _, _, _, _, _, _, _, _, _, _, _, _, _, _, _, _, _, _, _, _, _, _, _, _, _, _, _, _, _, _, _, _, _, _, _, _, _, _, _, _, _, _, _, _, _, _, _, _, _, _, _, _, _, _, _, _, _, _, _, _, _, _, _, _, _, _, rfl, HS42.out⟩, miM_star hI.out (by rw [HNn.out]; exact h1)⟩)
            · have c2 : ¬ ((a2 : Nat) : Int) < m := by omega
              have d2 : decide (((a2 : Nat) : Int) < m) = false := decide_eq_false c2
              go_wp2_with fail
              go_quiet (fail)
              go_wp2
              go_step3
              (
                simp +zetaDelta only [Exit.inBlock, Exit.then, Exit.jump]
                rw [show ((w2 : Nat) : Int) + 1 = ((w2 + 1 : Nat) : Int) by omega]
                exact ⟨trivial, ⟨HFr.out.drewN nq, w2 + 1, a2, w2 + 1, a2, _, _, _, _, _, _, _, _, _, _, _, _, _, _, _, _, _, _, _, _, _, _, _, _, _, _, _, _, _, _, _, _, _, _, _, _, _, _, _, _, _, _, _, _, _, _, _, _, _, _, _, _, _, _, _, _, _, _, _, _, _, _, _, _, _, _, _, _, _, _, _, _, _, _, rfl, HS42.out⟩, miM_star hI.out (by rw [HNn.out]; exact h1)⟩)
          · have e3 : (c == 42) = false := by simpa using h3
            have d3 : decide (c = 42) = false := decide_eq_false h3
            have HN42 : Hid (W.getD w2 0 ≠ 42) := Lib.hid (fun e => h3 (by rw [← HC.out, e]; rfl))
            by_cases h2 : a2 < m
            · have c2 : ((a2 : Nat) : Int) < m := by omega
              have d2 : decide (((a2 : Nat) : Int) < m) = true := decide_eq_true c2
              have his := HIS.out a2 h2
              obtain ⟨d, hd⟩ : ∃ d : Int, (((S.getD a2 0).toNat : Nat) : Int) = d := ⟨_, rfl⟩
              rw [hd] at his
              have HD := Lib.hid hd
              clear hd
              by_cases h4 : c = 63
              · have HST := Lib.hid (hI.out.step (by rw [HNn.out]; exact h1) (by rw [HMm.out]; exact h2) HN42.out (.inl (UInt8.toNat_inj.1 (by have := HC.out; show (W.getD w2 0).toNat = 63; omega))))
                subst h4
                go_wp2_with fail
                go_quiet (fail)
                go_wp2
                go_roundw
                case rel => exact ⟨w2 + 1, a2 + 1, by go_num, by go_num, HST.out, HFr.out.drewN nq⟩
                case measure => simp [intOf]; omega
              · have e4 : (c == 63) = false := by simpa using h4
                have d4 : decide (c = 63) = false := decide_eq_false h4
                by_cases h5 : c = d
                · have HST := Lib.hid (hI.out.step (by rw [HNn.out]; exact h1) (by rw [HMm.out]; exact h2) HN42.out (.inr (UInt8.toNat_inj.1 (by have := HC.out; have := HD.out; omega))))
                  have HD2 := HD.out
                  clear HD2
                  have HHC := HC
                  clear HD HHC
                  subst h5
                  go_wp2_with fail
                  go_quiet (fail)
                  go_wp2
                  go_roundw
                  case rel => exact ⟨w2 + 1, a2 + 1, by go_num, by go_num, HST.out, HFr.out.drewN nq⟩
                  case measure => simp [intOf]; omega
                · have e5 : (c == d) = false := by simpa using h5
                  have d5 : decide (c = d) = false := decide_eq_false h5
                  have HCF := Lib.hid (cur_other (W := W) (S := S) (w := w2) (a := a2) (by rw [HNn.out]; exact h1) (by rw [HMm.out]; exact h2) HN42.out (fun e => h4 (by rw [← HC.out, e]; rfl)) (fun e => h5 (by rw [← HC.out, ← HD.out, e])))
                  go_wp2_with fail
                  go_quiet (fail)
                  (
                    by_cases hb : 0 < b1
                    · have hb' : (0 : Int) < (b1 : Nat) := by omega
                      have HRT := Lib.hid (hI.out.retry hb (by rw [HMm.out]; exact h2) HCF.out)
                      go_wp2
                      go_step3
                      simp +zetaDelta only [Exit.inBlock, Exit.then, Exit.jump]
                      rw [show ((r1 : Nat) : Int) + 1 = ((r1 + 1 : Nat) : Int) by omega]
                      exact ⟨trivial, ⟨HFr.out.drewN nq, b1, r1 + 1, b1, r1 + 1, _, _, _, _, _, _, _, _, _, _, _, _, _, _, _, _, _, _, _, _, _, _, _, _, _, _, _, _, _, _, _, _, _, _, _, _, _, _, _, _, _, _, _, _, _, _, _, _, _, _, _, _, _, _, _, _, _, _, _, _, _, _, _, _, _, _, _, _, _, _, _, _, _, _, rfl, HRT.out⟩, miM_retry hI.out hb (by rw [HMm.out]; exact h2)⟩
                    · obtain rfl : b1 = 0 := by omega
                      have HNo := Lib.hid (hI.out.no rfl HCF.out)
                      go_wp2
                      simp +zetaDelta only [Exit.jump]
                      go_ret
                      exact ⟨by rw [HNo.out]; rfl, (HFr.out.drewN nq).below (fun _ _ e => e)⟩)
            · have c2 : ¬ ((a2 : Nat) : Int) < m := by omega
              have d2 : decide (((a2 : Nat) : Int) < m) = false := decide_eq_false c2
              have HNo := Lib.hid (hI.out.no_end (by rw [HNn.out]; exact h1) HN42.out (by rw [HMm.out]; omega))
              go_wp2_with fail
              go_quiet (fail)
              go_wp2
              all_goals
                simp +zetaDelta only [Exit.jump]
                go_ret
                exact ⟨by rw [HNo.out]; rfl, (HFr.out.drewN nq).below (fun _ _ e => e)⟩
        · have c1 : ¬ ((w2 : Nat) : Int) < n := by omega
          have d1 : decide (((w2 : Nat) : Int) < n) = false := decide_eq_false c1
          have hwn2 : w2 = n := by omega
          have n1 : ((w2 : Nat) : Int) = n := by omega
          by_cases h2 : a2 < m
          · have c2 : ((a2 : Nat) : Int) < m := by omega
            have d2 : decide (((a2 : Nat) : Int) < m) = true := decide_eq_true c2
            have n2 : ¬ ((a2 : Nat) : Int) = m := by omega
            have HCF := Lib.hid (cur_short (W := W) (S := S) (w := w2) (a := a2) (by rw [HNn.out]; exact hwn2) (by rw [HMm.out]; exact h2))
            go_wp2_with fail
            go_quiet (fail)
            (
              by_cases hb : 0 < b1
              · have hb' : (0 : Int) < (b1 : Nat) := by omega
                have HRT := Lib.hid (hI.out.retry hb (by rw [HMm.out]; exact h2) HCF.out)
                go_wp2
                go_step3
                simp +zetaDelta only [Exit.inBlock, Exit.then, Exit.jump]
                rw [show ((r1 : Nat) : Int) + 1 = ((r1 + 1 : Nat) : Int) by omega]
                exact ⟨trivial, ⟨HFr.out.drewN nq, b1, r1 + 1, b1, r1 + 1, _, _, _, _, _, _, _, _, _, _, _, _, _, _, _, _, _, _, _, _, _, _, _, _, _, _, _, _, _, _, _, _, _, _, _, _, _, _, _, _, _, _, _, _, _, _, _, _, _, _, _, _, _, _, _, _, _, _, _, _, _, _, _, _, _, _, _, _, _, _, _, _, _, _, rfl, HRT.out⟩, miM_retry hI.out hb (by rw [HMm.out]; exact h2)⟩
              · obtain rfl : b1 = 0 := by omega
                have HNo := Lib.hid (hI.out.no rfl HCF.out)
                go_wp2
                simp +zetaDelta only [Exit.jump]
                go_ret
                exact ⟨by rw [HNo.out]; rfl, (HFr.out.drewN nq).below (fun _ _ e => e)⟩)
          · have c2 : ¬ ((a2 : Nat) : Int) < m := by omega
            have d2 : decide (((a2 : Nat) : Int) < m) = false := decide_eq_false c2
            have n2 : ((a2 : Nat) : Int) = m := by omega
            have HYes := Lib.hid (hI.out.yes (by rw [HNn.out]; exact hwn2) (by rw [HMm.out]; omega))
            go_wp2_with fail
            go_quiet (fail)
            go_wp2
            simp +zetaDelta only [Exit.jump]
            go_ret
            exact ⟨by rw [HYes.out]; rfl, (HFr.out.drewN nq).below (fun _ _ e => e)⟩)
end Go.Proofs.YtnekddpnajgmdaaDoor

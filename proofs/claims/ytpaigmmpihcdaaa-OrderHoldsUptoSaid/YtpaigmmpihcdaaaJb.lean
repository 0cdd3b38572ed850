/- What is proved: who is ready, who is the youngest, by the document. Conditions: the cells are there, the graph right. -/
import Derived.Test.YtpaigmmpihcdaaaJa
namespace Go.Proofs.Ytpaigmmpihcdaaa
open Go.RowKit Go.Shelf
set_option linter.unusedVariables false

theorem rdyTo_zero (pr : Nat → List Nat) (left : Nat → Bool) (k : Nat) : rdyTo pr left 0 k = left k := by simp [rdyTo]

set_option maxHeartbeats 3200000 in
set_option maxRecDepth 100000 in
theorem QoReady_any (A : Option Addr) (c : Nat) (G : List Nd) (gl : Nat) (left : Nat → Bool) (hR : RightG G) (w : World) (hG : GAt w A G) (h : Whole w gl 4 (rowC (boolC left) G.length)) :
    Calls Try.prog 25 #[.slice A G.length c, .slice (some ⟨gl, 0, none⟩) G.length G.length] w fun e w' => ∃ g, e = .returned (.slice (some ⟨g, 0, none⟩) G.length G.length) ∧ OwB w w' g G.length (rdyB (prG G) G.length left) := by
  have hmk := make_bools G.length (by have := hR.len; omega) w
  have HKin := Lib.hid (kin_at hG hR)
  have HLt := Lib.hid (pr_lt hR)
  have HFew := Lib.hid hR.few
  have hlen := hR.len
  have HLf := Lib.hid (fun w' (f : Fr (fun _ => False) w w') k hk => (h.fr f (fun e => e)).rcell k hk)
  have HRs := Lib.hid (rdyTo_succ (prG G) left)
  have HRz := Lib.hid (rdyTo_zero (prG G) left)
  obtain ⟨N, hN⟩ : ∃ N, G.length = N := ⟨_, rfl⟩
  rw [hN] at hmk HKin HLt HFew hlen HLf ⊢
  have HRe : Hid (∀ k, rdyTo (prG G) left N k = rdyB (prG G) N left k) := Lib.hid (fun k => rfl)
  obtain ⟨w1, hw1⟩ : ∃ w1, w.alloc (.cells (rowC (boolC fun _ => false) N) 4) = w1 := ⟨_, rfl⟩
  rw [hw1] at hmk
  obtain ⟨g, hg⟩ : ∃ g, w.heap.size = g := ⟨_, rfl⟩
  have HO0 := Lib.hid (show OwB w w1 g N (fun _ => false) from ⟨by subst hw1; subst hg; exact Whole.new w 4 _, by subst hw1; exact (Fr.refl (fun _ => False) w).alloc _, by omega⟩)
  rw [hg] at hmk
  clear hG h hR hN hw1 hg
  go_enter Try.func25, Try.ntmps25
  go_upto_region 2 with fail
  clear hmk
  go_wp2
  go_loopg [6] N (fun kx s6 wr => ∃ k : Nat, s6 = .int .i64 k ∧ k ≤ N ∧ N - k ≤ kx ∧ Hid (OwB w wr g N (fun j => if j < k then left j else false)))
  case atStart => exact ⟨0, rfl, by omega, by omega, Lib.hid (by simpa using HO0.out)⟩
  case round =>
    obtain ⟨k, rfl, hk, hkx, HO⟩ := hrel
    obtain ⟨wo, rfl⟩ : ∃ wo, wo = wr := ⟨wr, rfl⟩
    have wk := wrap_nat1 k (by omega)
    by_cases hlt : k < N
    · have hltz : (k : Int) < N := by omega
      have hk0 : (0 : Int) ≤ (k : Int) := by omega
      have cl := HLf.out wo HO.out.old k hlt
      have cm := HO.out.row.rcell k hlt
      have fm := HO.out.row.frozen k
      simp only [boolC, Nat.lt_irrefl, if_false] at cl cm
      obtain ⟨b, hb⟩ : ∃ b, left k = b := ⟨_, rfl⟩
      rw [hb] at cl
      have HS := Lib.hid (HO.out.set k hlt b (fun j => if j < k + 1 then left j else false) (fun j hj => by
        by_cases e : j = k
        · subst e; rw [if_pos rfl, if_pos (by omega), hb]
        · rw [if_neg e]
          by_cases e2 : j < k
          · rw [if_pos e2, if_pos (by omega)]
          · rw [if_neg e2, if_neg (by omega)]))
      clear hb
      go_wp2
      go_roundg (N - (k + 1))
      case measure => omega
      case rel => exact ⟨k + 1, by go_num, by omega, Nat.le_refl _, HS⟩
    · obtain rfl : k = N := by omega
      have HO2 := Lib.hid (show OwB w wo g k (rdyTo (prG G) left 0) from ⟨by
        have := HO.out.row
        rwa [rowC_congr (f := boolC (rdyTo (prG G) left 0)) (fun j hj => by
          unfold boolC
          show Value.bool (if j < k then left j else false) = _
          rw [if_pos hj, HRz.out])] at this, HO.out.old, HO.out.new⟩)
      clear HO
      go_wp2
      go_loopg [7] k (fun kx s7 wr => ∃ n : Nat, s7 = .int .i64 n ∧ n ≤ k ∧ k - n ≤ kx ∧ Hid (OwB w wr g k (rdyTo (prG G) left n)))
      case atStart => exact ⟨0, rfl, by omega, by omega, HO2⟩
      case round =>
        obtain ⟨n, rfl, hn, hnx, HOn⟩ := hrel
        obtain ⟨wi, rfl⟩ : ∃ wi, wi = wr := ⟨wr, rfl⟩
        have wn := wrap_nat1 n (by omega)
        by_cases hnl : n < k
        · have hnz : (n : Int) < (k : Int) := by omega
          have hn0 : (0 : Int) ≤ (n : Int) := by omega
          obtain ⟨Ap, cp, hkin⟩ := HKin.out n hnl
          have HKi := Lib.hid hkin
          have hfew := HFew.out n hnl
          have HLt1 := Lib.hid (HLt.out n hnl)
          have HLn := Lib.hid (fun w' f => HLf.out w' f n hnl)
          have HRn := Lib.hid (HRs.out n)
          obtain ⟨ps, hps⟩ : ∃ ps, prG G n = ps := ⟨_, rfl⟩
          rw [hps] at hfew HLt1 HKi HRn
          obtain ⟨P, hP⟩ : ∃ P, ps.length = P := ⟨_, rfl⟩
          have HPp := Lib.hid hP
          rw [hP] at hfew HLt1 HKi
          simp only [boolC] at HLn
          obtain ⟨b, hb⟩ : ∃ b, left n = b := ⟨_, rfl⟩
          rw [hb] at HLn HRn
          clear hkin hps hP hb
          cases b
          · have cl := HLn.out wi HOn.out.old
            have HOm := Lib.hid (show OwB w wi g k (rdyTo (prG G) left (n + 1)) from by
              have e : rdyTo (prG G) left (n + 1) = rdyTo (prG G) left n := by funext j; rw [HRn.out]; simp
              rw [e]; exact HOn.out)
            go_wp2
            go_loopg [8] 1 (fun kx s8 wr => s8 = .int .i64 0 ∧ wi = wr)
            case atStart => exact ⟨rfl, rfl⟩
            case round =>
              obtain ⟨rfl, rfl⟩ := hrel
              go_wp2
              go_roundg (k - (n + 1))
              case measure => omega
              case rel => exact ⟨n + 1, by go_num, by omega, Nat.le_refl _, HOm⟩
          · obtain ⟨F, hF⟩ : ∃ F, rdyTo (prG G) left n = F := ⟨_, rfl⟩
            rw [hF] at HOn HRn
            clear hF
            go_wp2
            go_loopg [8] P (fun kx s8 wr => ∃ j : Nat, s8 = .int .i64 j ∧ j ≤ P ∧ P - j ≤ kx ∧ Hid (OwB w wr g k (fun i => F i && !decide (i ∈ ps.take j))))
            case atStart => exact ⟨0, rfl, by omega, by omega, Lib.hid (by simpa using HOn.out)⟩
            case round =>
              obtain ⟨j, rfl, hj, hjx, HOj⟩ := hrel
              obtain ⟨wj, rfl⟩ : ∃ wj, wj = wr := ⟨wr, rfl⟩
              have wj1 := wrap_nat1 j (by omega)
              have cl := HLn.out wj HOj.out.old
              obtain ⟨bb, o, hBk, ca, hpl⟩ := HKi.out wj HOj.out.old
              subst hBk
              by_cases hjP : j < P
              · have hjz : (j : Int) < P := by omega
                obtain ⟨b3, o3, hB3, cp3⟩ := hpl j hjP
                subst hB3
                have hxn := HLt1.out j hjP
                have HTk1 := Lib.hid (nat_snoc ps j (by rw [HPp.out]; exact hjP))
                obtain ⟨x, hxd⟩ : ∃ x, ps.getD j 0 = x := ⟨_, rfl⟩
                rw [hxd] at cp3 hxn HTk1
                have cm := HOj.out.row.rcell x (by omega)
                have fm := HOj.out.row.frozen x
                simp only [boolC] at cm
                obtain ⟨b4, hb4⟩ : ∃ b, (F x && !decide (x ∈ ps.take j)) = b := ⟨_, rfl⟩
                rw [hb4] at cm
                have hx0 : (0 : Int) ≤ (x : Int) := by omega
                have hxz : (x : Int) < (k : Int) := by omega
                have HS := Lib.hid (HOj.out.set x (by omega) false (fun i => F i && !decide (i ∈ ps.take (j + 1))) (fun i hi => by
                  rw [HTk1.out]
                  by_cases e : i = x
                  · simp [e]
                  · simp [e]))
                clear hxd hb4 hpl
                go_wp2
                go_roundg (P - (j + 1))
                case measure => omega
                case rel => exact ⟨j + 1, by go_num, by omega, Nat.le_refl _, HS⟩
              · obtain rfl : j = P := by omega
                have HOe := Lib.hid (show OwB w wj g k (rdyTo (prG G) left (n + 1)) from by
                  have e : rdyTo (prG G) left (n + 1) = fun i => F i && !decide (i ∈ ps.take j) := by
                    funext i
                    rw [HRn.out, ← HPp.out, List.take_length]
                    simp
                  rw [e]; exact HOj.out)
                clear hpl
                go_wp2
                go_roundg (k - (n + 1))
                case measure => omega
                case rel => exact ⟨n + 1, by go_num, by omega, Nat.le_refl _, HOe⟩
        · obtain rfl : n = k := by omega
          have HOf := Lib.hid (show OwB w wi g n (rdyB (prG G) n left) from by
            have e : rdyTo (prG G) left n = rdyB (prG G) n left := funext HRe.out
            rw [← e]; exact HOn.out)
          go_wp2
          go_ret
          exact ⟨g, rfl, HOf.out⟩

theorem yng_no {f : Nat → Bool} {t : Nat → Int} {n : Nat} (h : f n = false) : yng f t (n + 1) = yng f t n := by rw [yng, h]; rfl
theorem yng_first {f : Nat → Bool} {t : Nat → Int} {n : Nat} (h : f n = true) (h2 : yng f t n = none) : yng f t (n + 1) = some n := by rw [yng, if_pos h, h2]
theorem yng_more {f : Nat → Bool} {t : Nat → Int} {n m : Nat} (h : f n = true) (h2 : yng f t n = some m) (h3 : t m ≤ t n) : yng f t (n + 1) = some n := by rw [yng, if_pos h, h2]; simp only; rw [if_pos h3]
theorem yng_less {f : Nat → Bool} {t : Nat → Int} {n m : Nat} (h : f n = true) (h2 : yng f t n = some m) (h3 : ¬ t m ≤ t n) : yng f t (n + 1) = some m := by rw [yng, if_pos h, h2]; simp only; rw [if_neg h3]

set_option maxHeartbeats 3200000 in
set_option maxRecDepth 100000 in
theorem Qoyoungest_any (g N : Nat) (f : Nat → Bool) (B : Option Addr) (nb cB : Nat) (by' : List Int) (hN : N ≤ 1000) (hb : by'.length = nb) (hnb : N ≤ nb) (w : World) (h : Whole w g 4 (rowC (boolC f) N)) (hl : Lies w B (zC by')) :
    Calls Try.prog 22 #[.slice (some ⟨g, 0, none⟩) N N, .slice B nb cB] w fun e w' => e = .returned (.int .i64 (yV (yng f (fun n => by'.getD n 0) N))) ∧ Below w.heap.size w w' := by
  have HRw := Lib.hid (fun w' (q : Fr (fun _ => False) w w') k hk => (h.fr q (fun e => e)).rcell k hk)
  have HLz := Lib.hid (fun w' (q : Fr (fun _ => False) w w') k (hk : k < nb) => lies_int hl q k (by omega))
  obtain ⟨t, ht⟩ : ∃ t : Nat → Int, (fun n => by'.getD n 0) = t := ⟨_, rfl⟩
  have HT : Hid (∀ k, by'.getD k 0 = t k) := Lib.hid (fun k => by rw [← ht])
  rw [ht]
  have HM := Lib.hid (yng_mem f t)
  have Y1 := Lib.hid (fun n (h : f n = false) => yng_no (t := t) h)
  have Y2 := Lib.hid (fun n (h : f n = true) h2 => yng_first (t := t) h h2)
  have Y3 := Lib.hid (fun n m (h : f n = true) h2 h3 => yng_more (t := t) (n := n) (m := m) h h2 h3)
  have Y4 := Lib.hid (fun n m (h : f n = true) h2 h3 => yng_less (t := t) (n := n) (m := m) h h2 h3)
  have Y0 : Hid (yng f t 0 = none) := Lib.hid rfl
  clear h hl hb ht
  go_enter Try.func22, Try.ntmps22
  go_wp2
  go_loopg [5, 6] N (fun kx s5 s6 wr => ∃ (k : Nat) (o : Option Nat), s6 = .int .i64 k ∧ s5 = .int .i64 (yV o) ∧ k ≤ N ∧ N - k ≤ kx ∧ Hid (yng f t k = o) ∧ Hid (Fr (fun _ => False) w wr))
  case atStart => exact ⟨0, none, rfl, rfl, by omega, by omega, Y0, Lib.hid (Fr.refl _ _)⟩
  case round =>
    obtain ⟨k, o, rfl, rfl, hk, hkx, HY, HFr⟩ := hrel
    obtain ⟨wo, rfl⟩ : ∃ wo, wo = wr := ⟨wr, rfl⟩
    have wk := wrap_nat1 k (by omega)
    by_cases hlt : k < N
    · have hltz : (k : Int) < N := by omega
      have hk0 : (0 : Int) ≤ (k : Int) := by omega
      have hkn : (k : Int) < (nb : Int) := by omega
      have cl := HRw.out wo HFr.out k hlt
      simp only [boolC] at cl
      obtain ⟨b, hbb⟩ : ∃ b, f k = b := ⟨_, rfl⟩
      rw [hbb] at cl
      have HB := Lib.hid hbb
      clear hbb
      cases b
      · have HE := Lib.hid (show yng f t (k + 1) = o from by rw [Y1.out k HB.out]; exact HY.out)
        go_upto_region 5 with fail
        go_quiet (fail)
        go_wp2
        go_roundg (N - (k + 1))
        case measure => omega
        case rel => exact ⟨k + 1, o, by go_num, rfl, by omega, Nat.le_refl _, HE, Lib.hid (HFr.out.drewN _)⟩
      · cases o with
        | none =>
          have HE := Lib.hid (Y2.out k HB.out HY.out)
          simp only [yV]
          go_upto_region 5 with fail
          go_quiet (fail)
          go_wp2
          go_roundg (N - (k + 1))
          case measure => omega
          case rel => exact ⟨k + 1, some k, by go_num, rfl, by omega, Nat.le_refl _, HE, Lib.hid (HFr.out.drewN _)⟩
        | some m =>
          have hm := (HM.out k m HY.out).1
          simp only [yV]
          have hmz : ¬ ((m : Int) < 0) := by omega
          have hm0 : (0 : Int) ≤ (m : Int) := by omega
          have hmn : (m : Int) < (nb : Int) := by omega
          obtain ⟨b1, o1, hB1, c1⟩ := HLz.out wo HFr.out k (by omega)
          subst hB1
          obtain ⟨b2, o2, hB2, c2⟩ := HLz.out wo HFr.out m (by omega)
          injection hB2 with hB2
          injection hB2 with e1 e2
          subst e1; subst e2
          rw [HT.out k] at c1
          rw [HT.out m] at c2
          have HY3 := Lib.hid (Y3.out k m HB.out HY.out)
          have HY4 := Lib.hid (Y4.out k m HB.out HY.out)
          obtain ⟨x, hx⟩ : ∃ x, t k = x := ⟨_, rfl⟩
          obtain ⟨y, hy⟩ : ∃ y, t m = y := ⟨_, rfl⟩
          rw [hx] at c1 HY3 HY4
          rw [hy] at c2 HY3 HY4
          clear hx hy
          by_cases e : y ≤ x
          · have HE := Lib.hid (HY3.out e)
            have ed : decide (y ≤ x) = true := decide_eq_true e
            go_upto_region 5 with fail
            go_quiet (fail)
            go_wp2
            go_roundg (N - (k + 1))
            case measure => omega
            case rel => exact ⟨k + 1, some k, by go_num, rfl, by omega, Nat.le_refl _, HE, Lib.hid (HFr.out.drewN _)⟩
          · have HE := Lib.hid (HY4.out (by omega))
            have ed : decide (y ≤ x) = false := decide_eq_false e
            go_upto_region 5 with fail
            go_quiet (fail)
            go_wp2
            go_roundg (N - (k + 1))
            case measure => omega
            case rel => exact ⟨k + 1, some m, by go_num, rfl, by omega, Nat.le_refl _, HE, Lib.hid (HFr.out.drewN _)⟩
    · obtain rfl : k = N := by omega
      go_wp2
      go_ret
      exact ⟨by rw [HY.out]; rfl, HFr.out.below (fun _ _ e => e)⟩
end Go.Proofs.Ytpaigmmpihcdaaa

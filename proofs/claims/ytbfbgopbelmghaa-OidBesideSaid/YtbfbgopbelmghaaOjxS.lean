/- What is proved: the walk of the law OidBeside, for every list, every beginning, every least number. Conditions: the list's cells are there. -/
import Derived.Test.YtbfbgopbelmghaaOrw
import Derived.Test.YtbfbgopbelmghaaOjf
namespace Go.Proofs.Ytbfbgopbelmghaa
open Go.RowKit
set_option linter.unusedVariables false

theorem slice_cut (D : Nat → Nat) (n : Nat) (hn : n ≤ 64) (w : World) : (Instr.slice 9 (.string (hexS D)) none (some (.int .i64 n)) none).run Try.prog w = .ok (.string (cutS D n)) w :=
  run_slice_string_h w 9 (hexS D) Try.underlying9 .i64 n (by omega) (by rw [hexS_len]; omega)

set_option maxRecDepth 100000 in
set_option maxHeartbeats 6400000 in
theorem beside_walk (A : Option Addr) (cap : Nat) (ns : List Nat) {w : World} (hl : Lies w A (flatI ns)) (hb : ∀ n ∈ ns, n < big) (a : Nat) (N : Int) (ha : a < big) (h0 : -9223372036854775808 ≤ N) (h1 : N ≤ 9223372036854775807) (u : Int) (hu0 : 0 ≤ u) (hu1 : u ≤ 255) (hlen : ns.length ≤ 9223372036854775807) :
    Calls Try.prog 8 #[.slice A ns.length cap, .agg (pfC (dgt a) N), .int .u8 u] w fun e w' => e = .returned (.bool true) ∧ Below w.heap.size w w' := by
  obtain ⟨w1, hw1⟩ : ∃ w1, w.alloc (.cells (pfC (dgt a) N) 30) = w1 := ⟨_, rfl⟩
  have hF : Fr (fun _ => False) w w1 := by subst hw1; exact (Fr.refl _ w).alloc _
  have hX : Whole w1 w.heap.size 30 (pfC (dgt a) N) := by subst hw1; exact Whole.new w 30 _
  have hl1 := hl.fr hF (fun _ _ e => e)
  have HL := Lib.hid hl1
  have HB := Lib.hid hb
  have HF := Lib.hid hF
  have HA := Lib.hid ha
  have HNN := Lib.hid (And.intro h0 h1)
  obtain ⟨T32, hT32⟩ : ∃ T : TypeId, T = 23 := ⟨_, rfl⟩
  obtain ⟨T33, hT33⟩ : ∃ T : TypeId, T = 30 := ⟨_, rfl⟩
  obtain ⟨n32, hn32⟩ : ∃ n : Nat, n = 32 := ⟨_, rfl⟩
  obtain ⟨n33, hn33⟩ : ∃ n : Nat, n = 33 := ⟨_, rfl⟩
  have ag32 : ∀ w, (isAgg T32).run Try.prog w = .ok true w := by rw [hT32]; exact fun _ => by kernel_rfl
  have sz32 : ∀ w, (sizeOf T32).run Try.prog w = .ok n32 w := by rw [hT32, hn32]; exact fun _ => by kernel_rfl
  have ag33 : ∀ w, (isAgg T33).run Try.prog w = .ok true w := by rw [hT33]; exact fun _ => by kernel_rfl
  have sz33 : ∀ w, (sizeOf T33).run Try.prog w = .ok n33 w := by rw [hT33, hn33]; exact fun _ => by kernel_rfl
  have HN32 := Lib.hid hn32
  have HN33 := Lib.hid hn33
  have LP := Lib.hid (fun w' (f : Fr (fun _ => False) w1 w') => (load_later hX (by rw [pfC_size]; exact hn33) f ⟨w', Fr.refl _ _⟩ : (loadCellsFrom ⟨w.heap.size, 0, none⟩ 0 n33 #[]).run Try.prog w' = .ok (pfC (dgt a) N) w'))
  have LI := Lib.hid (fun w' (f : Fr (fun _ => False) w1 w') => (by
    have := load_first hX f (n := n32) (by rw [pfC_size, hn32]; decide)
    rw [hn32, pfC_ids, Array.toArray_toList] at this
    rw [hn32]; exact this : (loadCellsFrom ⟨w.heap.size, 0, none⟩ 0 n32 #[]).run Try.prog w' = .ok (idC (dgt a)) w'))
  have LN := Lib.hid (fun w' (f : Fr (fun _ => False) w1 w') => (by rw [(hX.fr f (fun e => e)).cell, pfC_N] : w'.cell? ⟨w.heap.size, 32, none⟩ = some (.int .i64 N)))
  by_cases hbig : 60 < ns.length
  · have hgt : (60 : Int) < (ns.length : Int) := by omega
    obtain ⟨cp, hcp⟩ : ∃ c, pfC (dgt a) N = c := ⟨_, rfl⟩
    obtain ⟨L, hL⟩ : ∃ L, ns.length = L := ⟨_, rfl⟩
    rw [hcp] at hw1 ⊢
    rw [hL] at hgt ⊢
    clear hF hX hl1 hcp hL hl hb hbig hT32 hT33 hn32 hn33
    go_enter Try.func8, Try.ntmps8
    go_wp2_with (go_at_call 15; refine (works_any _).mono ?_; rintro e w2 ⟨rfl, b2⟩)
    go_ret
    exact ⟨rfl, (HF.out.then_below b2).below (fun _ _ e => e)⟩
  · have hn200 : ns.length ≤ 1000 := by omega
    have hsp := srt_props ns
    have hsb : ∀ n ∈ srtN ns, n < big := fun n hn => hb n ((hsp.2.2 n).1 hn)
    obtain ⟨ss, hss⟩ : ∃ ss, srtN ns = ss := ⟨_, rfl⟩
    rw [hss] at hsp hsb
    have hs200 : ss.length ≤ 60 := by omega
    have HSB := Lib.hid hsb
    have HRS := Lib.hid hsp.1
    have C1 := Lib.hid (fun w' (h : Lies w' A (flatI ns)) => QSorted_any A cap ns hb hn200 w' h)
    have C2 := Lib.hid (fun w' A c (h : Lies w' A (flatI ss)) => ORange_any A c ss a N h0 h1 hsb ha (by omega) w' h)
    rw [hss] at C1
    obtain ⟨cp, hcp⟩ : ∃ c, pfC (dgt a) N = c := ⟨_, rfl⟩
    obtain ⟨ci, hci⟩ : ∃ c, idC (dgt a) = c := ⟨_, rfl⟩
    have HCI := Lib.hid hci
    obtain ⟨L, hL⟩ : ∃ L, ns.length = L := ⟨_, rfl⟩
    obtain ⟨S, hS⟩ : ∃ L, ss.length = L := ⟨_, rfl⟩
    have HSn := Lib.hid hS
    have hle : ¬ (60 : Int) < (L : Int) := by omega
    rw [hL] at C1 hlen ⊢
    rw [hS] at C2 hs200
    rw [hcp] at hw1 C2 LP ⊢
    rw [hci] at LI
    obtain ⟨f, hf⟩ : ∃ r, rgA ss a N = r := ⟨_, rfl⟩
    obtain ⟨t, ht⟩ : ∃ r, rgB ss a N = r := ⟨_, rfl⟩
    rw [hf, ht] at C2
    have HFT : Hid (∀ i, i < S → fitB a N (gt ss i) = decide (f ≤ i ∧ i < t)) := Lib.hid (fun i hi => by
      rw [← hf, ← ht]; exact (range_fit ss a N HRS.out i (by rw [hS]; exact hi)).1)
    clear hF hX hl1 hcp hci hL hS hl hb hbig hsp hsb hss ha h0 h1 hn32 hn33 hf ht hn200
    go_enter Try.func8, Try.ntmps8
    rw [show Op.load 30 (.tmp 4) = Op.load T33 (.tmp 4) by rw [hT33], show Op.load 23 (.tmp 34) = Op.load T32 (.tmp 34) by rw [hT32], show Op.load 23 (.tmp 40) = Op.load T32 (.tmp 40) by rw [hT32], show Op.load 23 (.tmp 55) = Op.load T32 (.tmp 55) by rw [hT32], show Op.load 23 (.tmp 79) = Op.load T32 (.tmp 79) by rw [hT32], show Op.load 30 (.tmp 12) = Op.load T33 (.tmp 12) by rw [hT33]]
    clear hT32 hT33
    go_wp2_with (first
      | (go_at_call 29; refine (C2.out w2 _ _ hlS).mono ?_; rintro e w3 ⟨rfl, b3⟩
         have F3 := Lib.hid (And.intro (F2.out.then_below b3) ((Fr.refl (fun _ => False) w2).then_below b3)))
      | (go_at_call 26; refine (C1.out w1 HL.out).mono ?_; rintro e w2 ⟨vS, rfl, hoS⟩
         obtain ⟨AS, cS, rfl, hlS, hfS⟩ := hoS.shape HSn.out
         have F2 := Lib.hid hfS
         have lp2 := LP.out w2 hfS
         clear hoS hfS))
    have HLS := Lib.hid (hlS.fr F3.out.2 (fun _ _ e => e))
    clear hw1 lp2 b3 hlS
    go_loopw [10] (fun i wr => ∃ k : Nat, k ≤ S ∧ i = .int .i64 k ∧ Fr (fun _ => False) w3 wr) (fun i _ => S - (intOf i).toNat)
    case atStart => exact ⟨0, by omega, rfl, Fr.refl _ _⟩
    case round =>
      obtain ⟨k, hk, rfl, hfr⟩ := hrel
      have HFr := Lib.hid hfr
      by_cases hlt : k < S
      · obtain ⟨b, o, hA⟩ := HLS.out.some_of (by rw [HSn.out]; omega)
        first | subst hA | (injection hA with hA; injection hA with hA1 hA2 hA3; subst hA1; subst hA2)
        have hgs := gt_some ss k (by rw [HSn.out]; exact hlt)
        have hyb := HSB.out _ (gt_mem ss k (by rw [HSn.out]; exact hlt))
        have hft := HFT.out k hlt
        have hha := has_at ss HRS.out k (by rw [HSn.out]; exact hlt)
        obtain ⟨hlo, h64, hal⟩ := short_alone ss (gt ss k) u hha
        obtain ⟨n, hn⟩ : ∃ n, shortN ss (gt ss k) u = n := ⟨_, rfl⟩
        have hsh := fun w' A c (h : Lies w' A (flatI ss)) => OShort_any A c ss (gt ss k) u (by omega) (by omega) HSB.out hyb (by rw [HSn.out]; omega) w' h
        rw [hn] at hlo h64 hal hsh
        have hbs := beside ss HRS.out HSB.out k (by rw [HSn.out]; exact hlt) n h64 hal
        have hfi := fun w => QFits_any a (gt ss k) HA.out hyb N HNN.out.1 HNN.out.2 w
        rw [hft] at hfi
        obtain ⟨y, hy⟩ : ∃ y, gt ss k = y := ⟨_, rfl⟩
        rw [hy] at hgs hyb hsh hbs hfi
        have hzb := nu_lt (cutD y n) (cutD_lt y n)
        have hrg := fun w' A c (h : Lies w' A (flatI ss)) => ORange_any A c ss (nu (cutD y n)) n (by omega) (by omega) HSB.out hzb (by rw [HSn.out]; omega) w' h
        rw [hbs.1, hbs.2] at hrg
        have hbe := fun w => OBegin_any (cutS (dgt y) n) (by rw [cutS_size _ n h64]; omega) w
        rw [(beg_cut y n h64).1, (beg_cut y n h64).2] at hbe
        have hhx := fun w => QHex_any (dgt y) (dgt_lt y) w
        have hsl := fun w => slice_cut (dgt y) n h64 w
        have LY := Lib.hid (fun w' (f : Fr (fun _ => False) w3 w') => (by rw [HN32.out]; exact load_at HLS.out hgs f : (loadCellsFrom ⟨b, o + k * 32, none⟩ 0 n32 #[]).run Try.prog w' = .ok (idC (dgt y)) w'))
        obtain ⟨cz, hcz⟩ : ∃ c, pfC (dgt (nu (cutD y n))) n = c := ⟨_, rfl⟩
        have hczs : cz.size = 33 := by rw [← hcz]; exact pfC_size _ _
        have hcz1 : cz.all (·.oneCell') = true := by rw [← hcz]; exact pfC_one _ _
        obtain ⟨cy, hcy⟩ : ∃ c, idC (dgt y) = c := ⟨_, rfl⟩
        obtain ⟨sx, hsx⟩ : ∃ c, hexS (dgt y) = c := ⟨_, rfl⟩
        obtain ⟨sc, hsc⟩ : ∃ c, cutS (dgt y) n = c := ⟨_, rfl⟩
        rw [hcz] at hrg hbe
        rw [hcy] at hsh hfi hhx LY
        rw [hsx] at hhx hsl
        rw [hsc] at hbe hsl
        rw [HSn.out] at hsh hrg
        rw [HCI.out] at hfi
        have CS := Lib.hid hsh
        have CR := Lib.hid hrg
        have CB := Lib.hid hbe
        have CH := Lib.hid hhx
        have HCZ := Lib.hid (And.intro hczs hcz1)
        have hk0 : (k : Int) < S := by omega
        have wk := wrap_nat k (by omega)
        have wk1 := wrap_nat1 k (by omega)
        have wu : IntKind.i64.wrap u = u := by rw [IntKind.wrap_i64]; omega
        have hn0 : decide ((n : Int) < 0) = false := decide_eq_false (by omega)
        have hn6 : decide ((64 : Int) < (n : Int)) = false := decide_eq_false (by omega)
        have l1 : ∀ q : Later wr, (loadCellsFrom ⟨b, o + k * 32, none⟩ 0 n32 #[]).run Try.prog q.w' = .ok cy q.w' := fun q => LY.out _ (HFr.out.trans q.fr (fun _ _ e => e))
        have l2 : ∀ q : Later wr, (loadCellsFrom ⟨w.heap.size, 0, none⟩ 0 n32 #[]).run Try.prog q.w' = .ok ci q.w' := fun q => LI.out _ (F3.out.1.trans (HFr.out.trans q.fr (fun _ _ e => e)) (fun _ _ e => e))
        have c1 : ∀ q : Later wr, q.w'.cell? ⟨w.heap.size, 32, none⟩ = some (.int .i64 N) := fun q => LN.out _ (F3.out.1.trans (HFr.out.trans q.fr (fun _ _ e => e)) (fun _ _ e => e))
        have CFi := Lib.hid hfi
        clear hgs hyb hft hha hal hn hbs hzb hcz hcy hsx hsc hsh hrg hbe hhx hfi hczs hcz1 hy hfr
        by_cases d0 : (n : Int) < u
        · have hd4 : decide (u < 64) = false := decide_eq_false (by unfold loN at hlo; omega)
          have hd3 : decide ((n : Int) < u) = true := decide_eq_true d0
          clear hlo h64
          (
            by_cases d1 : f ≤ k
            · have e1 : decide (f ≤ k) = true := decide_eq_true d1
              by_cases d2 : k < t
              · have dd : decide (f ≤ k ∧ k < t) = true := decide_eq_true ⟨d1, d2⟩
                have e2 : decide (k < t) = true := decide_eq_true d2
                rw [dd] at CFi
                clear dd
                (
                  go_wp2_with fail
                  refine wp_region_later (w0 := wr) (Fr.refl _ _) (by kernel_rfl) (by kernel_rfl) ?_
                  repeat (quiet_step ((go_at_call 19; refine Calls.later_of (CFi.out _))))
                  refine wpQuiet_nil ?_
                  intro _ hw'
                  obtain ⟨q, hw''⟩ := hw'
                  subst hw''
                  obtain ⟨wq, hwq⟩ : ∃ wq, q.w' = wq := ⟨_, rfl⟩
                  have HFq := Lib.hid (by rw [← hwq]; exact HFr.out.trans q.fr (fun _ _ e => e) : Fr (fun _ => False) w3 wq)
                  rw [hwq]
                  clear hwq l1 l2 c1
                  have m1 := LY.out wq HFq.out
                  go_wp2_with (first
                    | (go_at_call 29; refine (CR.out w7 _ _ (HLS.out.fr G7.out (fun _ _ e => e))).mono ?_; rintro e w8 ⟨rfl, b8⟩
                       have G8 := Lib.hid (G7.out.then_below b8))
                    | (refine wpList_store_at rfl 30 _ _ rfl w6.heap.size 0 30 _ cz rfl rfl (Whole.new w6 30 zero33) (by rw [HCZ.out.1]; decide) (by rw [HCZ.out.1]; exact size33) HCZ.out.2 ?_
                       intro w7 hw7 hf7
                       rw [laidAt_all _ _ (by rw [HCZ.out.1]; rfl)] at hw7
                       have G7 := Lib.hid ((G6.out.alloc (.cells zero33 30)).trans hf7 (fun i hi e => by have := G6.out.size; omega))
                       have m3 : (loadCellsFrom ⟨w6.heap.size, 0, none⟩ 0 n33 #[]).run Try.prog w7 = .ok cz w7 := load_later hw7 (by rw [HCZ.out.1]; exact HN33.out) (Fr.refl _ _) ⟨w7, Fr.refl _ _⟩)
                    | (go_at_call 11; refine (CB.out w5).mono ?_; rintro e w6 ⟨rfl, b6⟩
                       have G6 := Lib.hid (G5.out.then_below b6))
                    | (go_at_call 14; refine (CH.out w4).mono ?_; rintro e w5 ⟨rfl, b5⟩
                       have G5 := Lib.hid (G4.out.then_below b5))
                    | (go_at_call 31; refine (CS.out wq _ _ (HLS.out.fr HFq.out (fun _ _ e => e))).mono ?_; rintro e w4 ⟨rfl, b4⟩
                       have G4 := Lib.hid (HFq.out.then_below b4)
                       have m2 := LY.out w4 G4.out))
                  go_roundw
                  case rel => exact ⟨k + 1, by omega, by go_num, G8.out⟩
                  case measure => simp [intOf]; omega)
              · have dd : decide (f ≤ k ∧ k < t) = false := decide_eq_false (fun h => d2 h.2)
                have e2 : decide (k < t) = false := decide_eq_false d2
                rw [dd] at CFi
                clear dd
                (
                  go_wp2_with fail
                  refine wp_region_later (w0 := wr) (Fr.refl _ _) (by kernel_rfl) (by kernel_rfl) ?_
                  repeat (quiet_step ((go_at_call 19; refine Calls.later_of (CFi.out _))))
                  refine wpQuiet_nil ?_
                  intro _ hw'
                  obtain ⟨q, hw''⟩ := hw'
                  subst hw''
                  obtain ⟨wq, hwq⟩ : ∃ wq, q.w' = wq := ⟨_, rfl⟩
                  have HFq := Lib.hid (by rw [← hwq]; exact HFr.out.trans q.fr (fun _ _ e => e) : Fr (fun _ => False) w3 wq)
                  rw [hwq]
                  clear hwq l1 l2 c1
                  have m1 := LY.out wq HFq.out
                  go_wp2_with (first
                    | (go_at_call 29; refine (CR.out w7 _ _ (HLS.out.fr G7.out (fun _ _ e => e))).mono ?_; rintro e w8 ⟨rfl, b8⟩
                       have G8 := Lib.hid (G7.out.then_below b8))
                    | (refine wpList_store_at rfl 30 _ _ rfl w6.heap.size 0 30 _ cz rfl rfl (Whole.new w6 30 zero33) (by rw [HCZ.out.1]; decide) (by rw [HCZ.out.1]; exact size33) HCZ.out.2 ?_
                       intro w7 hw7 hf7
                       rw [laidAt_all _ _ (by rw [HCZ.out.1]; rfl)] at hw7
                       have G7 := Lib.hid ((G6.out.alloc (.cells zero33 30)).trans hf7 (fun i hi e => by have := G6.out.size; omega))
                       have m3 : (loadCellsFrom ⟨w6.heap.size, 0, none⟩ 0 n33 #[]).run Try.prog w7 = .ok cz w7 := load_later hw7 (by rw [HCZ.out.1]; exact HN33.out) (Fr.refl _ _) ⟨w7, Fr.refl _ _⟩)
                    | (go_at_call 11; refine (CB.out w5).mono ?_; rintro e w6 ⟨rfl, b6⟩
                       have G6 := Lib.hid (G5.out.then_below b6))
                    | (go_at_call 14; refine (CH.out w4).mono ?_; rintro e w5 ⟨rfl, b5⟩
                       have G5 := Lib.hid (G4.out.then_below b5))
                    | (go_at_call 31; refine (CS.out wq _ _ (HLS.out.fr HFq.out (fun _ _ e => e))).mono ?_; rintro e w4 ⟨rfl, b4⟩
                       have G4 := Lib.hid (HFq.out.then_below b4)
                       have m2 := LY.out w4 G4.out))
                  go_roundw
                  case rel => exact ⟨k + 1, by omega, by go_num, G8.out⟩
                  case measure => simp [intOf]; omega)
            · have dd : decide (f ≤ k ∧ k < t) = false := decide_eq_false (fun h => d1 h.1)
              have e1 : decide (f ≤ k) = false := decide_eq_false d1
              rw [dd] at CFi
              clear dd
              (
                go_wp2_with fail
                refine wp_region_later (w0 := wr) (Fr.refl _ _) (by kernel_rfl) (by kernel_rfl) ?_
                repeat (quiet_step ((go_at_call 19; refine Calls.later_of (CFi.out _))))
                refine wpQuiet_nil ?_
                intro _ hw'
                obtain ⟨q, hw''⟩ := hw'
                subst hw''
                obtain ⟨wq, hwq⟩ : ∃ wq, q.w' = wq := ⟨_, rfl⟩
                have HFq := Lib.hid (by rw [← hwq]; exact HFr.out.trans q.fr (fun _ _ e => e) : Fr (fun _ => False) w3 wq)
                rw [hwq]
                clear hwq l1 l2 c1
                have m1 := LY.out wq HFq.out
                go_wp2_with (first
                  | (go_at_call 29; refine (CR.out w7 _ _ (HLS.out.fr G7.out (fun _ _ e => e))).mono ?_; rintro e w8 ⟨rfl, b8⟩
                     have G8 := Lib.hid (G7.out.then_below b8))
                  | (refine wpList_store_at rfl 30 _ _ rfl w6.heap.size 0 30 _ cz rfl rfl (Whole.new w6 30 zero33) (by rw [HCZ.out.1]; decide) (by rw [HCZ.out.1]; exact size33) HCZ.out.2 ?_
                     intro w7 hw7 hf7
                     rw [laidAt_all _ _ (by rw [HCZ.out.1]; rfl)] at hw7
                     have G7 := Lib.hid ((G6.out.alloc (.cells zero33 30)).trans hf7 (fun i hi e => by have := G6.out.size; omega))
                     have m3 : (loadCellsFrom ⟨w6.heap.size, 0, none⟩ 0 n33 #[]).run Try.prog w7 = .ok cz w7 := load_later hw7 (by rw [HCZ.out.1]; exact HN33.out) (Fr.refl _ _) ⟨w7, Fr.refl _ _⟩)
                  | (go_at_call 11; refine (CB.out w5).mono ?_; rintro e w6 ⟨rfl, b6⟩
                     have G6 := Lib.hid (G5.out.then_below b6))
                  | (go_at_call 14; refine (CH.out w4).mono ?_; rintro e w5 ⟨rfl, b5⟩
                     have G5 := Lib.hid (G4.out.then_below b5))
                  | (go_at_call 31; refine (CS.out wq _ _ (HLS.out.fr HFq.out (fun _ _ e => e))).mono ?_; rintro e w4 ⟨rfl, b4⟩
                     have G4 := Lib.hid (HFq.out.then_below b4)
                     have m2 := LY.out w4 G4.out))
                go_roundw
                case rel => exact ⟨k + 1, by omega, by go_num, G8.out⟩
                case measure => simp [intOf]; omega))
        · have hd3 : decide ((n : Int) < u) = false := decide_eq_false d0
          clear hlo h64
          (
            by_cases d1 : f ≤ k
            · have e1 : decide (f ≤ k) = true := decide_eq_true d1
              by_cases d2 : k < t
              · have dd : decide (f ≤ k ∧ k < t) = true := decide_eq_true ⟨d1, d2⟩
                have e2 : decide (k < t) = true := decide_eq_true d2
                rw [dd] at CFi
                clear dd
                (
                  go_wp2_with fail
                  refine wp_region_later (w0 := wr) (Fr.refl _ _) (by kernel_rfl) (by kernel_rfl) ?_
                  repeat (quiet_step ((go_at_call 19; refine Calls.later_of (CFi.out _))))
                  refine wpQuiet_nil ?_
                  intro _ hw'
                  obtain ⟨q, hw''⟩ := hw'
                  subst hw''
                  obtain ⟨wq, hwq⟩ : ∃ wq, q.w' = wq := ⟨_, rfl⟩
                  have HFq := Lib.hid (by rw [← hwq]; exact HFr.out.trans q.fr (fun _ _ e => e) : Fr (fun _ => False) w3 wq)
                  rw [hwq]
                  clear hwq l1 l2 c1
                  have m1 := LY.out wq HFq.out
                  go_wp2_with (first
                    | (go_at_call 29; refine (CR.out w7 _ _ (HLS.out.fr G7.out (fun _ _ e => e))).mono ?_; rintro e w8 ⟨rfl, b8⟩
                       have G8 := Lib.hid (G7.out.then_below b8))
                    | (refine wpList_store_at rfl 30 _ _ rfl w6.heap.size 0 30 _ cz rfl rfl (Whole.new w6 30 zero33) (by rw [HCZ.out.1]; decide) (by rw [HCZ.out.1]; exact size33) HCZ.out.2 ?_
                       intro w7 hw7 hf7
                       rw [laidAt_all _ _ (by rw [HCZ.out.1]; rfl)] at hw7
                       have G7 := Lib.hid ((G6.out.alloc (.cells zero33 30)).trans hf7 (fun i hi e => by have := G6.out.size; omega))
                       have m3 : (loadCellsFrom ⟨w6.heap.size, 0, none⟩ 0 n33 #[]).run Try.prog w7 = .ok cz w7 := load_later hw7 (by rw [HCZ.out.1]; exact HN33.out) (Fr.refl _ _) ⟨w7, Fr.refl _ _⟩)
                    | (go_at_call 11; refine (CB.out w5).mono ?_; rintro e w6 ⟨rfl, b6⟩
                       have G6 := Lib.hid (G5.out.then_below b6))
                    | (go_at_call 14; refine (CH.out w4).mono ?_; rintro e w5 ⟨rfl, b5⟩
                       have G5 := Lib.hid (G4.out.then_below b5))
                    | (go_at_call 31; refine (CS.out wq _ _ (HLS.out.fr HFq.out (fun _ _ e => e))).mono ?_; rintro e w4 ⟨rfl, b4⟩
                       have G4 := Lib.hid (HFq.out.then_below b4)
                       have m2 := LY.out w4 G4.out))
                  go_roundw
                  case rel => exact ⟨k + 1, by omega, by go_num, G8.out⟩
                  case measure => simp [intOf]; omega)
              · have dd : decide (f ≤ k ∧ k < t) = false := decide_eq_false (fun h => d2 h.2)
                have e2 : decide (k < t) = false := decide_eq_false d2
                rw [dd] at CFi
                clear dd
                (
                  go_wp2_with fail
                  refine wp_region_later (w0 := wr) (Fr.refl _ _) (by kernel_rfl) (by kernel_rfl) ?_
                  repeat (quiet_step ((go_at_call 19; refine Calls.later_of (CFi.out _))))
                  refine wpQuiet_nil ?_
                  intro _ hw'
                  obtain ⟨q, hw''⟩ := hw'
                  subst hw''
                  obtain ⟨wq, hwq⟩ : ∃ wq, q.w' = wq := ⟨_, rfl⟩
                  have HFq := Lib.hid (by rw [← hwq]; exact HFr.out.trans q.fr (fun _ _ e => e) : Fr (fun _ => False) w3 wq)
                  rw [hwq]
                  clear hwq l1 l2 c1
                  have m1 := LY.out wq HFq.out
                  go_wp2_with (first
                    | (go_at_call 29; refine (CR.out w7 _ _ (HLS.out.fr G7.out (fun _ _ e => e))).mono ?_; rintro e w8 ⟨rfl, b8⟩
                       have G8 := Lib.hid (G7.out.then_below b8))
                    | (refine wpList_store_at rfl 30 _ _ rfl w6.heap.size 0 30 _ cz rfl rfl (Whole.new w6 30 zero33) (by rw [HCZ.out.1]; decide) (by rw [HCZ.out.1]; exact size33) HCZ.out.2 ?_
                       intro w7 hw7 hf7
                       rw [laidAt_all _ _ (by rw [HCZ.out.1]; rfl)] at hw7
                       have G7 := Lib.hid ((G6.out.alloc (.cells zero33 30)).trans hf7 (fun i hi e => by have := G6.out.size; omega))
                       have m3 : (loadCellsFrom ⟨w6.heap.size, 0, none⟩ 0 n33 #[]).run Try.prog w7 = .ok cz w7 := load_later hw7 (by rw [HCZ.out.1]; exact HN33.out) (Fr.refl _ _) ⟨w7, Fr.refl _ _⟩)
                    | (go_at_call 11; refine (CB.out w5).mono ?_; rintro e w6 ⟨rfl, b6⟩
                       have G6 := Lib.hid (G5.out.then_below b6))
                    | (go_at_call 14; refine (CH.out w4).mono ?_; rintro e w5 ⟨rfl, b5⟩
                       have G5 := Lib.hid (G4.out.then_below b5))
                    | (go_at_call 31; refine (CS.out wq _ _ (HLS.out.fr HFq.out (fun _ _ e => e))).mono ?_; rintro e w4 ⟨rfl, b4⟩
                       have G4 := Lib.hid (HFq.out.then_below b4)
                       have m2 := LY.out w4 G4.out))
                  go_roundw
                  case rel => exact ⟨k + 1, by omega, by go_num, G8.out⟩
                  case measure => simp [intOf]; omega)
            · have dd : decide (f ≤ k ∧ k < t) = false := decide_eq_false (fun h => d1 h.1)
              have e1 : decide (f ≤ k) = false := decide_eq_false d1
              rw [dd] at CFi
              clear dd
              (
                go_wp2_with fail
                refine wp_region_later (w0 := wr) (Fr.refl _ _) (by kernel_rfl) (by kernel_rfl) ?_
                repeat (quiet_step ((go_at_call 19; refine Calls.later_of (CFi.out _))))
                refine wpQuiet_nil ?_
                intro _ hw'
                obtain ⟨q, hw''⟩ := hw'
                subst hw''
                obtain ⟨wq, hwq⟩ : ∃ wq, q.w' = wq := ⟨_, rfl⟩
                have HFq := Lib.hid (by rw [← hwq]; exact HFr.out.trans q.fr (fun _ _ e => e) : Fr (fun _ => False) w3 wq)
                rw [hwq]
                clear hwq l1 l2 c1
                have m1 := LY.out wq HFq.out
                go_wp2_with (first
                  | (go_at_call 29; refine (CR.out w7 _ _ (HLS.out.fr G7.out (fun _ _ e => e))).mono ?_; rintro e w8 ⟨rfl, b8⟩
                     have G8 := Lib.hid (G7.out.then_below b8))
                  | (refine wpList_store_at rfl 30 _ _ rfl w6.heap.size 0 30 _ cz rfl rfl (Whole.new w6 30 zero33) (by rw [HCZ.out.1]; decide) (by rw [HCZ.out.1]; exact size33) HCZ.out.2 ?_
                     intro w7 hw7 hf7
                     rw [laidAt_all _ _ (by rw [HCZ.out.1]; rfl)] at hw7
                     have G7 := Lib.hid ((G6.out.alloc (.cells zero33 30)).trans hf7 (fun i hi e => by have := G6.out.size; omega))
                     have m3 : (loadCellsFrom ⟨w6.heap.size, 0, none⟩ 0 n33 #[]).run Try.prog w7 = .ok cz w7 := load_later hw7 (by rw [HCZ.out.1]; exact HN33.out) (Fr.refl _ _) ⟨w7, Fr.refl _ _⟩)
                  | (go_at_call 11; refine (CB.out w5).mono ?_; rintro e w6 ⟨rfl, b6⟩
                     have G6 := Lib.hid (G5.out.then_below b6))
                  | (go_at_call 14; refine (CH.out w4).mono ?_; rintro e w5 ⟨rfl, b5⟩
                     have G5 := Lib.hid (G4.out.then_below b5))
                  | (go_at_call 31; refine (CS.out wq _ _ (HLS.out.fr HFq.out (fun _ _ e => e))).mono ?_; rintro e w4 ⟨rfl, b4⟩
                     have G4 := Lib.hid (HFq.out.then_below b4)
                     have m2 := LY.out w4 G4.out))
                go_roundw
                case rel => exact ⟨k + 1, by omega, by go_num, G8.out⟩
                case measure => simp [intOf]; omega))
      · have hk0 : ¬ (k : Int) < S := by omega
        clear hfr
        go_wp2_with (go_at_call 15; refine (works_any _).mono ?_; rintro e w4 ⟨rfl, b4⟩)
        go_ret
        exact ⟨rfl, ((HF.out.trans F3.out.1 (fun _ _ e => e)).trans (HFr.out.then_below b4) (fun _ _ e => e)).below (fun _ _ e => e)⟩
end Go.Proofs.Ytbfbgopbelmghaa

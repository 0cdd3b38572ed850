/- What is proved: the walk of the law OidRanges, for every question. Conditions: the list's cells are there. -/
import Derived.Test.YtbfbgopbelmghaaOka
import Derived.Test.YtbfbgopbelmghaaOjf
namespace Go.Proofs.Ytbfbgopbelmghaa
open Go.RowKit
set_option linter.unusedVariables false

set_option maxRecDepth 100000 in
set_option maxHeartbeats 6400000 in
theorem ranges_walk (A : Option Addr) (cap : Nat) (ns : List Nat) {w : World} (hl : Lies w A (flatI ns)) (hb : ∀ n ∈ ns, n < big) (a : Nat) (N : Int) (x : Nat) (least : Int) (ha : a < big) (h0 : -9223372036854775808 ≤ N) (h1 : N ≤ 9223372036854775807) (hx : x < big) (g0 : -9223372036854775808 ≤ least) (g1 : least ≤ 9223372036854775807) (hlen : ns.length ≤ 9223372036854775807) :
    Calls Try.prog 7 #[.agg (askC A cap ns a N x least)] w fun e w' => e = .returned (.bool true) ∧ Below w.heap.size w w' := by
  obtain ⟨w1, hw1⟩ : ∃ w1, w.alloc (.cells (askC A cap ns a N x least) 52) = w1 := ⟨_, rfl⟩
  have hF : Fr (fun _ => False) w w1 := by subst hw1; exact (Fr.refl _ w).alloc _
  have hX : Whole w1 w.heap.size 52 (askC A cap ns a N x least) := by subst hw1; exact Whole.new w 52 _
  have hl1 := hl.fr hF (fun _ _ e => e)
  have HL := Lib.hid hl1
  have HB := Lib.hid hb
  have HF := Lib.hid hF
  have HXB := Lib.hid hx
  obtain ⟨T32, hT32⟩ : ∃ T : TypeId, T = 23 := ⟨_, rfl⟩
  obtain ⟨T33, hT33⟩ : ∃ T : TypeId, T = 30 := ⟨_, rfl⟩
  obtain ⟨n32, hn32⟩ : ∃ n : Nat, n = 32 := ⟨_, rfl⟩
  obtain ⟨n33, hn33⟩ : ∃ n : Nat, n = 33 := ⟨_, rfl⟩
  have ag32 : ∀ w, (isAgg T32).run Try.prog w = .ok true w := by rw [hT32]; exact fun _ => by kernel_rfl
  have sz32 : ∀ w, (sizeOf T32).run Try.prog w = .ok n32 w := by rw [hT32, hn32]; exact fun _ => by kernel_rfl
  have ag33 : ∀ w, (isAgg T33).run Try.prog w = .ok true w := by rw [hT33]; exact fun _ => by kernel_rfl
  have sz33 : ∀ w, (sizeOf T33).run Try.prog w = .ok n33 w := by rw [hT33, hn33]; exact fun _ => by kernel_rfl
  have c0 : ∀ q : Later w1, q.w'.cell? ⟨w.heap.size, 0, none⟩ = some (.slice A ns.length cap) := fun q => by rw [(hX.fr q.fr (fun e => e)).cell, askC_first]
  have c3 : ∀ q : Later w1, q.w'.cell? ⟨w.heap.size, 66, none⟩ = some (.int .i64 least) := fun q => by rw [(hX.fr q.fr (fun e => e)).cell, askC_last]
  have c1 : ∀ q : Later w1, (loadCellsFrom ⟨w.heap.size, 1, none⟩ 0 n33 #[]).run Try.prog q.w' = .ok (pfC (dgt a) N) q.w' := fun q => load_mid hX q.fr (by rw [hn33, pfC_size]) (fun j v h => askC_pfx A cap ns a N x least j v h)
  have c2 : ∀ q : Later w1, (loadCellsFrom ⟨w.heap.size, 34, none⟩ 0 n32 #[]).run Try.prog q.w' = .ok (idC (dgt x)) q.w' := fun q => load_mid hX q.fr (by rw [hn32, idC_size]) (fun j v h => askC_id A cap ns a N x least j v h)
  have HN32 := Lib.hid hn32
  have HN33 := Lib.hid hn33
  obtain ⟨cp, hcp⟩ : ∃ c, pfC (dgt a) N = c := ⟨_, rfl⟩
  obtain ⟨cx, hcx⟩ : ∃ c, idC (dgt x) = c := ⟨_, rfl⟩
  obtain ⟨cq, hcq⟩ : ∃ c, askC A cap ns a N x least = c := ⟨_, rfl⟩
  have HCP := Lib.hid hcp
  have HCX := Lib.hid hcx
  have hcps : cp.size = 33 := by rw [← hcp]; exact pfC_size _ _
  have hcp1 : cp.all (·.oneCell') = true := by rw [← hcp]; exact pfC_one _ _
  have hcxs : cx.size = 32 := by rw [← hcx]; exact idC_size _
  have hcx1 : cx.all (·.oneCell') = true := by rw [← hcx]; exact idC_one _
  rw [hcp] at c1
  rw [hcx] at c2
  rw [hcq] at hw1 ⊢
  obtain ⟨L, hL⟩ : ∃ L, ns.length = L := ⟨_, rfl⟩
  have HLn := Lib.hid hL
  rw [hL] at c0 hlen
  clear hF hX hl hb hl1 hx hcp hcx hcq hL hn32 hn33
  go_enter Try.func7, Try.ntmps7
  rw [show Op.load 30 (.tmp 18) = Op.load T33 (.tmp 18) by rw [hT33], show Op.load 23 (.tmp 20) = Op.load T32 (.tmp 20) by rw [hT32], show Op.load 30 (.tmp 4) = Op.load T33 (.tmp 4) by rw [hT33], show Op.load 23 (.tmp 36) = Op.load T32 (.tmp 36) by rw [hT32], show Op.load 23 (.tmp 53) = Op.load T32 (.tmp 53) by rw [hT32], show Op.load 23 (.tmp 5) = Op.load T32 (.tmp 5) by rw [hT32]]
  clear hT32 hT33
  go_wp2_with fail
  clear hw1
  refine wp_region_held (S := fun w' => ∃ q : Later w1, w' = q.w') (by kernel_rfl) ?_
  (
    refine wpAnyH_take (i := 0) (v := .pointer (some ⟨w.heap.size, 0, none⟩)) rfl (by kernel_rfl) (by kernel_rfl) (by kernel_rfl) (fun _ _ _ h => h) (.inl ⟨by rfl, ?_⟩) ⟨⟨_, (Fr.refl _ w1).drew⟩, rfl⟩ ?_
    · rintro _ ⟨q, rfl⟩
      go_simp)
  (
    refine wpAnyH_take (i := 1) (v := .slice A L cap) rfl (by kernel_rfl) (by kernel_rfl) (by kernel_rfl) (fun _ _ _ h => h) (.inl ⟨by rfl, ?_⟩) ⟨⟨_, (Fr.refl _ w1).drew⟩, rfl⟩ ?_
    · rintro _ ⟨q, rfl⟩
      go_simp)
  (
    refine wpAnyH_take (i := 2) (v := .pointer (some ⟨w.heap.size, 1, none⟩)) rfl (by kernel_rfl) (by kernel_rfl) (by kernel_rfl) (fun _ _ _ h => h) (.inl ⟨by rfl, ?_⟩) ⟨⟨_, (Fr.refl _ w1).drew⟩, rfl⟩ ?_
    · rintro _ ⟨q, rfl⟩
      go_simp)
  (
    refine wpAnyH_take (i := 3) (v := .agg cp) rfl (by kernel_rfl) (by kernel_rfl) (by kernel_rfl) (fun _ _ _ h => h) (.inl ⟨by rfl, ?_⟩) ⟨⟨_, (Fr.refl _ w1).drew⟩, rfl⟩ ?_
    · rintro _ ⟨q, rfl⟩
      go_simp)
  (
    refine wpAnyH_take (i := 4) (v := .pointer (some ⟨w.heap.size, 34, none⟩)) rfl (by kernel_rfl) (by kernel_rfl) (by kernel_rfl) (fun _ _ _ h => h) (.inl ⟨by rfl, ?_⟩) ⟨⟨_, (Fr.refl _ w1).drew⟩, rfl⟩ ?_
    · rintro _ ⟨q, rfl⟩
      go_simp)
  (
    refine wpAnyH_take (i := 5) (v := .agg cx) rfl (by kernel_rfl) (by kernel_rfl) (by kernel_rfl) (fun _ _ _ h => h) (.inl ⟨by rfl, ?_⟩) ⟨⟨_, (Fr.refl _ w1).drew⟩, rfl⟩ ?_
    · rintro _ ⟨q, rfl⟩
      go_simp)
  (
    refine wpAnyH_take (i := 6) (v := .pointer (some ⟨w.heap.size, 66, none⟩)) rfl (by kernel_rfl) (by kernel_rfl) (by kernel_rfl) (fun _ _ _ h => h) (.inl ⟨by rfl, ?_⟩) ⟨⟨_, (Fr.refl _ w1).drew⟩, rfl⟩ ?_
    · rintro _ ⟨q, rfl⟩
      go_simp)
  (
    refine wpAnyH_take (i := 7) (v := .int .i64 least) rfl (by kernel_rfl) (by kernel_rfl) (by kernel_rfl) (fun _ _ _ h => h) (.inl ⟨by rfl, ?_⟩) ⟨⟨_, (Fr.refl _ w1).drew⟩, rfl⟩ ?_
    · rintro _ ⟨q, rfl⟩
      go_simp)
  refine wpAnyH_all (rs := [8, 9]) (by kernel_rfl) (by simp) ?_
  intro i hi
  simp only [List.mem_cons, List.not_mem_nil, or_false] at hi
  rcases hi with rfl | rfl
  · (
    refine wpOp_step rfl (fun K hK => ?_)
    go_simp
    refine hK _ _ ⟨⟨⟨_, ((Fr.refl _ w1).alloc _).drew⟩, rfl⟩, ?_⟩
    clear hK K
    refine wpAnyH_all (rs := [9]) (by kernel_rfl) (by simp) ?_
    intro i hi
    simp only [List.mem_cons, List.not_mem_nil, or_false] at hi
    subst hi
    refine wpOp_step rfl (fun K hK => ?_)
    go_simp
    refine hK _ _ ⟨⟨⟨_, (((Fr.refl _ w1).alloc _).alloc _).drew⟩, rfl⟩, ?_⟩
    clear hK K
    have hfb := (((Fr.refl (fun _ => False) w1).alloc (.cells zero33 30)).alloc (.cells zero32 23)).drew
    generalize hwb : World.drew (World.alloc _ _) = wb
    replace hfb : Fr (fun _ => False) w1 wb := by rw [← hwb]; exact hfb)
    have hP : Whole wb w1.heap.size 30 zero33 := by
      subst hwb
      exact (Whole.new w1 30 zero33).fr (((Fr.refl (fun _ => False) _).alloc _).drew) (fun e => e)
    have hI : Whole wb (w1.heap.size + 1) 23 zero32 := by
      subst hwb
      have h := (Whole.new (w1.alloc (.cells zero33 30)) 23 zero32).fr ((Fr.refl (fun _ => False) _).drew) (fun e => e)
      have e : (w1.alloc (.cells zero33 30)).heap.size = w1.heap.size + 1 := by simp
      rwa [e] at h
    obtain ⟨G5, hG5⟩ : ∃ G, G = w1.heap.size + 1 := ⟨_, rfl⟩
    obtain ⟨G4, hG4⟩ : ∃ G, G = w1.heap.size := ⟨_, rfl⟩
    rw [← hG5] at hI ⊢
    rw [← hG4] at hP ⊢
    have HG4 := Lib.hid hG4
    have HG5 := Lib.hid hG5
    clear hG4 hG5
    (
      refine wpAnyH_all (rs := [10]) (by kernel_rfl) (by simp) ?_
      intro i hi
      simp only [List.mem_cons, List.not_mem_nil, or_false] at hi
      subst hi
      refine wpOp_step rfl (fun K hK => ?_)
      go_simp
      refine hK _ _ ⟨⟨⟨_, hfb⟩, rfl⟩, ?_⟩
      clear hK K
      refine wpAnyH_all (rs := [11]) (by kernel_rfl) (by simp) ?_
      intro i hi
      simp only [List.mem_cons, List.not_mem_nil, or_false] at hi
      subst hi
      refine wpOp_step rfl (fun K hK => ?_)
      rw [if_pos (by rfl)]
      refine wp_store_at 30 (.tmp 4) (.tmp 19) rfl G4 0 30 zero33 cp rfl rfl hP (by rw [hcps]; decide) (by rw [hcps]; exact size33) hcp1 ?_
      intro wc hP2 hfc
      rw [laidAt_all _ _ (by rw [hcps]; rfl)] at hP2
      have hI2 := hI.fr hfc (fun e => by have := HG4.out; have := HG5.out; omega)
      have hfc2 : Fr (fun _ => False) w1 wc := hfb.trans hfc (fun k hk e => by have := HG4.out; omega)
      clear hfc hP hI hfb
      go_simp
      refine hK _ _ ⟨⟨⟨_, hfc2⟩, rfl⟩, ?_⟩
      clear hK K
      refine wpAnyH_all (rs := [12]) (by kernel_rfl) (by simp) ?_
      intro i hi
      simp only [List.mem_cons, List.not_mem_nil, or_false] at hi
      subst hi
      refine wpOp_step rfl (fun K hK => ?_)
      rw [if_pos (by rfl)]
      refine wp_store_at 23 (.tmp 5) (.tmp 21) rfl G5 0 23 zero32 cx rfl rfl hI2 (by rw [hcxs]; decide) (by rw [hcxs]; exact size32) hcx1 ?_
      intro wd hI3 hfd
      rw [laidAt_all _ _ (by rw [hcxs]; rfl)] at hI3
      have hP3 := hP2.fr hfd (fun e => by have := HG4.out; have := HG5.out; omega)
      have hfd2 : Fr (fun _ => False) w1 wd := hfc2.trans hfd (fun k hk e => by have := HG5.out; omega)
      clear hfd hP2 hI2 hfc2
      go_simp
      refine hK _ _ ⟨⟨⟨_, hfd2⟩, rfl⟩, ?_⟩
      clear hK K
      refine wpAnyH_all (rs := [13]) (by kernel_rfl) (by simp) ?_
      intro i hi
      simp only [List.mem_cons, List.not_mem_nil, or_false] at hi
      subst hi
      refine wpOp_step rfl (fun K hK => ?_)
      go_simp
      refine hK _ _ ⟨⟨⟨_, hfd2⟩, rfl⟩, ?_⟩
      clear hK K
      refine wpAnyH_done (by kernel_rfl) ?_ _
      have HP := Lib.hid hP3
      have HI := Lib.hid hI3
      have HFd := Lib.hid hfd2
      clear hP3 hI3 hfd2 HG4 HG5 hwb
      (
        by_cases hbig : 60 < L
        · have hgt : (60 : Int) < (L : Int) := by omega
          go_wp2_with (go_at_call 15; refine (works_any _).mono ?_; rintro e w2 ⟨rfl, b2⟩)
          go_ret
          exact ⟨rfl, ((HF.out.trans HFd.out (fun _ _ e => e)).then_below b2).below (fun _ _ e => e)⟩
        · have hle : ¬ (60 : Int) < (L : Int) := by omega
          have hn200 : ns.length ≤ 1000 := by rw [HLn.out]; omega
          have hsp := srt_props ns
          have hsb : ∀ n ∈ srtN ns, n < big := fun n hn => HB.out n ((hsp.2.2 n).1 hn)
          obtain ⟨ss, hss⟩ : ∃ ss, srtN ns = ss := ⟨_, rfl⟩
          rw [hss] at hsp hsb
          have hs200 : ss.length ≤ 1000 := by omega
          have C1 := Lib.hid (fun w' (h : Lies w' A (flatI ns)) => ORange_any A cap ns a N h0 h1 HB.out ha hn200 w' h)
          have C2 := Lib.hid (fun w' (h : Lies w' A (flatI ns)) => QRange_any A cap ns a N h0 h1 HB.out ha hn200 w' h)
          have C3 := Lib.hid (fun w' (h : Lies w' A (flatI ns)) => QSorted_any A cap ns HB.out hn200 w' h)
          have C4 := Lib.hid (fun w' A c (h : Lies w' A (flatI ss)) => ORange_any A c ss a N h0 h1 hsb ha hs200 w' h)
          have C5 := Lib.hid (fun w' A c (h : Lies w' A (flatI ss)) => QRange_any A c ss a N h0 h1 hsb ha hs200 w' h)
          have C6 := Lib.hid (fun w' (h : Lies w' A (flatI ns)) => OShort_any A cap ns x least g0 g1 HB.out HXB.out hn200 w' h)
          have C7 := Lib.hid (fun w' (h : Lies w' A (flatI ns)) => QShort_any A cap ns x least g0 g1 HB.out HXB.out hn200 w' h)
          have C8 := Lib.hid (fun w' A c (h : Lies w' A (flatI ss)) => OShort_any A c ss x least g0 g1 hsb HXB.out hs200 w' h)
          have C9 := Lib.hid (fun w' A c (h : Lies w' A (flatI ss)) => QShort_any A c ss x least g0 g1 hsb HXB.out hs200 w' h)
          have LP := Lib.hid (fun w' (f : Fr (fun _ => False) wd w') => (load_later HP.out (by rw [hcps]; exact HN33.out) f ⟨w', Fr.refl _ _⟩ : (loadCellsFrom ⟨G4, 0, none⟩ 0 n33 #[]).run Try.prog w' = .ok cp w'))
          have LX := Lib.hid (fun w' (f : Fr (fun _ => False) wd w') => (load_later HI.out (by rw [hcxs]; exact HN32.out) f ⟨w', Fr.refl _ _⟩ : (loadCellsFrom ⟨G5, 0, none⟩ 0 n32 #[]).run Try.prog w' = .ok cx w'))
          have LI := Lib.hid (fun w' (f : Fr (fun _ => False) wd w') => (by
            have := load_first HP.out f (n := n32) (by rw [hcps, HN32.out]; decide)
            rw [← HCP.out, HN32.out, pfC_ids, Array.toArray_toList] at this
            rw [HN32.out]; exact this : (loadCellsFrom ⟨G4, 0, none⟩ 0 n32 #[]).run Try.prog w' = .ok (idC (dgt a)) w'))
          have LN := Lib.hid (fun w' (f : Fr (fun _ => False) wd w') => (by rw [(HP.out.fr f (fun e => e)).cell, ← HCP.out, pfC_N] : w'.cell? ⟨G4, 32, none⟩ = some (.int .i64 N)))
          rw [hss] at C3
          rw [HLn.out] at C1 C2 C3 C6 C7
          rw [HCP.out] at C1 C4
          rw [HCX.out] at C6 C7 C8 C9
          obtain ⟨ci, hci⟩ : ∃ c, idC (dgt a) = c := ⟨_, rfl⟩
          rw [hci] at C2 C5 LI
          obtain ⟨S, hS⟩ : ∃ L, ss.length = L := ⟨_, rfl⟩
          have HSn := Lib.hid hS
          rw [hS] at C4 C5 C8 C9
          obtain ⟨r1, hr1⟩ : ∃ r : Int, ((rgA ns a N : Nat) : Int) = r := ⟨_, rfl⟩
          obtain ⟨r2, hr2⟩ : ∃ r : Int, ((rgB ns a N : Nat) : Int) = r := ⟨_, rfl⟩
          obtain ⟨r3, hr3⟩ : ∃ r : Int, ((rgA ss a N : Nat) : Int) = r := ⟨_, rfl⟩
          obtain ⟨r4, hr4⟩ : ∃ r : Int, ((rgB ss a N : Nat) : Int) = r := ⟨_, rfl⟩
          obtain ⟨r5, hr5⟩ : ∃ r : Int, ((shortN ns x least : Nat) : Int) = r := ⟨_, rfl⟩
          obtain ⟨r6, hr6⟩ : ∃ r : Int, ((shortN ss x least : Nat) : Int) = r := ⟨_, rfl⟩
          rw [hr1, hr2] at C1 C2
          rw [hr3, hr4] at C4 C5
          rw [hr5] at C6 C7
          rw [hr6] at C8 C9
          have l1 := LP.out wd (Fr.refl _ _)
          clear hss hsp hsb hs200 hn200 hci hS hr1 hr2 hr3 hr4 hr5 hr6 c0 c1 c2 c3 hlen hbig hcp1 hcx1 hcps hcxs ha h0 h1 g0 g1
          go_wp2_with (first
            | (go_at_call 30; refine (C5.out w5 _ _ (hlS.fr F5.out.2 (fun _ _ e => e))).mono ?_; rintro e w6 ⟨rfl, b6⟩
               have F6 := Lib.hid (And.intro (F5.out.1.then_below b6) (F5.out.2.then_below b6)))
            | (go_at_call 29; refine (C4.out w4 _ _ hlS).mono ?_; rintro e w5 ⟨rfl, b5⟩
               have F5 := Lib.hid (And.intro (F4.out.then_below b5) ((Fr.refl (fun _ => False) w4).then_below b5))
               have l5 := LI.out w5 F5.out.1
               have n5 := LN.out w5 F5.out.1)
            | (go_at_call 26; refine (C3.out w3 (HL.out.fr (HFd.out.trans F3.out (fun _ _ e => e)) (fun _ _ e => e))).mono ?_; rintro e w4 ⟨vS, rfl, hoS⟩
               obtain ⟨AS, cS, rfl, hlS, hfS⟩ := hoS.shape HSn.out
               have F4 := Lib.hid (F3.out.trans hfS (fun _ _ e => e))
               have l4 := LP.out w4 F4.out
               clear hoS hfS)
            | (go_at_call 30; refine (C2.out w2 (HL.out.fr (HFd.out.trans F2.out (fun _ _ e => e)) (fun _ _ e => e))).mono ?_; rintro e w3 ⟨rfl, b3⟩
               have F3 := Lib.hid (F2.out.then_below b3))
            | (go_at_call 29; refine (C1.out wd (HL.out.fr HFd.out (fun _ _ e => e))).mono ?_; rintro e w2 ⟨rfl, b2⟩
               have F2 := Lib.hid ((Fr.refl (fun _ => False) wd).then_below b2)
               have l2 := LI.out w2 F2.out
               have n2 := LN.out w2 F2.out))
          have HLS := Lib.hid (hlS.fr F6.out.2 (fun _ _ e => e))
          have l6 : ∀ q : Later w6, (loadCellsFrom ⟨G5, 0, none⟩ 0 n32 #[]).run Try.prog q.w' = .ok cx q.w' := fun q => LX.out _ (F6.out.1.trans q.fr (fun _ _ e => e))
          clear l1 l2 n2 l4 l5 n5 b2 b3 b5 b6 hlS
          refine wp_region_later (w0 := w6) (Fr.refl _ _) (by kernel_rfl) (by kernel_rfl) ?_
          have D6 := Lib.hid (fun q : Later w6 => C6.out q.w' (HL.out.fr ((HFd.out.trans F6.out.1 (fun _ _ e => e)).trans q.fr (fun _ _ e => e)) (fun _ _ e => e)))
          have D7 := Lib.hid (fun q : Later w6 => C7.out q.w' (HL.out.fr ((HFd.out.trans F6.out.1 (fun _ _ e => e)).trans q.fr (fun _ _ e => e)) (fun _ _ e => e)))
          have D8 := Lib.hid (fun q : Later w6 => C8.out q.w' AS cS (HLS.out.fr q.fr (fun _ _ e => e)))
          have D9 := Lib.hid (fun q : Later w6 => C9.out q.w' AS cS (HLS.out.fr q.fr (fun _ _ e => e)))
          clear C6 C7 C8 C9 C1 C2 C3 C4 C5
          iterate 22 quiet_step (fail)
          quiet_step ((go_at_call 31; refine Calls.later_of (D6.out _)))
          iterate 3 quiet_step (fail)
          quiet_step ((go_at_call 32; refine Calls.later_of (D7.out _)))
          iterate 6 quiet_step (fail)
          quiet_step ((go_at_call 31; refine Calls.later_of (D8.out _)))
          iterate 3 quiet_step (fail)
          quiet_step ((go_at_call 32; refine Calls.later_of (D9.out _)))
          iterate 3 quiet_step (fail)
          quiet_step ((go_at_call 15; refine Calls.later_of (works_any _)))
          iterate 2 quiet_step (fail)
          refine wpQuiet_nil ?_
          intro _ hw'
          obtain ⟨q, hw''⟩ := hw'
          subst hw''
          go_wp2_with fail
          go_ret
          exact ⟨rfl, (((HF.out.trans HFd.out (fun _ _ e => e)).trans F6.out.1 (fun _ _ e => e)).trans q.fr (fun _ _ e => e)).below (fun _ _ e => e)⟩))
  · (
    refine wpOp_step rfl (fun K hK => ?_)
    go_simp
    refine hK _ _ ⟨⟨⟨_, ((Fr.refl _ w1).alloc _).drew⟩, rfl⟩, ?_⟩
    clear hK K
    refine wpAnyH_all (rs := [8]) (by kernel_rfl) (by simp) ?_
    intro i hi
    simp only [List.mem_cons, List.not_mem_nil, or_false] at hi
    subst hi
    refine wpOp_step rfl (fun K hK => ?_)
    go_simp
    refine hK _ _ ⟨⟨⟨_, (((Fr.refl _ w1).alloc _).alloc _).drew⟩, rfl⟩, ?_⟩
    clear hK K
    have hfb := (((Fr.refl (fun _ => False) w1).alloc (.cells zero32 23)).alloc (.cells zero33 30)).drew
    generalize hwb : World.drew (World.alloc _ _) = wb
    replace hfb : Fr (fun _ => False) w1 wb := by rw [← hwb]; exact hfb)
    have hI : Whole wb w1.heap.size 23 zero32 := by
      subst hwb
      exact (Whole.new w1 23 zero32).fr (((Fr.refl (fun _ => False) _).alloc _).drew) (fun e => e)
    have hP : Whole wb (w1.heap.size + 1) 30 zero33 := by
      subst hwb
      have h := (Whole.new (w1.alloc (.cells zero32 23)) 30 zero33).fr ((Fr.refl (fun _ => False) _).drew) (fun e => e)
      have e : (w1.alloc (.cells zero32 23)).heap.size = w1.heap.size + 1 := by simp
      rwa [e] at h
    obtain ⟨G4, hG4⟩ : ∃ G, G = w1.heap.size + 1 := ⟨_, rfl⟩
    obtain ⟨G5, hG5⟩ : ∃ G, G = w1.heap.size := ⟨_, rfl⟩
    rw [← hG4] at hP ⊢
    rw [← hG5] at hI ⊢
    have HG4 := Lib.hid hG4
    have HG5 := Lib.hid hG5
    clear hG4 hG5
    (
      refine wpAnyH_all (rs := [10]) (by kernel_rfl) (by simp) ?_
      intro i hi
      simp only [List.mem_cons, List.not_mem_nil, or_false] at hi
      subst hi
      refine wpOp_step rfl (fun K hK => ?_)
      go_simp
      refine hK _ _ ⟨⟨⟨_, hfb⟩, rfl⟩, ?_⟩
      clear hK K
      refine wpAnyH_all (rs := [11]) (by kernel_rfl) (by simp) ?_
      intro i hi
      simp only [List.mem_cons, List.not_mem_nil, or_false] at hi
      subst hi
      refine wpOp_step rfl (fun K hK => ?_)
      rw [if_pos (by rfl)]
      refine wp_store_at 30 (.tmp 4) (.tmp 19) rfl G4 0 30 zero33 cp rfl rfl hP (by rw [hcps]; decide) (by rw [hcps]; exact size33) hcp1 ?_
      intro wc hP2 hfc
      rw [laidAt_all _ _ (by rw [hcps]; rfl)] at hP2
      have hI2 := hI.fr hfc (fun e => by have := HG4.out; have := HG5.out; omega)
      have hfc2 : Fr (fun _ => False) w1 wc := hfb.trans hfc (fun k hk e => by have := HG4.out; omega)
      clear hfc hP hI hfb
      go_simp
      refine hK _ _ ⟨⟨⟨_, hfc2⟩, rfl⟩, ?_⟩
      clear hK K
      refine wpAnyH_all (rs := [12]) (by kernel_rfl) (by simp) ?_
      intro i hi
      simp only [List.mem_cons, List.not_mem_nil, or_false] at hi
      subst hi
      refine wpOp_step rfl (fun K hK => ?_)
      rw [if_pos (by rfl)]
      refine wp_store_at 23 (.tmp 5) (.tmp 21) rfl G5 0 23 zero32 cx rfl rfl hI2 (by rw [hcxs]; decide) (by rw [hcxs]; exact size32) hcx1 ?_
      intro wd hI3 hfd
      rw [laidAt_all _ _ (by rw [hcxs]; rfl)] at hI3
      have hP3 := hP2.fr hfd (fun e => by have := HG4.out; have := HG5.out; omega)
      have hfd2 : Fr (fun _ => False) w1 wd := hfc2.trans hfd (fun k hk e => by have := HG5.out; omega)
      clear hfd hP2 hI2 hfc2
      go_simp
      refine hK _ _ ⟨⟨⟨_, hfd2⟩, rfl⟩, ?_⟩
      clear hK K
      refine wpAnyH_all (rs := [13]) (by kernel_rfl) (by simp) ?_
      intro i hi
      simp only [List.mem_cons, List.not_mem_nil, or_false] at hi
      subst hi
      refine wpOp_step rfl (fun K hK => ?_)
      go_simp
      refine hK _ _ ⟨⟨⟨_, hfd2⟩, rfl⟩, ?_⟩
      clear hK K
      refine wpAnyH_done (by kernel_rfl) ?_ _
      have HP := Lib.hid hP3
      have HI := Lib.hid hI3
      have HFd := Lib.hid hfd2
      clear hP3 hI3 hfd2 HG4 HG5 hwb
      (
        by_cases hbig : 60 < L
        · have hgt : (60 : Int) < (L : Int) := by omega
          go_wp2_with (go_at_call 15; refine (works_any _).mono ?_; rintro e w2 ⟨rfl, b2⟩)
          go_ret
          exact ⟨rfl, ((HF.out.trans HFd.out (fun _ _ e => e)).then_below b2).below (fun _ _ e => e)⟩
        · have hle : ¬ (60 : Int) < (L : Int) := by omega
          have hn200 : ns.length ≤ 1000 := by rw [HLn.out]; omega
          have hsp := srt_props ns
          have hsb : ∀ n ∈ srtN ns, n < big := fun n hn => HB.out n ((hsp.2.2 n).1 hn)
          obtain ⟨ss, hss⟩ : ∃ ss, srtN ns = ss := ⟨_, rfl⟩
          rw [hss] at hsp hsb
          have hs200 : ss.length ≤ 1000 := by omega
          have C1 := Lib.hid (fun w' (h : Lies w' A (flatI ns)) => ORange_any A cap ns a N h0 h1 HB.out ha hn200 w' h)
          have C2 := Lib.hid (fun w' (h : Lies w' A (flatI ns)) => QRange_any A cap ns a N h0 h1 HB.out ha hn200 w' h)
          have C3 := Lib.hid (fun w' (h : Lies w' A (flatI ns)) => QSorted_any A cap ns HB.out hn200 w' h)
          have C4 := Lib.hid (fun w' A c (h : Lies w' A (flatI ss)) => ORange_any A c ss a N h0 h1 hsb ha hs200 w' h)
          have C5 := Lib.hid (fun w' A c (h : Lies w' A (flatI ss)) => QRange_any A c ss a N h0 h1 hsb ha hs200 w' h)
          have C6 := Lib.hid (fun w' (h : Lies w' A (flatI ns)) => OShort_any A cap ns x least g0 g1 HB.out HXB.out hn200 w' h)
          have C7 := Lib.hid (fun w' (h : Lies w' A (flatI ns)) => QShort_any A cap ns x least g0 g1 HB.out HXB.out hn200 w' h)
          have C8 := Lib.hid (fun w' A c (h : Lies w' A (flatI ss)) => OShort_any A c ss x least g0 g1 hsb HXB.out hs200 w' h)
          have C9 := Lib.hid (fun w' A c (h : Lies w' A (flatI ss)) => QShort_any A c ss x least g0 g1 hsb HXB.out hs200 w' h)
          have LP := Lib.hid (fun w' (f : Fr (fun _ => False) wd w') => (load_later HP.out (by rw [hcps]; exact HN33.out) f ⟨w', Fr.refl _ _⟩ : (loadCellsFrom ⟨G4, 0, none⟩ 0 n33 #[]).run Try.prog w' = .ok cp w'))
          have LX := Lib.hid (fun w' (f : Fr (fun _ => False) wd w') => (load_later HI.out (by rw [hcxs]; exact HN32.out) f ⟨w', Fr.refl _ _⟩ : (loadCellsFrom ⟨G5, 0, none⟩ 0 n32 #[]).run Try.prog w' = .ok cx w'))
          have LI := Lib.hid (fun w' (f : Fr (fun _ => False) wd w') => (by
            have := load_first HP.out f (n := n32) (by rw [hcps, HN32.out]; decide)
            rw [← HCP.out, HN32.out, pfC_ids, Array.toArray_toList] at this
            rw [HN32.out]; exact this : (loadCellsFrom ⟨G4, 0, none⟩ 0 n32 #[]).run Try.prog w' = .ok (idC (dgt a)) w'))
          have LN := Lib.hid (fun w' (f : Fr (fun _ => False) wd w') => (by rw [(HP.out.fr f (fun e => e)).cell, ← HCP.out, pfC_N] : w'.cell? ⟨G4, 32, none⟩ = some (.int .i64 N)))
          rw [hss] at C3
          rw [HLn.out] at C1 C2 C3 C6 C7
          rw [HCP.out] at C1 C4
          rw [HCX.out] at C6 C7 C8 C9
          obtain ⟨ci, hci⟩ : ∃ c, idC (dgt a) = c := ⟨_, rfl⟩
          rw [hci] at C2 C5 LI
          obtain ⟨S, hS⟩ : ∃ L, ss.length = L := ⟨_, rfl⟩
          have HSn := Lib.hid hS
          rw [hS] at C4 C5 C8 C9
          obtain ⟨r1, hr1⟩ : ∃ r : Int, ((rgA ns a N : Nat) : Int) = r := ⟨_, rfl⟩
          obtain ⟨r2, hr2⟩ : ∃ r : Int, ((rgB ns a N : Nat) : Int) = r := ⟨_, rfl⟩
          obtain ⟨r3, hr3⟩ : ∃ r : Int, ((rgA ss a N : Nat) : Int) = r := ⟨_, rfl⟩
          obtain ⟨r4, hr4⟩ : ∃ r : Int, ((rgB ss a N : Nat) : Int) = r := ⟨_, rfl⟩
          obtain ⟨r5, hr5⟩ : ∃ r : Int, ((shortN ns x least : Nat) : Int) = r := ⟨_, rfl⟩
          obtain ⟨r6, hr6⟩ : ∃ r : Int, ((shortN ss x least : Nat) : Int) = r := ⟨_, rfl⟩
          rw [hr1, hr2] at C1 C2
          rw [hr3, hr4] at C4 C5
          rw [hr5] at C6 C7
          rw [hr6] at C8 C9
          have l1 := LP.out wd (Fr.refl _ _)
          clear hss hsp hsb hs200 hn200 hci hS hr1 hr2 hr3 hr4 hr5 hr6 c0 c1 c2 c3 hlen hbig hcp1 hcx1 hcps hcxs ha h0 h1 g0 g1
          go_wp2_with (first
            | (go_at_call 30; refine (C5.out w5 _ _ (hlS.fr F5.out.2 (fun _ _ e => e))).mono ?_; rintro e w6 ⟨rfl, b6⟩
               have F6 := Lib.hid (And.intro (F5.out.1.then_below b6) (F5.out.2.then_below b6)))
            | (go_at_call 29; refine (C4.out w4 _ _ hlS).mono ?_; rintro e w5 ⟨rfl, b5⟩
               have F5 := Lib.hid (And.intro (F4.out.then_below b5) ((Fr.refl (fun _ => False) w4).then_below b5))
               have l5 := LI.out w5 F5.out.1
               have n5 := LN.out w5 F5.out.1)
            | (go_at_call 26; refine (C3.out w3 (HL.out.fr (HFd.out.trans F3.out (fun _ _ e => e)) (fun _ _ e => e))).mono ?_; rintro e w4 ⟨vS, rfl, hoS⟩
               obtain ⟨AS, cS, rfl, hlS, hfS⟩ := hoS.shape HSn.out
               have F4 := Lib.hid (F3.out.trans hfS (fun _ _ e => e))
               have l4 := LP.out w4 F4.out
               clear hoS hfS)
            | (go_at_call 30; refine (C2.out w2 (HL.out.fr (HFd.out.trans F2.out (fun _ _ e => e)) (fun _ _ e => e))).mono ?_; rintro e w3 ⟨rfl, b3⟩
               have F3 := Lib.hid (F2.out.then_below b3))
            | (go_at_call 29; refine (C1.out wd (HL.out.fr HFd.out (fun _ _ e => e))).mono ?_; rintro e w2 ⟨rfl, b2⟩
               have F2 := Lib.hid ((Fr.refl (fun _ => False) wd).then_below b2)
               have l2 := LI.out w2 F2.out
               have n2 := LN.out w2 F2.out))
          have HLS := Lib.hid (hlS.fr F6.out.2 (fun _ _ e => e))
          have l6 : ∀ q : Later w6, (loadCellsFrom ⟨G5, 0, none⟩ 0 n32 #[]).run Try.prog q.w' = .ok cx q.w' := fun q => LX.out _ (F6.out.1.trans q.fr (fun _ _ e => e))
          clear l1 l2 n2 l4 l5 n5 b2 b3 b5 b6 hlS
          refine wp_region_later (w0 := w6) (Fr.refl _ _) (by kernel_rfl) (by kernel_rfl) ?_
          have D6 := Lib.hid (fun q : Later w6 => C6.out q.w' (HL.out.fr ((HFd.out.trans F6.out.1 (fun _ _ e => e)).trans q.fr (fun _ _ e => e)) (fun _ _ e => e)))
          have D7 := Lib.hid (fun q : Later w6 => C7.out q.w' (HL.out.fr ((HFd.out.trans F6.out.1 (fun _ _ e => e)).trans q.fr (fun _ _ e => e)) (fun _ _ e => e)))
          have D8 := Lib.hid (fun q : Later w6 => C8.out q.w' AS cS (HLS.out.fr q.fr (fun _ _ e => e)))
          have D9 := Lib.hid (fun q : Later w6 => C9.out q.w' AS cS (HLS.out.fr q.fr (fun _ _ e => e)))
          clear C6 C7 C8 C9 C1 C2 C3 C4 C5
          iterate 22 quiet_step (fail)
          quiet_step ((go_at_call 31; refine Calls.later_of (D6.out _)))
          iterate 3 quiet_step (fail)
          quiet_step ((go_at_call 32; refine Calls.later_of (D7.out _)))
          iterate 6 quiet_step (fail)
          quiet_step ((go_at_call 31; refine Calls.later_of (D8.out _)))
          iterate 3 quiet_step (fail)
          quiet_step ((go_at_call 32; refine Calls.later_of (D9.out _)))
          iterate 3 quiet_step (fail)
          quiet_step ((go_at_call 15; refine Calls.later_of (works_any _)))
          iterate 2 quiet_step (fail)
          refine wpQuiet_nil ?_
          intro _ hw'
          obtain ⟨q, hw''⟩ := hw'
          subst hw''
          go_wp2_with fail
          go_ret
          exact ⟨rfl, (((HF.out.trans HFd.out (fun _ _ e => e)).trans F6.out.1 (fun _ _ e => e)).trans q.fr (fun _ _ e => e)).below (fun _ _ e => e)⟩))
end Go.Proofs.Ytbfbgopbelmghaa

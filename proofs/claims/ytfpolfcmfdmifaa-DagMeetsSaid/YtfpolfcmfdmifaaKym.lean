/- What is proved: the law DagMeets is true. Conditions: the graph's cells are there. -/
import Derived.Test.YtfpolfcmfdmifaaKw
import Derived.Test.YtfpolfcmfdmifaaKs
namespace Go.Proofs.Ytfpolfcmfdmifaa
open Go.RowKit Go.Shelf
set_option linter.unusedVariables false

theorem isB_iff {G : List Nd} (hR : RightG G) {n m : Nat} (hn : n < G.length) (hm : m < G.length) : isB G n m = true ↔ Anc (prG G) n m := by
  unfold isB
  rw [upB_iff hR.dn [m] (by simpa using hm) n hn]
  constructor
  · rintro ⟨s, hs, h⟩
    rw [List.mem_singleton] at hs
    rw [← hs]; exact h
  · exact fun h => ⟨m, by simp, h⟩
theorem both_iff {G : List Nd} (hR : RightG G) {a b : Nat} (ha : a < G.length) (hb : b < G.length) {n : Nat} (hn : n < G.length) : bothB (prG G) G.length [a] [b] n = true ↔ Anc (prG G) n a ∧ Anc (prG G) n b := by
  rw [both_at, Bool.and_eq_true]
  exact and_congr (isB_iff hR hn ha) (isB_iff hR hn hb)
theorem mem_bas {G : List Nd} (hR : RightG G) {a b : Nat} (ha : a < G.length) (hb : b < G.length) (n : Nat) : n ∈ basL G a b ↔ n < G.length ∧ (Anc (prG G) n a ∧ Anc (prG G) n b) ∧ ¬ ∃ d, d < G.length ∧ d ≠ n ∧ Anc (prG G) n d ∧ Anc (prG G) d a ∧ Anc (prG G) d b := by
  unfold basL
  rw [mem_selB]
  refine and_congr_right fun hn => ?_
  rw [topB_iff hR.dn _ n hn, both_iff hR ha hb hn]
  refine and_congr_right fun _ => not_congr (exists_congr fun d => and_congr_right fun hd => and_congr_right fun _ => and_congr_right fun _ => both_iff hR ha hb hd)
theorem bas_one {G : List Nd} (hR : RightG G) {a b : Nat} (ha : a < G.length) (hb : b < G.length) (h : isB G a b = true) : basL G a b = [a] := by
  have hab := (isB_iff hR ha hb).1 h
  refine asc_ext (selB_asc _ _) (by simp) (fun x => ?_)
  have := mem_bas hR ha hb x
  rw [this, List.mem_singleton]
  constructor
  · rintro ⟨h1, ⟨h2, h3⟩, h4⟩
    apply Classical.byContradiction
    intro hne
    exact h4 ⟨a, ha, fun e => hne e.symm, h2, .refl a, hab⟩
  · rintro rfl
    refine ⟨ha, ⟨.refl x, hab⟩, ?_⟩
    rintro ⟨d, hd, hne, h1, h2, h3⟩
    have k1 := h1.le hR.dn hd
    have k2 := h2.le hR.dn ha
    exact hne (by omega)
theorem bas_apart {G : List Nd} (hR : RightG G) {a b : Nat} (ha : a < G.length) (hb : b < G.length) {n x : Nat} (hn : n ∈ basL G a b) (hx : x ∈ basL G a b) (hne : ¬ x = n) : isB G n x = false := by
  have h1 := (mem_bas hR ha hb n).1 hn
  have h2 := (mem_bas hR ha hb x).1 hx
  rw [Bool.eq_false_iff]
  intro e
  exact h1.2.2 ⟨x, h2.1, hne, (isB_iff hR h1.1 h2.1).1 e, h2.2.1.1, h2.2.1.2⟩
theorem bas_any {G : List Nd} (hR : RightG G) {a b : Nat} (ha : a < G.length) (hb : b < G.length) {n : Nat} (hn : n < G.length) : (basL G a b).any (isB G n) = (isB G n a && isB G n b) := by
  rw [Bool.eq_iff_iff, List.any_eq_true, Bool.and_eq_true, isB_iff hR hn ha, isB_iff hR hn hb]
  constructor
  · rintro ⟨x, hx, h⟩
    have h2 := (mem_bas hR ha hb x).1 hx
    have h3 := (isB_iff hR hn h2.1).1 h
    exact ⟨h3.trans h2.2.1.1, h3.trans h2.2.1.2⟩
  · rintro ⟨h1, h2⟩
    have key : ∀ d m, m < G.length → G.length - m ≤ d → Anc (prG G) m a → Anc (prG G) m b → ∃ x, x ∈ basL G a b ∧ x < G.length ∧ Anc (prG G) m x := by
      intro d
      induction d with
      | zero => intro m h1 h2; omega
      | succ d ih =>
        intro m hm hd k1 k2
        by_cases e : ∃ d, d < G.length ∧ d ≠ m ∧ Anc (prG G) m d ∧ Anc (prG G) d a ∧ Anc (prG G) d b
        · obtain ⟨y, hy, hne, h3, h4, h5⟩ := e
          have := h3.le hR.dn hy
          obtain ⟨x, hx, hxN, h6⟩ := ih y hy (by omega) h4 h5
          exact ⟨x, hx, hxN, h3.trans h6⟩
        · exact ⟨m, (mem_bas hR ha hb m).2 ⟨hm, ⟨k1, k2⟩, e⟩, hm, .refl m⟩
    obtain ⟨x, hx, hxN, h3⟩ := key (G.length - n) n hn (Nat.le_refl _) h1 h2
    exact ⟨x, hx, (isB_iff hR hn hxN).2 h3⟩
theorem gen_lt {G : List Nd} (hR : RightG G) {n a : Nat} (hn : n < G.length) (ha : a < G.length) (h : isB G n a = true) (hne : ¬ n = a) : genF (prG G) G.length n < genF (prG G) G.length a :=
  gen_up hR.dn ((isB_iff hR hn ha).1 h) ha hne
theorem gen_get (G : List Nd) (n : Nat) (hn : n < G.length) : (genL G).getD n 0 = genF (prG G) G.length n := by simp [genL, List.getD_eq_getElem?_getD, hn]
theorem nodE_nat {G : List Nd} (hok : okG G = true) {n m : Nat} (hn : n < G.length) (hm : m < G.length) : nodE G [(n : Int), (m : Int)] = 0 := by
  unfold nodE
  have h : ∀ k : Nat, k < G.length → badZ G.length (k : Int) = false := fun k hk => by
    unfold badZ
    rw [decide_eq_false (by omega), decide_eq_false (p := (k : Int) ≥ (G.length : Int)) (by omega)]; rfl
  rw [if_pos hok, if_neg]
  rw [List.any_cons, List.any_cons, List.any_nil, h n hn, h m hm]
  decide

set_option maxHeartbeats 6400000 in
set_option maxRecDepth 100000 in
theorem dagMeets_walk (A : Option Addr) (c : Nat) (G : List Nd) (a b : Int) (W : World) (hG : GAt W A G) :
    Calls Try.prog 7 #[.slice A G.length c, .int .i64 a, .int .i64 b] W fun e w' => e = .returned (.bool true) ∧ Below W.heap.size W w' := by
  have HBa := Lib.hid (fun w (f : Fr (fun _ => False) W w) => DaBases_any A c G a b w (hG.fr f))
  by_cases hE : nodE G [a, b] = 0
  · obtain ⟨hok, hall⟩ := nodE_zero hE
    have hR := right_of hok
    obtain ⟨a', rfl, ha, hat⟩ := nat_of (hall a (by simp))
    obtain ⟨b', rfl, hb, hbt⟩ := nat_of (hall b (by simp))
    rw [hE, hat, hbt] at HBa
    have HDg := Lib.hid (fun w (f : Fr (fun _ => False) W w) => DaGens_any A c G w (hG.fr f))
    rw [show chkG G = 0 by unfold chkG; rw [if_pos hok]] at HDg
    have HIs := Lib.hid (fun (n m : Nat) (hn : n < G.length) (hm : m < G.length) w (f : Fr (fun _ => False) W w) => show Calls Try.prog 21 #[.slice A G.length c, .int .i64 (n : Nat), .int .i64 (m : Nat)] w (fun e w' => e = .returned (.tuple #[.bool (isB G n m), .int .i64 0]) ∧ Below w.heap.size w w') from by
      have := DaIs_any A c G n m w (hG.fr f)
      rw [nodE_nat hok hn hm, if_pos rfl, Int.toNat_natCast, Int.toNat_natCast] at this
      exact this)
    have hlen := hR.len
    have P1 := Lib.hid (fun h => bas_one hR ha hb h)
    have P2 := Lib.hid (fun n (hn : n < G.length) h hne => gen_lt hR hn ha (n := n) h hne)
    have P3 := Lib.hid (fun n x hn hx hne => bas_apart hR ha hb (n := n) (x := x) hn hx hne)
    have P4 := Lib.hid (fun n (hn : n < G.length) => bas_any hR ha hb (n := n) hn)
    have P5 := Lib.hid (fun n hn => ((mem_bas hR ha hb n).1 hn).1)
    have P6 := Lib.hid (gen_get G)
    have hgl : (genL G).length = G.length := by simp [genL]
    have hbl : (basL G a' b').length ≤ 128 := by have := selB_len (topB (prG G) G.length (bothB (prG G) G.length [a'] [b'])) G.length; unfold basL; omega
    obtain ⟨L, hL⟩ : ∃ L, basL G a' b' = L := ⟨_, rfl⟩
    obtain ⟨gl, hgll⟩ : ∃ g, genL G = g := ⟨_, rfl⟩
    obtain ⟨gf, hgf⟩ : ∃ g, genF (prG G) G.length = g := ⟨_, rfl⟩
    obtain ⟨is, his⟩ : ∃ i, isB G = i := ⟨_, rfl⟩
    rw [hL] at HBa P1 P3 P4 P5 hbl
    rw [hgll] at HDg P6 hgl
    rw [hgf] at P2 P6
    rw [his] at HIs P1 P2 P3 P4
    have HGl := Lib.hid hgl
    obtain ⟨N, hN⟩ : ∃ N, G.length = N := ⟨_, rfl⟩
    rw [hN] at HBa HDg HIs hlen P2 P4 P5 P6 HGl ha hb ⊢
    obtain ⟨ln, hln⟩ : ∃ n, L.length = n := ⟨_, rfl⟩
    have HLn := Lib.hid hln
    have HTl := Lib.hid (nat_snoc L)
    have HTa := Lib.hid (List.take_length (l := L))
    have HMe : Hid (∀ k, k < L.length → L.getD k 0 ∈ L) := Lib.hid (fun k hk => by rw [List.getD_eq_getElem?_getD, List.getElem?_eq_getElem hk]; exact List.getElem_mem hk)
    rw [hln] at hbl HTl HTa HMe
    have HSo := Lib.hid (fun A1 d1 (w : World) (he : is a' b' = true) (h1 : Lies w A1 (nC L)) => show Calls Try.prog 13 #[.slice A1 ln d1, .slice (some ⟨w.heap.size, 0, none⟩) 1 1] (w.alloc (.cells #[.int .i64 (a' : Nat)] 3)) (fun e w' => e = .returned (.bool true) ∧ Fr (fun _ => False) w w') from by
      have e1 := P1.out he
      rw [← hln, e1]
      rw [e1] at h1
      have := QaSame_any A1 d1 [a'] (some ⟨w.heap.size, 0, none⟩) 1 [a'] (by simp) (w.alloc (.cells #[.int .i64 (a' : Nat)] 3)) (h1.fr ((Fr.refl (fun _ => False) w).alloc _) (fun _ _ e => e)) (Lies.of_whole (Whole.new w 3 _))
      exact this.mono fun e w' ⟨h1, h2⟩ => ⟨by rw [h1]; simp, ((Fr.refl (fun _ => False) w).alloc _).then_below h2⟩)
    have HA := Lib.hid ha
    have HB := Lib.hid hb
    have ha0 : (0 : Int) ≤ (a' : Int) := by omega
    have haz : (a' : Int) < (N : Int) := by omega
    clear hE hok hall hR hG ha hb hat hbt hL hgll hgf his hgl hN hln P1
    go_enter Try.func7, Try.ntmps7
    go_upto_region 6 with (first
      | (go_at_call 22; refine (HBa.out _ (Fr.refl _ _)).mono ?_; rintro e w1 h; obtain ⟨A1, d1, rfl, hl1, f1⟩ := h.ok; rw [HLn.out]; have HL1 := Lib.hid hl1; have HF1 := Lib.hid f1; clear h hl1 f1)
      | (go_at_call 9; refine (HDg.out _ HF1.out).mono ?_; rintro e w2 h; obtain ⟨A2, d2, rfl, hl2, f2⟩ := h.ok; rw [HGl.out]; have HL2 := Lib.hid hl2; have HF2 := Lib.hid (HF1.out.trans f2 (fun _ _ e => e)); have HL1' := Lib.hid (HL1.out.fr f2 (fun _ _ e => e)); clear h hl2 f2)
      | (go_at_call 21; refine (HIs.out a' b' HA.out HB.out _ HF2.out).mono ?_; rintro e w3 ⟨rfl, b3⟩; have HF3 := Lib.hid (HF2.out.then_below b3); have HLb := Lib.hid (HL1'.out.fr (Fr.of_below (S := fun _ => False) b3) (fun _ _ e => e)); have HLg := Lib.hid (HL2.out.fr (Fr.of_below (S := fun _ => False) b3) (fun _ _ e => e)); clear b3))
    clear HL1 HL1' HL2 HF1 HF2 HBa HDg
    obtain ⟨I, hI⟩ : ∃ I, is a' b' = I := ⟨_, rfl⟩
    have HII := Lib.hid hI
    rw [hI]
    clear hI
    go_cut [72] (fun s wc => s = .bool false ∧ Hid (Fr (fun _ => False) W wc) ∧ Hid (Lies wc A1 (nC L)) ∧ Hid (Lies wc A2 (nC gl)))
    case first =>
      cases I
      · go_wp2
        go_meet
        exact ⟨rfl, HF3, HLb, HLg⟩
      · have HSo1 := Lib.hid (HSo.out A1 d1 w3 HII.out HLb.out)
        go_wp2_with (go_at_call 13; refine HSo1.out.mono ?_; rintro e w4 ⟨rfl, f4⟩; have HF4z := Lib.hid f4; clear f4)
        go_meet
        exact ⟨rfl, Lib.hid (HF3.out.trans HF4z.out (fun _ _ e => e)), Lib.hid (HLb.out.fr HF4z.out (fun _ _ e => e)), Lib.hid (HLg.out.fr HF4z.out (fun _ _ e => e))⟩
    case rest =>
    obtain ⟨rfl, HFz, HLz, HGz⟩ := hcut
    obtain ⟨wz, rfl⟩ : ∃ wz, wz = wc := ⟨wc, rfl⟩
    clear HF3 HLb HLg HSo
    go_wp2
    go_loopg [13] N (fun kx s13 wr => ∃ k : Nat, s13 = .int .i64 k ∧ k ≤ N ∧ N - k ≤ kx ∧ Hid (Fr (fun _ => False) wz wr))
    case atStart => exact ⟨0, rfl, by omega, by omega, Lib.hid (Fr.refl _ _)⟩
    case round =>
      obtain ⟨n, rfl, hn, hnx, HFr⟩ := hrel
      obtain ⟨wo, rfl⟩ : ∃ wo, wo = wr := ⟨wr, rfl⟩
      have wn := wrap_nat1 n (by omega)
      by_cases hlt : n < N
      · have hltz : (n : Int) < N := by omega
        have hn0 : (0 : Int) ≤ (n : Int) := by omega
        have HIa := Lib.hid (fun w f => HIs.out n a' hlt HA.out w f)
        have HIb := Lib.hid (fun w f => HIs.out n b' hlt HB.out w f)
        have HP2 := Lib.hid (P2.out n hlt)
        have HP4 := Lib.hid (P4.out n hlt)
        obtain ⟨x, hx⟩ : ∃ x, is n a' = x := ⟨_, rfl⟩
        obtain ⟨y, hy⟩ : ∃ y, is n b' = y := ⟨_, rfl⟩
        rw [hx] at HIa HP2 HP4
        rw [hy] at HIb HP4
        clear hx hy
        go_upto_region 13 with (first
          | (go_at_call 21; have _ := M1; refine (HIb.out _ (HFz.out.trans HFp.out (fun _ _ e => e))).mono ?_; rintro e w6 ⟨rfl, b6⟩; have HFq := Lib.hid (HFp.out.then_below b6); clear b6)
          | (go_at_call 21; refine (HIa.out _ (HFz.out.trans HFr.out (fun _ _ e => e))).mono ?_; rintro e w5 ⟨rfl, b5⟩; have HFp := Lib.hid (HFr.out.then_below b5); have M1 := True.intro; clear b5))
        go_cut [117] (fun s wc => s = .bool false ∧ Hid (Fr (fun _ => False) wz wc))
        case first =>
          cases x
          · go_quiet (fail)
            go_wp2
            go_meet
            exact ⟨rfl, Lib.hid (HFq.out.drewN _)⟩
          · by_cases hna : n = a'
            · subst hna
              go_quiet (fail)
              go_wp2
              go_meet
              exact ⟨rfl, Lib.hid (HFq.out.drewN _)⟩
            · have hnz : ¬ ((n : Int) = (a' : Int)) := by omega
              have hnb : ((n : Int) == (a' : Int)) = false := by simpa using hnz
              have hgl := HP2.out rfl hna
              obtain ⟨bg, og, hBg, cg1⟩ := lies_nat HGz.out HFq.out n (by rw [HGl.out]; exact hlt)
              subst hBg
              obtain ⟨b2, o2, hB2, cg2⟩ := lies_nat HGz.out HFq.out a' (by rw [HGl.out]; exact HA.out)
              injection hB2 with hB2
              injection hB2 with e1 e2
              subst e1; subst e2
              rw [P6.out n hlt] at cg1
              rw [P6.out a' HA.out] at cg2
              obtain ⟨g1, hg1⟩ : ∃ g, gf n = g := ⟨_, rfl⟩
              obtain ⟨g2, hg2⟩ : ∃ g, gf a' = g := ⟨_, rfl⟩
              rw [hg1] at cg1 hgl
              rw [hg2] at cg2 hgl
              have hgz : ¬ ((g2 : Int) ≤ (g1 : Int)) := by omega
              have hgd : decide ((g2 : Int) ≤ (g1 : Int)) = false := decide_eq_false hgz
              clear hg1 hg2
              go_quiet (fail)
              go_wp2
              go_meet
              exact ⟨rfl, Lib.hid (HFq.out.drewN _)⟩
        case rest =>
          obtain ⟨rfl, HFs⟩ := hcut
          clear HFq HFp M1 HIa HIb HP2
          go_wp2
          go_loopg [18, 19, 20] ln (fun kx s18 s19 s20 wr => ∃ k : Nat, s20 = .int .i64 k ∧ s18 = .bool ((L.take k).any (is n)) ∧ s19 = .bool (decide (n ∈ L.take k)) ∧ k ≤ ln ∧ ln - k ≤ kx ∧ Hid (Fr (fun _ => False) wz wr))
          case atStart => exact ⟨0, rfl, by simp, by simp, by omega, by omega, HFs⟩
          case round =>
            obtain ⟨k, rfl, rfl, rfl, hk, hkx, HFk⟩ := hrel
            obtain ⟨wi, rfl⟩ : ∃ wi, wi = wr := ⟨wr, rfl⟩
            have wk1 := wrap_nat1 k (by omega)
            by_cases hkl : k < ln
            · have hklz : (k : Int) < ln := by omega
              obtain ⟨bk, ok, hBk, cx⟩ := lies_nat HLz.out HFk.out k (by rw [HLn.out]; exact hkl)
              subst hBk
              have HTk := Lib.hid (HTl.out k hkl)
              have hxL := HMe.out k hkl
              have HLk := Lib.hid (fun (w' : World) (f : Fr (fun _ => False) wz w') => lies_nat HLz.out f k (by rw [HLn.out]; exact hkl))
              obtain ⟨v, hv⟩ : ∃ v, L.getD k 0 = v := ⟨_, rfl⟩
              rw [hv] at cx HTk hxL HLk
              have hvN := P5.out v hxL
              have HI3 := Lib.hid (HIs.out n v hlt hvN wi (HFz.out.trans HFk.out (fun _ _ e => e)))
              have HNo : Hid (¬ v = n → is n v = true → decide (n ∈ L.take k) = false) := Lib.hid (fun h1 h2 => decide_eq_false (fun hm => by
                have := P3.out n v (List.mem_of_mem_take hm) hxL h1
                rw [h2] at this; cases this))
              have HA1 : Hid ((L.take (k + 1)).any (is n) = ((L.take k).any (is n) || is n v)) := Lib.hid (by rw [HTk.out, List.any_append]; simp)
              have HA2 : Hid (decide (n ∈ L.take (k + 1)) = (decide (n ∈ L.take k) || decide (v = n))) := Lib.hid (by
                rw [HTk.out, Bool.eq_iff_iff, decide_eq_true_eq, Bool.or_eq_true, decide_eq_true_eq, decide_eq_true_eq, List.mem_append, List.mem_singleton]
                exact or_congr Iff.rfl ⟨fun e => e.symm, fun e => e.symm⟩)
              obtain ⟨u, hu⟩ : ∃ u, is n v = u := ⟨_, rfl⟩
              obtain ⟨ua, hua⟩ : ∃ u, (L.take k).any (is n) = u := ⟨_, rfl⟩
              obtain ⟨ub, hub⟩ : ∃ u, decide (n ∈ L.take k) = u := ⟨_, rfl⟩
              rw [hu] at HI3 HA1 HNo
              rw [hua] at HA1 ⊢
              rw [hub] at HA2 HNo ⊢
              clear hv hu hua hub hxL
              go_upto_region 20 with (go_at_call 21; refine HI3.out.mono ?_; rintro e w8 ⟨rfl, b8⟩; have HF8 := Lib.hid (HFk.out.then_below b8); clear b8)
              obtain ⟨b3, o3, hB3, cx2⟩ := HLk.out w8 HF8.out
              injection hB3 with hB3
              injection hB3 with e1 e2
              subst e1; subst e2
              go_cut [149] (fun s wc => s = .bool false ∧ w8 = wc)
              case first =>
                by_cases hvn : v = n
                · subst hvn
                  go_wp2
                  go_meet
                  exact ⟨rfl, rfl⟩
                · have hvz : ¬ ((v : Int) = (n : Int)) := by omega
                  have hvb : ((v : Int) == (n : Int)) = false := by simpa using hvz
                  have HNo2 := Lib.hid (HNo.out hvn)
                  clear HNo hvn
                  cases u
                  · go_wp2
                    go_meet
                    exact ⟨rfl, rfl⟩
                  · have hub2 := HNo2.out rfl
                    subst hub2
                    go_wp2
                    go_meet
                    exact ⟨rfl, rfl⟩
              case rest =>
                obtain ⟨rfl, rfl⟩ := hcut
                go_upto_region 22 with fail
                go_cut [18] (fun s wc => s = .bool (ua || u) ∧ w8 = wc)
                case first =>
                  cases ua
                  · go_wp2
                    go_meet
                    exact ⟨rfl, rfl⟩
                  · go_wp2
                    go_meet
                    exact ⟨rfl, rfl⟩
                case rest =>
                  obtain ⟨rfl, rfl⟩ := hcut
                  cases ub
                  · by_cases hvn : v = n
                    · subst hvn
                      rw [decide_eq_true rfl] at HA2
                      go_wp2
                      go_roundg (ln - (k + 1))
                      case measure => omega
                      case rel => exact ⟨k + 1, by go_num, by rw [HA1.out], by rw [HA2.out]; rfl, by omega, Nat.le_refl _, HF8⟩
                    · have hvz : ¬ ((v : Int) = (n : Int)) := by omega
                      have hvb : ((v : Int) == (n : Int)) = false := by simpa using hvz
                      rw [decide_eq_false hvn] at HA2
                      clear hvn
                      go_wp2
                      go_roundg (ln - (k + 1))
                      case measure => omega
                      case rel => exact ⟨k + 1, by go_num, by rw [HA1.out], by rw [HA2.out]; rfl, by omega, Nat.le_refl _, HF8⟩
                  · go_wp2
                    go_roundg (ln - (k + 1))
                    case measure => omega
                    case rel => exact ⟨k + 1, by go_num, by rw [HA1.out], by rw [HA2.out]; rfl, by omega, Nat.le_refl _, HF8⟩
            · obtain rfl : k = ln := by omega
              rw [show (L.take k).any (is n) = (x && y) from by rw [HTa.out]; exact HP4.out]
              cases x
              · go_wp2
                go_roundg (N - (n + 1))
                case measure => omega
                case rel => exact ⟨n + 1, by go_num, by omega, Nat.le_refl _, HFk⟩
              · cases y
                · go_wp2
                  go_roundg (N - (n + 1))
                  case measure => omega
                  case rel => exact ⟨n + 1, by go_num, by omega, Nat.le_refl _, HFk⟩
                · go_wp2
                  go_roundg (N - (n + 1))
                  case measure => omega
                  case rel => exact ⟨n + 1, by go_num, by omega, Nat.le_refl _, HFk⟩
      · obtain rfl : n = N := by omega
        have HFo := Lib.hid (HFz.out.trans HFr.out (fun _ _ e => e))
        go_wp2_with (go_at_call 12; refine (works_fr _).mono ?_; rintro e w7 ⟨rfl, f7⟩; have HF7 := Lib.hid (HFo.out.trans f7 (fun _ _ e => e)); clear f7)
        go_ret
        exact ⟨rfl, HF7.out.below (fun _ _ e => e)⟩
  · have HE := Lib.hid hE
    obtain ⟨E, hEE⟩ : ∃ E, nodE G [a, b] = E := ⟨_, rfl⟩
    rw [hEE] at hE HBa HE
    have hen : (E == 0) = false := by simpa using hE
    obtain ⟨N, hN⟩ : ∃ N, G.length = N := ⟨_, rfl⟩
    rw [hN] at HBa ⊢
    clear hG hN hEE
    go_enter Try.func7, Try.ntmps7
    go_wp2_with (first
      | (go_at_call 22; refine (HBa.out _ (Fr.refl _ _)).mono ?_; rintro e w1 h; obtain ⟨A1, d1, rfl, hl1, f1⟩ := h.bad HE.out; have HF1 := Lib.hid f1; clear h hl1 f1)
      | (go_at_call 12; refine (works_fr _).mono ?_; rintro e w7 ⟨rfl, f7⟩; have HF7 := Lib.hid (HF1.out.trans f7 (fun _ _ e => e)); clear f7))
    go_ret
    exact ⟨rfl, HF7.out.below (fun _ _ e => e)⟩
end Go.Proofs.Ytfpolfcmfdmifaa

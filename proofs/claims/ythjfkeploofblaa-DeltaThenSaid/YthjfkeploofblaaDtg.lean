/- What is proved: one script behind another one, by the program. Conditions: the ops' cells are there; where the first one may be, it has at most 1000 ops. -/
import Derived.Test.YthjfkeploofblaaDte
import Derived.Test.YthjfkeploofblaaDtf
import Derived.Test.YthjfkeploofblaaDfc
import Derived.Deep.RegionWith
import Derived.OrdersHeld
namespace Go.Proofs.Ythjfkeploofblaa
open Go.RowKit
set_option linter.unusedVariables false

theorem src_rowP {w : World} {base n : Nat} {e : TypeId} {v : Value} {ss : List POp} (h : w.ownsRow base e 4 v n (flatP ss)) : Src Try.prog 4 22 v n (flatP ss) w := by
  rcases own_shape h with ⟨rfl, rfl, h0⟩ | ⟨g, cap, rfl, _⟩
  · rw [h0]
    exact Src.ofNil w Try.underlying22 0
  · refine Src.ofSlice w Try.underlying22 ⟨g, 0, none⟩ n cap (flatP ss) h.1 (fun j u hu => ?_) (fun u hu => ?_)
    · rw [add_off, Nat.zero_add, World.ownsRow.cellAt h j (by have := (List.getElem?_eq_some_iff.1 hu).1; rwa [h.1] at this)]
      exact hu
    · obtain ⟨p, hp, hu⟩ := List.mem_flatMap.1 hu
      exact p.one u hu

set_option maxHeartbeats 12800000 in
set_option maxRecDepth 100000 in
theorem DThen_any (b1 t1 : Int) (A : Option Addr) (c : Nat) (ps : List POp) (b2 t2 : Int) (D : Option Addr) (d : Nat) (qs : List POp) (hl : ps.length ≤ 1000) (w : World) (h : Scr w A c ps) (g : Scr w D d qs) :
    Calls Try.prog 24 #[.agg #[.int .i64 b1, .int .i64 t1, .slice A ps.length c], .agg #[.int .i64 b2, .int .i64 t2, .slice D qs.length d]] w (ReadPost w (thenR b1 t1 (opsO ps) b2 t2 (opsO qs))) := by
  obtain ⟨R, hR⟩ : ∃ R, thenR b1 t1 (opsO ps) b2 t2 (opsO qs) = R := ⟨_, rfl⟩
  obtain ⟨w1, hw1⟩ : ∃ w1, w.alloc (.cells #[.int .i64 b1, .int .i64 t1, .slice A ps.length c] 24) = w1 := ⟨_, rfl⟩
  obtain ⟨w2, hw2⟩ : ∃ w2, w1.alloc (.cells #[.int .i64 b2, .int .i64 t2, .slice D qs.length d] 24) = w2 := ⟨_, rfl⟩
  obtain ⟨w3, hw3⟩ : ∃ w3, w2.alloc (.cells #[.int .i64 0, .int .i64 0, .slice none 0 0] 24) = w3 := ⟨_, rfl⟩
  have F1 : Fr (fun _ => False) w w1 := by subst hw1; exact (Fr.refl _ _).alloc _
  have F2 : Fr (fun _ => False) w1 w2 := by subst hw2; exact (Fr.refl _ _).alloc _
  have F3 : Fr (fun _ => False) w2 w3 := by subst hw3; exact (Fr.refl _ _).alloc _
  have s1 : w1.heap.size = w.heap.size + 1 := by subst hw1; simp
  have s2 : w2.heap.size = w1.heap.size + 1 := by subst hw2; simp
  have s3 : w3.heap.size = w2.heap.size + 1 := by subst hw3; simp
  have HS1 := Lib.hid (show SAt w3 w.heap.size 24 b1 t1 (.slice A ps.length c) by subst hw1; exact ((SAt.new w 24 b1 t1 _).fr F2).fr F3)
  have HS2 := Lib.hid (show SAt w3 w1.heap.size 24 b2 t2 (.slice D qs.length d) by subst hw2; exact (SAt.new w1 24 b2 t2 _).fr F3)
  have HWr := Lib.hid (show Whole w3 w2.heap.size 24 #[.int .i64 0, .int .i64 0, .slice none 0 0] by subst hw3; exact Whole.new _ _ _)
  have HF := Lib.hid ((F1.trans F2 (fun _ _ e => e)).trans F3 (fun _ _ e => e))
  have HSa := Lib.hid (h.fr HF.out)
  have HSb := Lib.hid (g.fr HF.out)
  obtain ⟨ga, hga⟩ : ∃ ga, w.heap.size = ga := ⟨_, rfl⟩
  obtain ⟨gb, hgb⟩ : ∃ gb, w1.heap.size = gb := ⟨_, rfl⟩
  obtain ⟨gr, hgr⟩ : ∃ gr, w2.heap.size = gr := ⟨_, rfl⟩
  rw [hga] at HS1 s1
  rw [hgb] at HS2 s1 s2
  rw [hgr] at HWr s2 s3
  have HZ := Lib.hid (And.intro s1 (And.intro s2 s3))
  have HGa := Lib.hid hga
  have HC1 := Lib.hid (fun w' (s : Scr w' A c ps) => DCheck_any b1 t1 A c ps w' s)
  have HC2 := Lib.hid (fun w' (s : Scr w' D d qs) => DCheck_any b2 t2 D d qs w' s)
  unfold Ans at HC1 HC2
  obtain ⟨x1, hx1⟩ : ∃ x1, chkS b1 t1 (opsO ps) = x1 := ⟨_, rfl⟩
  obtain ⟨x2, hx2⟩ : ∃ x2, chkS b2 t2 (opsO qs) = x2 := ⟨_, rfl⟩
  have hxx1 := chkS_two b1 t1 (opsO ps)
  have hxx2 := chkS_two b2 t2 (opsO qs)
  have HR := Lib.hid hR
  rw [hx1] at HC1 hxx1
  rw [hx2] at HC2 hxx2
  rw [hR]
  obtain ⟨L, hL⟩ : ∃ L, ps.length = L := ⟨_, rfl⟩
  obtain ⟨K, hK⟩ : ∃ K, qs.length = K := ⟨_, rfl⟩
  have HL := Lib.hid hL
  have HK := Lib.hid hK
  have hKc : K ≤ 9223372036854775807 := by have := g.le; have := g.cap; omega
  rw [hL] at hl HS1 HC1 hw1 ⊢
  rw [hK] at HS2 HC2 hw2 ⊢
  have HX := Lib.hid (And.intro hx1 hx2)
  have HFin := Lib.hid (fun (wr : World) (E : Int) (hf : Fr (fun j => w.heap.size ≤ j) w wr) (hT : R = ((0, 0, []), E)) => (by
    subst hT
    exact ⟨none, 0, [], rfl, Scr.none _, rfl, (hf.trans (setScr_fr wr gr _ _ _) (fun i hi e => by omega)).below (fun i hi e => by omega)⟩ : ReadPost w R (.returned (.tuple #[.agg #[.int .i64 0, .int .i64 0, .slice none 0 0], .int .i64 E])) (((wr.setCell ⟨gr, 0, none⟩ (.int .i64 0)).setCell ⟨gr, 1, none⟩ (.int .i64 0)).setCell ⟨gr, 2, none⟩ (.slice none 0 0))))
  clear h g F1 F2 F3 s1 s2 s3 hR hL hK hx1 hx2
  go_enter Try.func24, Try.ntmps24
  obtain ⟨a0, a1, a2⟩ := HS1.out.cells
  obtain ⟨c0, c1, c2⟩ := HS2.out.cells
  (
    obtain ⟨e0, e1, e2⟩ := HWr.out.three
    have z0 := HWr.out.frozen 0
    have z1 := HWr.out.frozen 1
    have z2 := HWr.out.frozen 2)
  go_upto_region 1 with fail
  clear hw1 hw2 hw3 hga hgb hgr
  rcases hxx1 with rfl | rfl
  · rcases hxx2 with rfl | rfl
    · obtain ⟨⟨hb10, hb11⟩, ⟨ht10, ht11⟩, ha3⟩ := chkS_ok HX.out.1
      obtain ⟨⟨hb20, hb21⟩, ⟨ht20, ht21⟩, hc3⟩ := chkS_ok HX.out.2
      by_cases hbt : b2 = t1
      · subst hbt
        have HRe := Lib.hid (show R = ((b1, t2, thenO (opsO ps) (opsO qs)), 0) by rw [← HR.out]; unfold thenR; rw [if_pos ⟨HX.out.1, HX.out.2⟩, if_pos rfl])
        have HA3 := Lib.hid ha3
        have HC3 := Lib.hid hc3
        clear ha3 hc3
        go_upto_region 9 with (first
          | (go_at_call 14; have _ := M1; refine (HC2.out w4 (HSb.out.fr HF4.out)).mono ?_; rintro e w5 ⟨rfl, b5⟩; have HF5 := Lib.hid (HF4.out.then_below b5); obtain ⟨f0, f1, f2⟩ := (HS2.out.fr HF5.out).cells; obtain ⟨h0, h1, h2⟩ := (HS1.out.fr HF5.out).cells; clear b5)
          | (go_at_call 14; refine (HC1.out w3 HSa.out).mono ?_; rintro e w4 ⟨rfl, b4⟩; have HF4 := Lib.hid (Fr.of_below (S := fun _ => False) b4); obtain ⟨d0, d1, d2⟩ := (HS2.out.fr HF4.out).cells; clear b4; have M1 := True.intro))
        have hra := restO_all HA3.out
        have hsa := restO_sum HA3.out
        have HRa := Lib.hid (fun o (ho : o ∈ opsO ps) => (hra.1 o ho).1)
        have HSma := Lib.hid (show sumO (opsO ps) = b2 by omega)
        obtain ⟨T, rfl⟩ := Int.eq_ofNat_of_zero_le ht20
        have hrb := restO_all HC3.out
        have hsb := restO_sum HC3.out
        have HRb := Lib.hid (fun o (ho : o ∈ opsO qs) => (hrb.1 o ho).1)
        have HSmb := Lib.hid (show sumO (opsO qs) = T by omega)
        have hTM : T ≤ 4000 := by omega
        have hKT : K ≤ 4000 := by
          have h1 := hrb.2
          rw [show (opsO qs).length = K by simp [opsO, HK.out]] at h1
          omega
        have HF05 := Lib.hid (HF.out.trans HF5.out (fun _ _ e => e))
        have HSa5 := Lib.hid (HSa.out.fr HF5.out)
        have HSb5 := Lib.hid (HSb.out.fr HF5.out)
        have HNc := Lib.hid (DnewCutter_any A c ps T hTM w5 HSa5.out (fun o ho => (HRa.out o ho).pos) (by have := HSma.out; omega) (by rw [HL.out]; omega))
        rw [HL.out] at HNc
        have HS15 := Lib.hid (HS1.out.fr HF5.out)
        have HS25 := Lib.hid (HS2.out.fr HF5.out)
        have HWr5 := Lib.hid (HWr.out.fr HF5.out (fun e => e))
        have HZ5 := Lib.hid (show gr < w5.heap.size ∧ gb < w5.heap.size ∧ ga < w5.heap.size from by have := HZ.out; have := HF5.out.size; omega)
        clear hra hsa hrb hsb d0 d1 d2 e0 e1 e2 z0 z1 z2 a0 a1 a2 c0 c1 c2 HC1 HC2
        go_upto_region 10 with (go_at_call 49; refine HNc.out.mono ?_; rintro e w6 ⟨gc, g, E, ce, rfl, ctr⟩; have HCt := Lib.hid ctr; have HF6 := Lib.hid (Fr.of_below (S := fun _ => False) ctr.bel); clear ctr)
        clear h0 h1 h2 f0 f1 f2
        have HS16 := Lib.hid (HS15.out.fr HF6.out)
        have HS26 := Lib.hid (HS25.out.fr HF6.out)
        obtain ⟨h0, h1, h2⟩ := HS16.out.cells
        obtain ⟨f0, f1, f2⟩ := HS26.out.cells
        go_upto_region 11 with fail
        obtain ⟨w7, hw7⟩ : ∃ w7, w6.alloc (.cells #[.int .i64 b1, .int .i64 T, .slice none 0 0] 24) = w7 := ⟨_, rfl⟩
        rw [hw7]
        have HF7 := Lib.hid (show Fr (fun _ => False) w6 w7 by subst hw7; exact (Fr.refl _ _).alloc _)
        have HW7 := Lib.hid (show Whole w7 w6.heap.size 24 #[.int .i64 b1, .int .i64 T, .slice none 0 0] by subst hw7; exact Whole.new _ _ _)
        have hs7 : w7.heap.size = w6.heap.size + 1 := by subst hw7; simp
        have HS7 := Lib.hid hs7
        obtain ⟨gs, hgs⟩ : ∃ gs, w6.heap.size = gs := ⟨_, rfl⟩
        rw [hgs] at HW7 HS7 ⊢
        have HLt := Lib.hid (show gc < gs ∧ g < gs from by have := HCt.out.lt; omega)
        have HLt5 := Lib.hid (show w5.heap.size ≤ gs from by have := HF6.out.size; omega)
        have HCt7 := Lib.hid (HCt.out.fr HF7.out (fun _ e => e.elim) (fun e => e) (fun e => e) (fun _ _ e => e))
        have HGs := Lib.hid hgs
        clear hw7 hgs hs7 h0 h1 h2 f0 f1 f2
        obtain ⟨f0, f1, f2⟩ := (HS26.out.fr HF7.out).cells
        obtain ⟨i0, gi, gz0, gz1, gz2⟩ := info_parts infoDO
        go_wp2_with fail
        clear f0 f1 f2
        go_loopw [43] (fun i wr => ∃ (k : Nat) (v : Value) (rs : List POp) (R' : List UInt8), k ≤ K ∧ i = .int .i64 k ∧ Hid (Whole wr gs 24 #[.int .i64 b1, .int .i64 T, v]) ∧ Hid (wr.ownsRow (gs + 1) 57 4 v rs.length (flatP rs)) ∧ Hid (opsO rs = thenO (opsO ps) ((opsO qs).take k)) ∧
          Hid (∀ q ∈ rs, InR g R' q) ∧ Hid ((R'.length : Int) ≤ sumO ((opsO qs).take k) ∧ (rs.length : Int) ≤ sumO ((opsO qs).take k)) ∧ Hid (Ctr w5 wr gc g T E ce A c ps R') ∧ Hid (Fr (fun j => j = g ∨ j = gc ∨ j = gs) w7 wr)) (fun i _ => K - (intOf i).toNat)
        case atStart => exact ⟨0, .slice none 0 0, [], [], by omega, rfl, HW7, Lib.hid (World.ownsRow_nil _ _ _ _), Lib.hid rfl, Lib.hid (by simp), Lib.hid (by simp [sumO_nil]), HCt7, Lib.hid (Fr.refl _ _)⟩
        case round =>
          obtain ⟨k, v, rs, R', hk, rfl, HW, HO, HI, HIn, HB, HC, HFr⟩ := hrel
          obtain ⟨Av, cv, hv, -, -⟩ := own_slice HO.out
          subst hv
          have hk1 : (0 : Int) ≤ k := by omega
          by_cases hlt : k < K
          · have hk2 : (k : Int) < K := by omega
            have HSbr := Lib.hid (HSb5.out.below HC.out.bel)
            obtain ⟨p, hpk⟩ : ∃ p, qs[k]? = some p := ⟨qs[k]'(by rw [HK.out]; exact hlt), List.getElem?_eq_getElem (by rw [HK.out]; exact hlt)⟩
            obtain ⟨o, B, pc⟩ := p
            obtain ⟨ab, ao, rfl⟩ := HSbr.out.addr (by rw [HK.out]; exact hlt)
            obtain ⟨d0, d1, d2, d3⟩ := HSbr.out.cells hpk
            have HOk := Lib.hid (HSbr.out.at_ok hpk)
            have hok : (opsO qs)[k]? = some o := by simp [opsO, hpk]
            have hsk := sum_take_succ hok
            have hro := HRb.out o (List.mem_of_getElem? hok)
            have hmx : sumO ((opsO qs).take (k + 1)) ≤ T := by
              rw [← HSmb.out]
              rcases (by omega : k + 1 = K ∨ k + 1 < K) with h1 | h1
              · rw [List.take_of_length_le (by simp [opsO, HK.out]; omega)]; exact Int.le_refl _
              · have := sum_take_mono (fun o ho => (HRb.out o ho).pos) (i := k + 1) (j := K) h1 (by simp [opsO, HK.out])
                rw [List.take_of_length_le (i := K) (by simp [opsO, HK.out])] at this
                omega
            have htk : (opsO qs).take (k + 1) = (opsO qs).take k ++ [o] := by rw [List.take_add_one, hok]; rfl
            have HTk := Lib.hid htk
            have HSk := Lib.hid hsk
            obtain ⟨w8, hw8⟩ : ∃ w8, wr.alloc (.cells #[.bool o.copy, .int .i64 o.frm, .int .i64 o.n, .slice B o.b.length pc] 57) = w8 := ⟨_, rfl⟩
            have HF8 := Lib.hid (show Fr (fun _ => False) wr w8 by subst hw8; exact (Fr.refl _ _).alloc _)
            have HO8 := Lib.hid (show OpAt w8 wr.heap.size 57 o B pc by subst hw8; exact OpAt.new _ _ _ _ _)
            have HW8 := Lib.hid (HW.out.fr HF8.out (fun e => e))
            have HR8 := Lib.hid (own_fr HO.out HF8.out (fun _ _ e => e))
            have HC8 := Lib.hid (HC.out.fr HF8.out (fun _ e => e.elim) (fun e => e) (fun e => e) (fun _ _ e => e))
            have HLi := Lib.hid (HOk.out.lies.fr HF8.out (fun _ _ e => e))
            obtain ⟨f0, f1, f2, f3⟩ := HO8.out.cells
            obtain ⟨s0, s1, s2⟩ := HW8.out.three
            have z2 := HW8.out.frozen 2
            have hB1 := HB.out.1
            have hB2 := HB.out.2
            obtain ⟨rn, hrn⟩ : ∃ rn, rs.length = rn := ⟨_, rfl⟩
            have HRn := Lib.hid hrn
            rw [hrn] at hB2 HO HR8 HW8 s2
            simp only at d0 d1 d2 d3
            have hsz := HFr.out.size
            have HSz := Lib.hid (show gs + 1 ≤ wr.heap.size from by have := HS7.out; omega)
            clear hpk hok hrn hsz htk
            obtain ⟨cp, fo, no, bs⟩ := o
            simp only at d0 d1 d2 d3 f0 f1 f2 f3 HLi hw8
            cases cp
            · rcases hro with ⟨r1, _⟩ | ⟨_, r2, r3, r4⟩
              · cases r1
              · simp only at r2 r3 r4
                subst r3
                subst r4
                have hsz2 : (⟨false, 0, 0, bs⟩ : DOp).size = (bs.length : Int) := rfl
                rw [hsz2] at hsk
                obtain ⟨BL, hBL⟩ : ∃ BL, bs.length = BL := ⟨_, rfl⟩
                obtain ⟨RL, hRL⟩ : ∃ RL, R'.length = RL := ⟨_, rfl⟩
                have HBL := Lib.hid hBL
                have HRL := Lib.hid hRL
                have HFs := Lib.hid (fun w' (ct : Ctr w5 w' gc g T E ce A c ps R') (l : Lies w' B (bytesV bs)) => Dfresh_any ct hTM B pc bs r2 (by omega) l)
                rw [hBL, hRL] at HFs
                rw [hBL] at hsk r2 f3 d3 hw8
                rw [hRL] at hB1
                (
                  obtain ⟨SS, hSS⟩ : ∃ SS : Nat → Prop, SS = fun j => j = g ∨ j = gc ∨ j = gs ∨ Value.ownBlock (.slice Av rn cv) = some j := ⟨_, rfl⟩
                  have HSd : Hid (∀ j, SS j ↔ (j = g ∨ j = gc ∨ j = gs ∨ Value.ownBlock (.slice Av rn cv) = some j)) := Lib.hid (fun j => by rw [hSS])
                  have HSn : Hid (¬ SS wr.heap.size) := Lib.hid (fun e => by
                    have := HLt.out
                    have := HSz.out
                    rcases (HSd.out _).1 e with e | e | e | e
                    · omega
                    · omega
                    · omega
                    · have := (World.ownsRow.lt HO.out _ e).2
                      omega))
                have Hq3 := Lib.hid (show ∀ w', Fr SS w8 w' → w'.cell? ⟨wr.heap.size, 3, none⟩ = some (.slice B BL pc) from fun w' x => x.cell f3 HSn.out)
                clear hBL hRL
                go_upto_region 16 with fail
                clear hw8
                clear hSS d0 d1 d2 d3 f0 f1 f2 f3 s0 s1 s2 z2
                refine wp_region_held (S := fun w' => Fr SS w8 w') (by kernel_rfl) ?_
                have HSq := Lib.hid (show Fr SS w8 w8.drew from (Fr.refl _ w8).drew)
                (
                  refine wpAnyH_takeM (i := 0) (v := .pointer (some ⟨gs, 2, none⟩)) 62 rfl rfl (by kernel_rfl) (by kernel_rfl) (by kernel_rfl) (fun _ _ _ h => h) (.inl ⟨by rfl, ?_⟩) HSq.out ?_
                  · intro xw xf
                    go_simp)
                (
                  refine wpAnyH_takeM (i := 2) (v := .pointer (some ⟨gc, 0, none⟩)) 64 rfl rfl (by kernel_rfl) (by kernel_rfl) (by kernel_rfl) (fun _ _ _ h => h) (.inl ⟨by rfl, ?_⟩) HSq.out ?_
                  · intro xw xf
                    go_simp)
                (
                  refine wpAnyH_takeM (i := 3) (v := .pointer (some ⟨wr.heap.size, 3, none⟩)) 65 rfl rfl (by kernel_rfl) (by kernel_rfl) (by kernel_rfl) (fun _ _ _ h => h) (.inl ⟨by rfl, ?_⟩) HSq.out ?_
                  · intro xw xf
                    go_simp)
                (
                  refine wpAnyH_takeM (i := 4) (v := .slice B BL pc) 66 rfl rfl (by kernel_rfl) (by kernel_rfl) (by kernel_rfl) (fun _ _ _ h => h) (.inl ⟨by rfl, ?_⟩) HSq.out ?_
                  · intro xw xf
                    have xc := Hq3.out xw xf
                    go_simp)
                (
                  try simp only [List.setIfInBounds_toArray, List.set_cons_succ, List.set_cons_zero]
                  change wpAnyH _ _ _ _ _ _ _ _ (World.drew w8)
                  have HFd8 := Lib.hid (show Fr (fun _ => False) w8 w8.drew from (Fr.refl _ w8).drew)
                  obtain ⟨wd, hwd⟩ : ∃ wd, w8.drew = wd := ⟨_, rfl⟩
                  rw [hwd]
                  rw [hwd] at HFd8
                  have HFd := Lib.hid (show Fr SS w8 wd from HFd8.out.mono (fun _ _ e => e.elim))
                  have HWd := Lib.hid (HW8.out.fr HFd8.out (fun e => e))
                  have HRd := Lib.hid (own_fr HR8.out HFd8.out (fun _ _ e => e))
                  have HCd := Lib.hid (HC8.out.fr HFd8.out (fun _ e => e.elim) (fun e => e) (fun e => e) (fun _ _ e => e))
                  have kd := (HWd.out.three).2.2)
                have HLd := Lib.hid (HLi.out.fr HFd8.out (fun _ _ e => e))
                clear hwd HSq Hq3
                refine wpAnyH_all (rs := [1, 5]) (by kernel_rfl) (by simp) ?_
                intro i hi
                simp only [List.mem_cons, List.not_mem_nil, or_false] at hi
                rcases hi with rfl | rfl
                · (
                  refine wpOp_step rfl (fun K hK => ?_)
                  go_simp
                  refine hK _ _ ⟨HFd.out, ?_⟩
                  clear hK K)
                  (
                    try simp only [List.setIfInBounds_toArray, List.set_cons_succ, List.set_cons_zero]
                    refine wpAnyH_all (rs := [5]) (by kernel_rfl) (by simp) ?_
                    intro i hi
                    simp only [List.mem_cons, List.not_mem_nil, or_false] at hi
                    subst hi)
                  (
                    refine wpOp_step rfl (fun K hK => ?_)
                    go_simp
                    go_wp2_with (go_at_call 51; refine (HFs.out wd HCd.out HLd.out).mono ?_; rintro e w9 ⟨rfl, ct9, fr9⟩
                                 have HC9 := Lib.hid ct9
                                 have HF9 := Lib.hid (show Fr SS wd w9 from fr9.mono (fun i hi e => (HSd.out i).2 (e.elim .inl (fun e => .inr (.inl e)))))
                                 have HW9 := Lib.hid (HWd.out.fr fr9 (fun e => by have := HLt.out; omega))
                                 have HR9 := Lib.hid (own_fr HRd.out fr9 (fun j hj e => by have := (World.ownsRow.lt HRd.out j hj).1; have := HLt.out; omega))
                                 have HFs9 := Lib.hid (HFd.out.trans HF9.out (fun _ _ e => e))
                                 have k2 := (HW9.out.three).2.2
                                 have HSz9 := Lib.hid fr9.size
                                 clear ct9 fr9)
                    refine ⟨HFs9.out, ?_⟩)
                  (
                    try simp only [List.setIfInBounds_toArray, List.set_cons_succ, List.set_cons_zero]
                    refine wpAnyH_all (rs := [6]) (by kernel_rfl) (by simp) ?_
                    intro i hi
                    simp only [List.mem_cons, List.not_mem_nil, or_false] at hi
                    subst hi)
                  (
                    refine wpOp_step rfl (fun K hK => ?_)
                    obtain ⟨wb, hwb⟩ : ∃ wb, w9.alloc (.cells #[.bool false, .int .i64 0, .int .i64 0, .slice (some ⟨g, RL, none⟩) BL BL] 57) = wb := ⟨_, rfl⟩
                    have HFb := Lib.hid (show Fr (fun _ => False) w9 wb by rw [← hwb]; exact (Fr.refl _ w9).alloc _)
                    have HSrb := Lib.hid (show Src Try.prog 4 22 (.slice (some ⟨w9.heap.size, 0, none⟩) 1 1) 1 [.bool false, .int .i64 0, .int .i64 0, .slice (some ⟨g, RL, none⟩) BL BL] wb from by
                      rw [← hwb]
                      have := src_op w9 22 57 Try.underlying22 ⟨newO bs, some ⟨g, RL, none⟩, BL⟩
                      simpa only [POp.cells, newO, HBL.out] using this)
                    have HFsb := Lib.hid (HFs9.out.trans HFb.out (fun _ _ e => e.elim))
                    have HWb := Lib.hid (HW9.out.fr HFb.out (fun e => e))
                    have HRb' := Lib.hid (own_fr HR9.out HFb.out (fun _ _ e => e))
                    have HCb := Lib.hid (HC9.out.fr HFb.out (fun _ e => e.elim) (fun e => e) (fun e => e) (fun _ _ e => e))
                    have kb := (HWb.out.three).2.2
                    have HSzb := Lib.hid HFb.out.size
                    go_simp
                    refine hK _ _ ⟨HFsb.out, ?_⟩
                    clear hK K hwb)
                  (
                    (
                      try simp only [List.setIfInBounds_toArray, List.set_cons_succ, List.set_cons_zero]
                      refine wpAnyH_all (rs := [7]) (by kernel_rfl) (by simp) ?_
                      intro i hi
                      simp only [List.mem_cons, List.not_mem_nil, or_false] at hi
                      subst hi)
                    refine wpOp_step rfl (fun K hK => ?_)
                    refine step_append_row _ (by rfl) (.tmp 63) (.tmp 68) 22 22 (by rfl) (gs + 1) 57 i0 (.agg zeroO) 4 48 Try.underlying22 gi gz0 gz1 gz2 (by rfl) (.slice Av rn cv) rn (flatP rs) (by rfl) HRb'.out (.slice (some ⟨w9.heap.size, 0, none⟩) 1 1) 1 _ (by rfl) HSrb.out (by unfold maxLen; omega) (by omega) (by have := HSz.out; have := HSz9.out; have := HSzb.out; have := HFd8.out.size; have := HF8.out.size; omega) ?_
                    intro v10 w10 o10 g10 at10
                    have hf10 : Fr (fun j => Value.ownBlock (.slice Av rn cv) = some j) wb w10 := (Fr.refl _ wb).grown g10 (fun j hj _ => hj)
                    obtain ⟨A10, c10, hv10, -, -⟩ := own_slice o10
                    subst hv10
                    have HO10 := Lib.hid o10
                    have HFs10 := Lib.hid (HFsb.out.trans hf10 (fun i hi e => (HSd.out i).2 (.inr (.inr (.inr e)))))
                    have hlo : ∀ i, Value.ownBlock (.slice Av rn cv) = some i → gs + 1 ≤ i := fun i e => (World.ownsRow.lt HR9.out i e).1
                    have HW10 := Lib.hid (HWb.out.fr hf10 (fun e => by have := hlo _ e; omega))
                    have HC10 := Lib.hid (HCb.out.fr hf10 (fun j e => by have := hlo _ e; have := HLt5.out; omega) (fun e => by have := hlo _ e; have := HLt.out; omega) (fun e => by have := hlo _ e; have := HLt.out; omega) (fun j hj e => by have := hlo _ e; have := (World.ownsRow.lt HCt.out.ends j hj).2; have := HGs.out; omega))
                    have k10 := (HW10.out.three).2.2
                    have z10 := HW10.out.frozen 2
                    clear o10 g10 at10 hf10 hlo
                    go_simp
                    refine hK _ _ ⟨HFs10.out, ?_⟩
                    clear hK K
                    have HSq := HFs10
                    try simp only [List.setIfInBounds_toArray, List.set_cons_succ, List.set_cons_zero]
                    (
                      refine wpAnyH_takeM (i := 8) (v := .pointer (some ⟨gs, 2, none⟩)) 70 rfl rfl (by kernel_rfl) (by kernel_rfl) (by kernel_rfl) (fun _ _ _ h => h) (.inl ⟨by rfl, ?_⟩) HSq.out ?_
                      · intro xw xf
                        go_simp)
                    clear HSq
                    (
                      try simp only [List.setIfInBounds_toArray, List.set_cons_succ, List.set_cons_zero]
                      refine wpAnyH_all (rs := [9]) (by kernel_rfl) (by simp) ?_
                      intro i hi
                      simp only [List.mem_cons, List.not_mem_nil, or_false] at hi
                      subst hi)
                    refine wpOp_step rfl (fun K hK => ?_)
                    have HSet := Lib.hid (show Fr (fun j => j = gs) w10 (w10.setCell ⟨gs, 2, none⟩ (.slice A10 (rn + 1) c10)) from Fr.setCell (S := fun j => j = gs) (p := ⟨gs, 2, none⟩) (Fr.refl _ w10) (fun _ => rfl) _)
                    go_simp
                    refine hK _ _ ⟨HFs10.out.trans HSet.out (fun i hi e => (HSd.out i).2 (.inr (.inr (.inl e)))), ?_⟩
                    clear hK K
                    refine wpAnyH_done (by kernel_rfl) ?_ _
                    go_wp2_with fail
                    go_roundw
                    case rel =>
                      have hlt := HLt.out
                      have h7 := HS7.out
                      have h5 := HLt5.out
                      refine ⟨k + 1, _, rs ++ [⟨newO bs, some ⟨g, RL, none⟩, BL⟩], R' ++ bs, by omega, by go_num, Lib.hid (HW10.out.set 2 _), Lib.hid ?_, Lib.hid ?_, Lib.hid ?_, Lib.hid ?_, Lib.hid ?_, Lib.hid ?_⟩
                      · rw [List.length_append, flatP_append, flatP_one, HRn.out]
                        have := own_fr HO10.out HSet.out (fun j hj e => by have := (World.ownsRow.lt HO10.out j hj).1; omega)
                        simpa only [POp.cells, newO, HBL.out, List.length_singleton] using this
                      · rw [opsO_append, HI.out, HTk.out, thenO_append, thenO_cons, if_neg (by simp)]
                        simp [thenO, opsO]
                      · intro q hq
                        rcases List.mem_append.1 hq with h6 | h6
                        · exact (HIn.out q h6).more bs
                        · rw [List.mem_singleton.1 h6]
                          refine ⟨⟨⟨by simp [newO], by simp [newO]⟩, ⟨by simp [newO], by simp [newO]⟩⟩, .inr ⟨RL, rfl, by simp only [newO, HBL.out], by simp only [newO, HBL.out]; omega, by simp only [newO, List.length_append, HBL.out, HRL.out]; omega, ?_⟩⟩
                          simp only [newO]
                          rw [← HRL.out, List.drop_left, List.take_length]
                      · rw [hsk, List.length_append, List.length_append, HRn.out, HBL.out, HRL.out]
                        simp
                        omega
                      · exact HC10.out.fr HSet.out (fun j e => by omega) (fun e => by omega) (fun e => by omega) (fun j hj e => by have := (World.ownsRow.lt HCt.out.ends j hj).2; have := HGs.out; omega)
                      · refine (((HFr.out.trans HF8.out (fun _ _ e => e.elim)).trans HFs10.out (fun i hi e => ?_)).trans HSet.out (fun i hi e => .inr (.inr e)))
                        rcases (HSd.out i).1 e with e | e | e | e
                        · exact .inl e
                        · exact .inr (.inl e)
                        · exact .inr (.inr e)
                        · have := (World.ownsRow.lt HO.out i e).1
                          omega
                    case measure => simp [intOf]; omega)
                · (
                  refine wpOp_step rfl (fun K hK => ?_)
                  go_simp
                  go_wp2_with (go_at_call 51; refine (HFs.out wd HCd.out HLd.out).mono ?_; rintro e w9 ⟨rfl, ct9, fr9⟩
                               have HC9 := Lib.hid ct9
                               have HF9 := Lib.hid (show Fr SS wd w9 from fr9.mono (fun i hi e => (HSd.out i).2 (e.elim .inl (fun e => .inr (.inl e)))))
                               have HW9 := Lib.hid (HWd.out.fr fr9 (fun e => by have := HLt.out; omega))
                               have HR9 := Lib.hid (own_fr HRd.out fr9 (fun j hj e => by have := (World.ownsRow.lt HRd.out j hj).1; have := HLt.out; omega))
                               have HFs9 := Lib.hid (HFd.out.trans HF9.out (fun _ _ e => e))
                               have k2 := (HW9.out.three).2.2
                               have HSz9 := Lib.hid fr9.size
                               clear ct9 fr9)
                  refine ⟨HFs9.out, ?_⟩)
                  try simp only [List.setIfInBounds_toArray, List.set_cons_succ, List.set_cons_zero]
                  refine wpAnyH_all (rs := [1, 6]) (by kernel_rfl) (by simp) ?_
                  intro i hi
                  simp only [List.mem_cons, List.not_mem_nil, or_false] at hi
                  rcases hi with rfl | rfl
                  · (
                    refine wpOp_step rfl (fun K hK => ?_)
                    go_simp
                    refine hK _ _ ⟨HFs9.out, ?_⟩
                    clear hK K)
                    (
                      try simp only [List.setIfInBounds_toArray, List.set_cons_succ, List.set_cons_zero]
                      refine wpAnyH_all (rs := [6]) (by kernel_rfl) (by simp) ?_
                      intro i hi
                      simp only [List.mem_cons, List.not_mem_nil, or_false] at hi
                      subst hi)
                    (
                      refine wpOp_step rfl (fun K hK => ?_)
                      obtain ⟨wb, hwb⟩ : ∃ wb, w9.alloc (.cells #[.bool false, .int .i64 0, .int .i64 0, .slice (some ⟨g, RL, none⟩) BL BL] 57) = wb := ⟨_, rfl⟩
                      have HFb := Lib.hid (show Fr (fun _ => False) w9 wb by rw [← hwb]; exact (Fr.refl _ w9).alloc _)
                      have HSrb := Lib.hid (show Src Try.prog 4 22 (.slice (some ⟨w9.heap.size, 0, none⟩) 1 1) 1 [.bool false, .int .i64 0, .int .i64 0, .slice (some ⟨g, RL, none⟩) BL BL] wb from by
                        rw [← hwb]
                        have := src_op w9 22 57 Try.underlying22 ⟨newO bs, some ⟨g, RL, none⟩, BL⟩
                        simpa only [POp.cells, newO, HBL.out] using this)
                      have HFsb := Lib.hid (HFs9.out.trans HFb.out (fun _ _ e => e.elim))
                      have HWb := Lib.hid (HW9.out.fr HFb.out (fun e => e))
                      have HRb' := Lib.hid (own_fr HR9.out HFb.out (fun _ _ e => e))
                      have HCb := Lib.hid (HC9.out.fr HFb.out (fun _ e => e.elim) (fun e => e) (fun e => e) (fun _ _ e => e))
                      have kb := (HWb.out.three).2.2
                      have HSzb := Lib.hid HFb.out.size
                      go_simp
                      refine hK _ _ ⟨HFsb.out, ?_⟩
                      clear hK K hwb)
                    (
                      (
                        try simp only [List.setIfInBounds_toArray, List.set_cons_succ, List.set_cons_zero]
                        refine wpAnyH_all (rs := [7]) (by kernel_rfl) (by simp) ?_
                        intro i hi
                        simp only [List.mem_cons, List.not_mem_nil, or_false] at hi
                        subst hi)
                      refine wpOp_step rfl (fun K hK => ?_)
                      refine step_append_row _ (by rfl) (.tmp 63) (.tmp 68) 22 22 (by rfl) (gs + 1) 57 i0 (.agg zeroO) 4 48 Try.underlying22 gi gz0 gz1 gz2 (by rfl) (.slice Av rn cv) rn (flatP rs) (by rfl) HRb'.out (.slice (some ⟨w9.heap.size, 0, none⟩) 1 1) 1 _ (by rfl) HSrb.out (by unfold maxLen; omega) (by omega) (by have := HSz.out; have := HSz9.out; have := HSzb.out; have := HFd8.out.size; have := HF8.out.size; omega) ?_
                      intro v10 w10 o10 g10 at10
                      have hf10 : Fr (fun j => Value.ownBlock (.slice Av rn cv) = some j) wb w10 := (Fr.refl _ wb).grown g10 (fun j hj _ => hj)
                      obtain ⟨A10, c10, hv10, -, -⟩ := own_slice o10
                      subst hv10
                      have HO10 := Lib.hid o10
                      have HFs10 := Lib.hid (HFsb.out.trans hf10 (fun i hi e => (HSd.out i).2 (.inr (.inr (.inr e)))))
                      have hlo : ∀ i, Value.ownBlock (.slice Av rn cv) = some i → gs + 1 ≤ i := fun i e => (World.ownsRow.lt HR9.out i e).1
                      have HW10 := Lib.hid (HWb.out.fr hf10 (fun e => by have := hlo _ e; omega))
                      have HC10 := Lib.hid (HCb.out.fr hf10 (fun j e => by have := hlo _ e; have := HLt5.out; omega) (fun e => by have := hlo _ e; have := HLt.out; omega) (fun e => by have := hlo _ e; have := HLt.out; omega) (fun j hj e => by have := hlo _ e; have := (World.ownsRow.lt HCt.out.ends j hj).2; have := HGs.out; omega))
                      have k10 := (HW10.out.three).2.2
                      have z10 := HW10.out.frozen 2
                      clear o10 g10 at10 hf10 hlo
                      go_simp
                      refine hK _ _ ⟨HFs10.out, ?_⟩
                      clear hK K
                      have HSq := HFs10
                      try simp only [List.setIfInBounds_toArray, List.set_cons_succ, List.set_cons_zero]
                      (
                        refine wpAnyH_takeM (i := 8) (v := .pointer (some ⟨gs, 2, none⟩)) 70 rfl rfl (by kernel_rfl) (by kernel_rfl) (by kernel_rfl) (fun _ _ _ h => h) (.inl ⟨by rfl, ?_⟩) HSq.out ?_
                        · intro xw xf
                          go_simp)
                      clear HSq
                      (
                        try simp only [List.setIfInBounds_toArray, List.set_cons_succ, List.set_cons_zero]
                        refine wpAnyH_all (rs := [9]) (by kernel_rfl) (by simp) ?_
                        intro i hi
                        simp only [List.mem_cons, List.not_mem_nil, or_false] at hi
                        subst hi)
                      refine wpOp_step rfl (fun K hK => ?_)
                      have HSet := Lib.hid (show Fr (fun j => j = gs) w10 (w10.setCell ⟨gs, 2, none⟩ (.slice A10 (rn + 1) c10)) from Fr.setCell (S := fun j => j = gs) (p := ⟨gs, 2, none⟩) (Fr.refl _ w10) (fun _ => rfl) _)
                      go_simp
                      refine hK _ _ ⟨HFs10.out.trans HSet.out (fun i hi e => (HSd.out i).2 (.inr (.inr (.inl e)))), ?_⟩
                      clear hK K
                      refine wpAnyH_done (by kernel_rfl) ?_ _
                      go_wp2_with fail
                      go_roundw
                      case rel =>
                        have hlt := HLt.out
                        have h7 := HS7.out
                        have h5 := HLt5.out
                        refine ⟨k + 1, _, rs ++ [⟨newO bs, some ⟨g, RL, none⟩, BL⟩], R' ++ bs, by omega, by go_num, Lib.hid (HW10.out.set 2 _), Lib.hid ?_, Lib.hid ?_, Lib.hid ?_, Lib.hid ?_, Lib.hid ?_, Lib.hid ?_⟩
                        · rw [List.length_append, flatP_append, flatP_one, HRn.out]
                          have := own_fr HO10.out HSet.out (fun j hj e => by have := (World.ownsRow.lt HO10.out j hj).1; omega)
                          simpa only [POp.cells, newO, HBL.out, List.length_singleton] using this
                        · rw [opsO_append, HI.out, HTk.out, thenO_append, thenO_cons, if_neg (by simp)]
                          simp [thenO, opsO]
                        · intro q hq
                          rcases List.mem_append.1 hq with h6 | h6
                          · exact (HIn.out q h6).more bs
                          · rw [List.mem_singleton.1 h6]
                            refine ⟨⟨⟨by simp [newO], by simp [newO]⟩, ⟨by simp [newO], by simp [newO]⟩⟩, .inr ⟨RL, rfl, by simp only [newO, HBL.out], by simp only [newO, HBL.out]; omega, by simp only [newO, List.length_append, HBL.out, HRL.out]; omega, ?_⟩⟩
                            simp only [newO]
                            rw [← HRL.out, List.drop_left, List.take_length]
                        · rw [hsk, List.length_append, List.length_append, HRn.out, HBL.out, HRL.out]
                          simp
                          omega
                        · exact HC10.out.fr HSet.out (fun j e => by omega) (fun e => by omega) (fun e => by omega) (fun j hj e => by have := (World.ownsRow.lt HCt.out.ends j hj).2; have := HGs.out; omega)
                        · refine (((HFr.out.trans HF8.out (fun _ _ e => e.elim)).trans HFs10.out (fun i hi e => ?_)).trans HSet.out (fun i hi e => .inr (.inr e)))
                          rcases (HSd.out i).1 e with e | e | e | e
                          · exact .inl e
                          · exact .inr (.inl e)
                          · exact .inr (.inr e)
                          · have := (World.ownsRow.lt HO.out i e).1
                            omega
                      case measure => simp [intOf]; omega)
                  · (
                    refine wpOp_step rfl (fun K hK => ?_)
                    obtain ⟨wb, hwb⟩ : ∃ wb, w9.alloc (.cells #[.bool false, .int .i64 0, .int .i64 0, .slice (some ⟨g, RL, none⟩) BL BL] 57) = wb := ⟨_, rfl⟩
                    have HFb := Lib.hid (show Fr (fun _ => False) w9 wb by rw [← hwb]; exact (Fr.refl _ w9).alloc _)
                    have HSrb := Lib.hid (show Src Try.prog 4 22 (.slice (some ⟨w9.heap.size, 0, none⟩) 1 1) 1 [.bool false, .int .i64 0, .int .i64 0, .slice (some ⟨g, RL, none⟩) BL BL] wb from by
                      rw [← hwb]
                      have := src_op w9 22 57 Try.underlying22 ⟨newO bs, some ⟨g, RL, none⟩, BL⟩
                      simpa only [POp.cells, newO, HBL.out] using this)
                    have HFsb := Lib.hid (HFs9.out.trans HFb.out (fun _ _ e => e.elim))
                    have HWb := Lib.hid (HW9.out.fr HFb.out (fun e => e))
                    have HRb' := Lib.hid (own_fr HR9.out HFb.out (fun _ _ e => e))
                    have HCb := Lib.hid (HC9.out.fr HFb.out (fun _ e => e.elim) (fun e => e) (fun e => e) (fun _ _ e => e))
                    have kb := (HWb.out.three).2.2
                    have HSzb := Lib.hid HFb.out.size
                    go_simp
                    refine hK _ _ ⟨HFsb.out, ?_⟩
                    clear hK K hwb)
                    (
                      try simp only [List.setIfInBounds_toArray, List.set_cons_succ, List.set_cons_zero]
                      refine wpAnyH_all (rs := [1]) (by kernel_rfl) (by simp) ?_
                      intro i hi
                      simp only [List.mem_cons, List.not_mem_nil, or_false] at hi
                      subst hi)
                    (
                      refine wpOp_step rfl (fun K hK => ?_)
                      go_simp
                      refine hK _ _ ⟨HFsb.out, ?_⟩
                      clear hK K)
                    (
                      (
                        try simp only [List.setIfInBounds_toArray, List.set_cons_succ, List.set_cons_zero]
                        refine wpAnyH_all (rs := [7]) (by kernel_rfl) (by simp) ?_
                        intro i hi
                        simp only [List.mem_cons, List.not_mem_nil, or_false] at hi
                        subst hi)
                      refine wpOp_step rfl (fun K hK => ?_)
                      refine step_append_row _ (by rfl) (.tmp 63) (.tmp 68) 22 22 (by rfl) (gs + 1) 57 i0 (.agg zeroO) 4 48 Try.underlying22 gi gz0 gz1 gz2 (by rfl) (.slice Av rn cv) rn (flatP rs) (by rfl) HRb'.out (.slice (some ⟨w9.heap.size, 0, none⟩) 1 1) 1 _ (by rfl) HSrb.out (by unfold maxLen; omega) (by omega) (by have := HSz.out; have := HSz9.out; have := HSzb.out; have := HFd8.out.size; have := HF8.out.size; omega) ?_
                      intro v10 w10 o10 g10 at10
                      have hf10 : Fr (fun j => Value.ownBlock (.slice Av rn cv) = some j) wb w10 := (Fr.refl _ wb).grown g10 (fun j hj _ => hj)
                      obtain ⟨A10, c10, hv10, -, -⟩ := own_slice o10
                      subst hv10
                      have HO10 := Lib.hid o10
                      have HFs10 := Lib.hid (HFsb.out.trans hf10 (fun i hi e => (HSd.out i).2 (.inr (.inr (.inr e)))))
                      have hlo : ∀ i, Value.ownBlock (.slice Av rn cv) = some i → gs + 1 ≤ i := fun i e => (World.ownsRow.lt HR9.out i e).1
                      have HW10 := Lib.hid (HWb.out.fr hf10 (fun e => by have := hlo _ e; omega))
                      have HC10 := Lib.hid (HCb.out.fr hf10 (fun j e => by have := hlo _ e; have := HLt5.out; omega) (fun e => by have := hlo _ e; have := HLt.out; omega) (fun e => by have := hlo _ e; have := HLt.out; omega) (fun j hj e => by have := hlo _ e; have := (World.ownsRow.lt HCt.out.ends j hj).2; have := HGs.out; omega))
                      have k10 := (HW10.out.three).2.2
                      have z10 := HW10.out.frozen 2
                      clear o10 g10 at10 hf10 hlo
                      go_simp
                      refine hK _ _ ⟨HFs10.out, ?_⟩
                      clear hK K
                      have HSq := HFs10
                      try simp only [List.setIfInBounds_toArray, List.set_cons_succ, List.set_cons_zero]
                      (
                        refine wpAnyH_takeM (i := 8) (v := .pointer (some ⟨gs, 2, none⟩)) 70 rfl rfl (by kernel_rfl) (by kernel_rfl) (by kernel_rfl) (fun _ _ _ h => h) (.inl ⟨by rfl, ?_⟩) HSq.out ?_
                        · intro xw xf
                          go_simp)
                      clear HSq
                      (
                        try simp only [List.setIfInBounds_toArray, List.set_cons_succ, List.set_cons_zero]
                        refine wpAnyH_all (rs := [9]) (by kernel_rfl) (by simp) ?_
                        intro i hi
                        simp only [List.mem_cons, List.not_mem_nil, or_false] at hi
                        subst hi)
                      refine wpOp_step rfl (fun K hK => ?_)
                      have HSet := Lib.hid (show Fr (fun j => j = gs) w10 (w10.setCell ⟨gs, 2, none⟩ (.slice A10 (rn + 1) c10)) from Fr.setCell (S := fun j => j = gs) (p := ⟨gs, 2, none⟩) (Fr.refl _ w10) (fun _ => rfl) _)
                      go_simp
                      refine hK _ _ ⟨HFs10.out.trans HSet.out (fun i hi e => (HSd.out i).2 (.inr (.inr (.inl e)))), ?_⟩
                      clear hK K
                      refine wpAnyH_done (by kernel_rfl) ?_ _
                      go_wp2_with fail
                      go_roundw
                      case rel =>
                        have hlt := HLt.out
                        have h7 := HS7.out
                        have h5 := HLt5.out
                        refine ⟨k + 1, _, rs ++ [⟨newO bs, some ⟨g, RL, none⟩, BL⟩], R' ++ bs, by omega, by go_num, Lib.hid (HW10.out.set 2 _), Lib.hid ?_, Lib.hid ?_, Lib.hid ?_, Lib.hid ?_, Lib.hid ?_, Lib.hid ?_⟩
                        · rw [List.length_append, flatP_append, flatP_one, HRn.out]
                          have := own_fr HO10.out HSet.out (fun j hj e => by have := (World.ownsRow.lt HO10.out j hj).1; omega)
                          simpa only [POp.cells, newO, HBL.out, List.length_singleton] using this
                        · rw [opsO_append, HI.out, HTk.out, thenO_append, thenO_cons, if_neg (by simp)]
                          simp [thenO, opsO]
                        · intro q hq
                          rcases List.mem_append.1 hq with h6 | h6
                          · exact (HIn.out q h6).more bs
                          · rw [List.mem_singleton.1 h6]
                            refine ⟨⟨⟨by simp [newO], by simp [newO]⟩, ⟨by simp [newO], by simp [newO]⟩⟩, .inr ⟨RL, rfl, by simp only [newO, HBL.out], by simp only [newO, HBL.out]; omega, by simp only [newO, List.length_append, HBL.out, HRL.out]; omega, ?_⟩⟩
                            simp only [newO]
                            rw [← HRL.out, List.drop_left, List.take_length]
                        · rw [hsk, List.length_append, List.length_append, HRn.out, HBL.out, HRL.out]
                          simp
                          omega
                        · exact HC10.out.fr HSet.out (fun j e => by omega) (fun e => by omega) (fun e => by omega) (fun j hj e => by have := (World.ownsRow.lt HCt.out.ends j hj).2; have := HGs.out; omega)
                        · refine (((HFr.out.trans HF8.out (fun _ _ e => e.elim)).trans HFs10.out (fun i hi e => ?_)).trans HSet.out (fun i hi e => .inr (.inr e)))
                          rcases (HSd.out i).1 e with e | e | e | e
                          · exact .inl e
                          · exact .inr (.inl e)
                          · exact .inr (.inr e)
                          · have := (World.ownsRow.lt HO.out i e).1
                            omega
                      case measure => simp [intOf]; omega)
            · rcases hro with ⟨_, r2, r3, r4, r5⟩ | ⟨r1, _⟩
              · simp only at r2 r3 r4 r5
                have HR5 := Lib.hid r5
                clear r5
                obtain ⟨f, rfl⟩ := Int.eq_ofNat_of_zero_le r3
                obtain ⟨n, rfl⟩ := Int.eq_ofNat_of_zero_le (show 0 ≤ no by omega)
                have hsz2 : (⟨true, f, n, bs⟩ : DOp).size = n := rfl
                rw [hsz2] at hsk
                have hroom : R'.length + n ≤ T := by omega
                have HCu := Lib.hid (fun w' (ct : Ctr w5 w' gc g T E ce A c ps R') => Dcut_any ct HSa5.out hTM b1 hb11 HRa.out (by have := HSma.out; omega) (by rw [HL.out]; omega) f n (by omega) (by rw [HSma.out]; omega) hroom)
                have hfn0 : (0 : Int) ≤ (f : Int) + n := by omega
                have hfn1 : (f : Int) + n ≤ 4000 := by omega
                go_upto_region 15 with fail
                clear hw8
                (
                  obtain ⟨SS, hSS⟩ : ∃ SS : Nat → Prop, SS = fun j => j = g ∨ j = gc ∨ j = gs ∨ Value.ownBlock (.slice Av rn cv) = some j := ⟨_, rfl⟩
                  have HSd : Hid (∀ j, SS j ↔ (j = g ∨ j = gc ∨ j = gs ∨ Value.ownBlock (.slice Av rn cv) = some j)) := Lib.hid (fun j => by rw [hSS])
                  have HSn : Hid (¬ SS wr.heap.size) := Lib.hid (fun e => by
                    have := HLt.out
                    have := HSz.out
                    rcases (HSd.out _).1 e with e | e | e | e
                    · omega
                    · omega
                    · omega
                    · have := (World.ownsRow.lt HO.out _ e).2
                      omega))
                have Hq1 := Lib.hid (show ∀ w', Fr SS w8 w' → w'.cell? ⟨wr.heap.size, 1, none⟩ = some (.int .i64 f) from fun w' x => x.cell f1 HSn.out)
                have Hq2 := Lib.hid (show ∀ w', Fr SS w8 w' → w'.cell? ⟨wr.heap.size, 2, none⟩ = some (.int .i64 n) from fun w' x => x.cell f2 HSn.out)
                have hwf : IntKind.i64.wrap ((f : Int) + n) = (f : Int) + n := by rw [IntKind.wrap_i64]; omega
                clear hSS d0 d1 d2 d3 f0 f1 f2 f3 s0 s1 s2 z2
                refine wp_region_held (S := fun w' => Fr SS w8 w') (by kernel_rfl) ?_
                have HSq := Lib.hid (show Fr SS w8 w8.drew from (Fr.refl _ w8).drew)
                (
                  refine wpAnyH_takeM (i := 0) (v := .pointer (some ⟨gs, 2, none⟩)) 49 rfl rfl (by kernel_rfl) (by kernel_rfl) (by kernel_rfl) (fun _ _ _ h => h) (.inl ⟨by rfl, ?_⟩) HSq.out ?_
                  · intro xw xf
                    go_simp)
                (
                  refine wpAnyH_takeM (i := 2) (v := .pointer (some ⟨gc, 0, none⟩)) 51 rfl rfl (by kernel_rfl) (by kernel_rfl) (by kernel_rfl) (fun _ _ _ h => h) (.inl ⟨by rfl, ?_⟩) HSq.out ?_
                  · intro xw xf
                    go_simp)
                (
                  refine wpAnyH_takeM (i := 3) (v := .pointer (some ⟨wr.heap.size, 1, none⟩)) 52 rfl rfl (by kernel_rfl) (by kernel_rfl) (by kernel_rfl) (fun _ _ _ h => h) (.inl ⟨by rfl, ?_⟩) HSq.out ?_
                  · intro xw xf
                    go_simp)
                (
                  refine wpAnyH_takeM (i := 5) (v := .pointer (some ⟨wr.heap.size, 1, none⟩)) 54 rfl rfl (by kernel_rfl) (by kernel_rfl) (by kernel_rfl) (fun _ _ _ h => h) (.inl ⟨by rfl, ?_⟩) HSq.out ?_
                  · intro xw xf
                    go_simp)
                (
                  refine wpAnyH_takeM (i := 7) (v := .pointer (some ⟨wr.heap.size, 2, none⟩)) 56 rfl rfl (by kernel_rfl) (by kernel_rfl) (by kernel_rfl) (fun _ _ _ h => h) (.inl ⟨by rfl, ?_⟩) HSq.out ?_
                  · intro xw xf
                    go_simp)
                (
                  refine wpAnyH_takeM (i := 4) (v := .int .i64 f) 53 rfl rfl (by kernel_rfl) (by kernel_rfl) (by kernel_rfl) (fun _ _ _ h => h) (.inl ⟨by rfl, ?_⟩) HSq.out ?_
                  · intro xw xf
                    have xc := Hq1.out xw xf
                    go_simp)
                (
                  refine wpAnyH_takeM (i := 6) (v := .int .i64 f) 55 rfl rfl (by kernel_rfl) (by kernel_rfl) (by kernel_rfl) (fun _ _ _ h => h) (.inl ⟨by rfl, ?_⟩) HSq.out ?_
                  · intro xw xf
                    have xc := Hq1.out xw xf
                    go_simp)
                (
                  refine wpAnyH_takeM (i := 8) (v := .int .i64 n) 57 rfl rfl (by kernel_rfl) (by kernel_rfl) (by kernel_rfl) (fun _ _ _ h => h) (.inl ⟨by rfl, ?_⟩) HSq.out ?_
                  · intro xw xf
                    have xc := Hq2.out xw xf
                    go_simp)
                (
                  refine wpAnyH_takeM (i := 9) (v := .int .i64 ((f : Int) + n)) 58 rfl rfl (by kernel_rfl) (by kernel_rfl) (by kernel_rfl) (fun _ _ _ h => h) (.inl ⟨by rfl, ?_⟩) HSq.out ?_
                  · intro xw xf
                    go_simp)
                (
                  try simp only [List.setIfInBounds_toArray, List.set_cons_succ, List.set_cons_zero]
                  change wpAnyH _ _ _ _ _ _ _ _ (World.drew w8)
                  have HFd8 := Lib.hid (show Fr (fun _ => False) w8 w8.drew from (Fr.refl _ w8).drew)
                  obtain ⟨wd, hwd⟩ : ∃ wd, w8.drew = wd := ⟨_, rfl⟩
                  rw [hwd]
                  rw [hwd] at HFd8
                  have HFd := Lib.hid (show Fr SS w8 wd from HFd8.out.mono (fun _ _ e => e.elim))
                  have HWd := Lib.hid (HW8.out.fr HFd8.out (fun e => e))
                  have HRd := Lib.hid (own_fr HR8.out HFd8.out (fun _ _ e => e))
                  have HCd := Lib.hid (HC8.out.fr HFd8.out (fun _ e => e.elim) (fun e => e) (fun e => e) (fun _ _ e => e))
                  have kd := (HWd.out.three).2.2)
                clear hwd HSq Hq1 Hq2
                refine wpAnyH_all (rs := [1, 10]) (by kernel_rfl) (by simp) ?_
                intro i hi
                simp only [List.mem_cons, List.not_mem_nil, or_false] at hi
                rcases hi with rfl | rfl
                · (
                  refine wpOp_step rfl (fun K hK => ?_)
                  go_simp
                  refine hK _ _ ⟨HFd.out, ?_⟩
                  clear hK K)
                  (
                    try simp only [List.setIfInBounds_toArray, List.set_cons_succ, List.set_cons_zero]
                    refine wpAnyH_all (rs := [10]) (by kernel_rfl) (by simp) ?_
                    intro i hi
                    simp only [List.mem_cons, List.not_mem_nil, or_false] at hi
                    subst hi)
                  (
                    refine wpOp_step rfl (fun K hK => ?_)
                    go_simp
                    go_wp2_with (go_at_call 50; refine (HCu.out wd HCd.out).mono ?_; rintro e w9 ⟨v9, ss, R9, rfl, o9, e9, in9, len9, sl9, ct9, fr9⟩
                                 obtain ⟨A9, c9, hv9, -, -⟩ := own_slice o9
                                 subst hv9
                                 obtain ⟨sn, hsn⟩ : ∃ sn, ss.length = sn := ⟨_, rfl⟩
                                 rw [hsn] at o9 sl9
                                 rw [hsn]
                                 have HSn9 := Lib.hid hsn
                                 have HO9 := Lib.hid o9
                                 have HE9 := Lib.hid e9
                                 have HI9 := Lib.hid in9
                                 have HLn9 := Lib.hid len9
                                 have HC9 := Lib.hid ct9
                                 have HF9 := Lib.hid (show Fr SS wd w9 from fr9.mono (fun i hi e => (HSd.out i).2 (e.elim .inl (fun e => .inr (.inl e)))))
                                 have HW9 := Lib.hid (HWd.out.fr fr9 (fun e => by have := HLt.out; omega))
                                 have HR9 := Lib.hid (own_fr HRd.out fr9 (fun j hj e => by have := (World.ownsRow.lt HRd.out j hj).1; have := HLt.out; omega))
                                 have HFs9 := Lib.hid (HFd.out.trans HF9.out (fun _ _ e => e))
                                 have HSr9 := Lib.hid (src_rowP o9)
                                 have k2 := (HW9.out.three).2.2
                                 have HSz9 := Lib.hid fr9.size
                                 clear hsn o9 e9 in9 len9 ct9 fr9)
                    refine ⟨HFs9.out, ?_⟩)
                  (
                    (
                      try simp only [List.setIfInBounds_toArray, List.set_cons_succ, List.set_cons_zero]
                      refine wpAnyH_all (rs := [11]) (by kernel_rfl) (by simp) ?_
                      intro i hi
                      simp only [List.mem_cons, List.not_mem_nil, or_false] at hi
                      subst hi)
                    refine wpOp_step rfl (fun K hK => ?_)
                    refine step_append_row _ (by rfl) (.tmp 50) (.tmp 59) 22 22 (by rfl) (gs + 1) 57 i0 (.agg zeroO) 4 48 Try.underlying22 gi gz0 gz1 gz2 (by rfl) (.slice Av rn cv) rn (flatP rs) (by rfl) HR9.out (.slice A9 sn c9) sn (flatP ss) (by rfl) HSr9.out (by unfold maxLen; omega) (by omega) (by have := HSz.out; have := HSz9.out; have := HFd8.out.size; have := HF8.out.size; omega) ?_
                    intro v10 w10 o10 g10 at10
                    have hf10 : Fr (fun j => Value.ownBlock (.slice Av rn cv) = some j) w9 w10 := (Fr.refl _ w9).grown g10 (fun j hj _ => hj)
                    obtain ⟨A10, c10, hv10, -, -⟩ := own_slice o10
                    subst hv10
                    have HO10 := Lib.hid o10
                    have HF10 := Lib.hid hf10
                    have HFs10 := Lib.hid (HFs9.out.trans hf10 (fun i hi e => (HSd.out i).2 (.inr (.inr (.inr e)))))
                    have hlo : ∀ i, Value.ownBlock (.slice Av rn cv) = some i → gs + 1 ≤ i := fun i e => (World.ownsRow.lt HR9.out i e).1
                    have HW10 := Lib.hid (HW9.out.fr hf10 (fun e => by have := hlo _ e; omega))
                    have HC10 := Lib.hid (HC9.out.fr hf10 (fun j e => by have := hlo _ e; have := HLt5.out; omega) (fun e => by have := hlo _ e; have := HLt.out; omega) (fun e => by have := hlo _ e; have := HLt.out; omega) (fun j hj e => by have := hlo _ e; have := (World.ownsRow.lt HCt.out.ends j hj).2; have := HGs.out; omega))
                    have k10 := (HW10.out.three).2.2
                    have z10 := HW10.out.frozen 2
                    clear o10 g10 at10 hf10 hlo
                    go_simp
                    refine hK _ _ ⟨HFs10.out, ?_⟩
                    clear hK K
                    have HSq := HFs10
                    try simp only [List.setIfInBounds_toArray, List.set_cons_succ, List.set_cons_zero]
                    (
                      refine wpAnyH_takeM (i := 12) (v := .pointer (some ⟨gs, 2, none⟩)) 61 rfl rfl (by kernel_rfl) (by kernel_rfl) (by kernel_rfl) (fun _ _ _ h => h) (.inl ⟨by rfl, ?_⟩) HSq.out ?_
                      · intro xw xf
                        go_simp)
                    clear HSq
                    (
                      try simp only [List.setIfInBounds_toArray, List.set_cons_succ, List.set_cons_zero]
                      refine wpAnyH_all (rs := [13]) (by kernel_rfl) (by simp) ?_
                      intro i hi
                      simp only [List.mem_cons, List.not_mem_nil, or_false] at hi
                      subst hi)
                    refine wpOp_step rfl (fun K hK => ?_)
                    have HSet := Lib.hid (show Fr (fun j => j = gs) w10 (w10.setCell ⟨gs, 2, none⟩ (.slice A10 (rn + sn) c10)) from Fr.setCell (S := fun j => j = gs) (p := ⟨gs, 2, none⟩) (Fr.refl _ w10) (fun _ => rfl) _)
                    go_simp
                    refine hK _ _ ⟨HFs10.out.trans HSet.out (fun i hi e => (HSd.out i).2 (.inr (.inr (.inl e)))), ?_⟩
                    clear hK K
                    refine wpAnyH_done (by kernel_rfl) ?_ _
                    go_wp2_with fail
                    go_roundw
                    case rel =>
                      have hlt := HLt.out
                      have h7 := HS7.out
                      have h5 := HLt5.out
                      refine ⟨k + 1, _, rs ++ ss, R' ++ R9, by omega, by go_num, Lib.hid (HW10.out.set 2 _), Lib.hid ?_, Lib.hid ?_, Lib.hid ?_, Lib.hid ?_, Lib.hid ?_, Lib.hid ?_⟩
                      · rw [List.length_append, flatP_append, HRn.out, HSn9.out]
                        exact own_fr HO10.out HSet.out (fun j hj e => by have := (World.ownsRow.lt HO10.out j hj).1; omega)
                      · rw [opsO_append, HI.out, HE9.out, HTk.out, thenO_append, thenO_cons, if_pos rfl]
                        simp [thenO]
                      · intro q hq
                        rcases List.mem_append.1 hq with h6 | h6
                        · exact (HIn.out q h6).more R9
                        · exact HI9.out q h6
                      · rw [hsk, List.length_append, List.length_append, HRn.out, HSn9.out]
                        have := HLn9.out
                        omega
                      · exact HC10.out.fr HSet.out (fun j e => by omega) (fun e => by omega) (fun e => by omega) (fun j hj e => by have := (World.ownsRow.lt HCt.out.ends j hj).2; have := HGs.out; omega)
                      · refine (((HFr.out.trans HF8.out (fun _ _ e => e.elim)).trans HFs10.out (fun i hi e => ?_)).trans HSet.out (fun i hi e => .inr (.inr e)))
                        rcases (HSd.out i).1 e with e | e | e | e
                        · exact .inl e
                        · exact .inr (.inl e)
                        · exact .inr (.inr e)
                        · have := (World.ownsRow.lt HO.out i e).1
                          omega
                    case measure => simp [intOf]; omega)
                · (
                  refine wpOp_step rfl (fun K hK => ?_)
                  go_simp
                  go_wp2_with (go_at_call 50; refine (HCu.out wd HCd.out).mono ?_; rintro e w9 ⟨v9, ss, R9, rfl, o9, e9, in9, len9, sl9, ct9, fr9⟩
                               obtain ⟨A9, c9, hv9, -, -⟩ := own_slice o9
                               subst hv9
                               obtain ⟨sn, hsn⟩ : ∃ sn, ss.length = sn := ⟨_, rfl⟩
                               rw [hsn] at o9 sl9
                               rw [hsn]
                               have HSn9 := Lib.hid hsn
                               have HO9 := Lib.hid o9
                               have HE9 := Lib.hid e9
                               have HI9 := Lib.hid in9
                               have HLn9 := Lib.hid len9
                               have HC9 := Lib.hid ct9
                               have HF9 := Lib.hid (show Fr SS wd w9 from fr9.mono (fun i hi e => (HSd.out i).2 (e.elim .inl (fun e => .inr (.inl e)))))
                               have HW9 := Lib.hid (HWd.out.fr fr9 (fun e => by have := HLt.out; omega))
                               have HR9 := Lib.hid (own_fr HRd.out fr9 (fun j hj e => by have := (World.ownsRow.lt HRd.out j hj).1; have := HLt.out; omega))
                               have HFs9 := Lib.hid (HFd.out.trans HF9.out (fun _ _ e => e))
                               have HSr9 := Lib.hid (src_rowP o9)
                               have k2 := (HW9.out.three).2.2
                               have HSz9 := Lib.hid fr9.size
                               clear hsn o9 e9 in9 len9 ct9 fr9)
                  refine ⟨HFs9.out, ?_⟩)
                  (
                    try simp only [List.setIfInBounds_toArray, List.set_cons_succ, List.set_cons_zero]
                    refine wpAnyH_all (rs := [1]) (by kernel_rfl) (by simp) ?_
                    intro i hi
                    simp only [List.mem_cons, List.not_mem_nil, or_false] at hi
                    subst hi)
                  (
                    refine wpOp_step rfl (fun K hK => ?_)
                    go_simp
                    refine hK _ _ ⟨HFs9.out, ?_⟩
                    clear hK K)
                  (
                    (
                      try simp only [List.setIfInBounds_toArray, List.set_cons_succ, List.set_cons_zero]
                      refine wpAnyH_all (rs := [11]) (by kernel_rfl) (by simp) ?_
                      intro i hi
                      simp only [List.mem_cons, List.not_mem_nil, or_false] at hi
                      subst hi)
                    refine wpOp_step rfl (fun K hK => ?_)
                    refine step_append_row _ (by rfl) (.tmp 50) (.tmp 59) 22 22 (by rfl) (gs + 1) 57 i0 (.agg zeroO) 4 48 Try.underlying22 gi gz0 gz1 gz2 (by rfl) (.slice Av rn cv) rn (flatP rs) (by rfl) HR9.out (.slice A9 sn c9) sn (flatP ss) (by rfl) HSr9.out (by unfold maxLen; omega) (by omega) (by have := HSz.out; have := HSz9.out; have := HFd8.out.size; have := HF8.out.size; omega) ?_
                    intro v10 w10 o10 g10 at10
                    have hf10 : Fr (fun j => Value.ownBlock (.slice Av rn cv) = some j) w9 w10 := (Fr.refl _ w9).grown g10 (fun j hj _ => hj)
                    obtain ⟨A10, c10, hv10, -, -⟩ := own_slice o10
                    subst hv10
                    have HO10 := Lib.hid o10
                    have HF10 := Lib.hid hf10
                    have HFs10 := Lib.hid (HFs9.out.trans hf10 (fun i hi e => (HSd.out i).2 (.inr (.inr (.inr e)))))
                    have hlo : ∀ i, Value.ownBlock (.slice Av rn cv) = some i → gs + 1 ≤ i := fun i e => (World.ownsRow.lt HR9.out i e).1
                    have HW10 := Lib.hid (HW9.out.fr hf10 (fun e => by have := hlo _ e; omega))
                    have HC10 := Lib.hid (HC9.out.fr hf10 (fun j e => by have := hlo _ e; have := HLt5.out; omega) (fun e => by have := hlo _ e; have := HLt.out; omega) (fun e => by have := hlo _ e; have := HLt.out; omega) (fun j hj e => by have := hlo _ e; have := (World.ownsRow.lt HCt.out.ends j hj).2; have := HGs.out; omega))
                    have k10 := (HW10.out.three).2.2
                    have z10 := HW10.out.frozen 2
                    clear o10 g10 at10 hf10 hlo
                    go_simp
                    refine hK _ _ ⟨HFs10.out, ?_⟩
                    clear hK K
                    have HSq := HFs10
                    try simp only [List.setIfInBounds_toArray, List.set_cons_succ, List.set_cons_zero]
                    (
                      refine wpAnyH_takeM (i := 12) (v := .pointer (some ⟨gs, 2, none⟩)) 61 rfl rfl (by kernel_rfl) (by kernel_rfl) (by kernel_rfl) (fun _ _ _ h => h) (.inl ⟨by rfl, ?_⟩) HSq.out ?_
                      · intro xw xf
                        go_simp)
                    clear HSq
                    (
                      try simp only [List.setIfInBounds_toArray, List.set_cons_succ, List.set_cons_zero]
                      refine wpAnyH_all (rs := [13]) (by kernel_rfl) (by simp) ?_
                      intro i hi
                      simp only [List.mem_cons, List.not_mem_nil, or_false] at hi
                      subst hi)
                    refine wpOp_step rfl (fun K hK => ?_)
                    have HSet := Lib.hid (show Fr (fun j => j = gs) w10 (w10.setCell ⟨gs, 2, none⟩ (.slice A10 (rn + sn) c10)) from Fr.setCell (S := fun j => j = gs) (p := ⟨gs, 2, none⟩) (Fr.refl _ w10) (fun _ => rfl) _)
                    go_simp
                    refine hK _ _ ⟨HFs10.out.trans HSet.out (fun i hi e => (HSd.out i).2 (.inr (.inr (.inl e)))), ?_⟩
                    clear hK K
                    refine wpAnyH_done (by kernel_rfl) ?_ _
                    go_wp2_with fail
                    go_roundw
                    case rel =>
                      have hlt := HLt.out
                      have h7 := HS7.out
                      have h5 := HLt5.out
                      refine ⟨k + 1, _, rs ++ ss, R' ++ R9, by omega, by go_num, Lib.hid (HW10.out.set 2 _), Lib.hid ?_, Lib.hid ?_, Lib.hid ?_, Lib.hid ?_, Lib.hid ?_, Lib.hid ?_⟩
                      · rw [List.length_append, flatP_append, HRn.out, HSn9.out]
                        exact own_fr HO10.out HSet.out (fun j hj e => by have := (World.ownsRow.lt HO10.out j hj).1; omega)
                      · rw [opsO_append, HI.out, HE9.out, HTk.out, thenO_append, thenO_cons, if_pos rfl]
                        simp [thenO]
                      · intro q hq
                        rcases List.mem_append.1 hq with h6 | h6
                        · exact (HIn.out q h6).more R9
                        · exact HI9.out q h6
                      · rw [hsk, List.length_append, List.length_append, HRn.out, HSn9.out]
                        have := HLn9.out
                        omega
                      · exact HC10.out.fr HSet.out (fun j e => by omega) (fun e => by omega) (fun e => by omega) (fun j hj e => by have := (World.ownsRow.lt HCt.out.ends j hj).2; have := HGs.out; omega)
                      · refine (((HFr.out.trans HF8.out (fun _ _ e => e.elim)).trans HFs10.out (fun i hi e => ?_)).trans HSet.out (fun i hi e => .inr (.inr e)))
                        rcases (HSd.out i).1 e with e | e | e | e
                        · exact .inl e
                        · exact .inr (.inl e)
                        · exact .inr (.inr e)
                        · have := (World.ownsRow.lt HO.out i e).1
                          omega
                    case measure => simp [intOf]; omega)
              · cases r1
          · obtain rfl : k = K := by omega
            have HEn := Lib.hid (show opsO rs = thenO (opsO ps) (opsO qs) from by
              have := HI.out
              rwa [List.take_of_length_le (by simp [opsO, HK.out])] at this)
            obtain ⟨rn, hrn⟩ : ∃ rn, rs.length = rn := ⟨_, rfl⟩
            have HRn := Lib.hid hrn
            rw [hrn] at HO HW
            have HWr := Lib.hid (HWr5.out.fr (Fr.of_below (S := fun _ => False) HC.out.bel) (fun e => e))
            obtain ⟨s0, s1, s2⟩ := HW.out.three
            clear hrn
            (
              obtain ⟨e0, e1, e2⟩ := HWr.out.three
              have z0 := HWr.out.frozen 0
              have z1 := HWr.out.frozen 1
              have z2 := HWr.out.frozen 2)
            go_wp2_with fail
            (
              refine bodyPost_ret (v := .tuple #[.agg #[.int .i64 b1, .int .i64 T, .slice Av rn cv], .int .i64 0]) (results_cell_slot (p := 4) (u := 5) rfl _ _ _ _ _ _ rfl (setScr_whole HWr.out) Try.underlying24 rfl (by kernel_rfl)) rfl ?_)
            have hz5 := HZ5.out
            have hl5 := HLt5.out
            have hz := HZ.out
            have hga := HGa.out
            have fset := setScr_fr wr gr (.int .i64 b1) (.int .i64 T) (.slice Av rn cv)
            have hown := own_fr HO.out fset (fun j hj e => by have := (World.ownsRow.lt HO.out j hj).1; omega)
            have hroom := own_fr HC.out.room fset (fun j hj e => by have := HC.out.hg; have := (show g = j by simpa [Value.ownBlock] using hj); omega)
            obtain ⟨A9, c9, hv9, sc9, -⟩ := OwnP.scr (w0 := w7) (ps := rs) (by unfold OwnP; rw [HS7.out, HRn.out]; exact hown) (fun q hq => (HIn.out q hq).ok hroom)
            rw [HRn.out] at hv9
            injection hv9 with q1 q2 q3
            subst q1; subst q3
            rw [HRe.out]
            refine ⟨Av, cv, rs, by rw [HRn.out], sc9, HEn.out, ?_⟩
            exact (((HF05.out.mono (T := fun j => w.heap.size ≤ j) (fun _ _ e => e.elim)).trans (Fr.of_below (S := fun _ => False) HC.out.bel) (fun _ _ e => e.elim)).trans fset (fun i hi e => by omega)).below (fun i hi e => by omega)
      · have hbt' : (b2 != t1) = true := by simp; exact hbt
        go_wp2_with (first
          | (go_at_call 14; have _ := M1; refine (HC2.out w4 (HSb.out.fr HF4.out)).mono ?_; rintro e w5 ⟨rfl, b5⟩; have HF5 := Lib.hid (HF4.out.then_below b5); obtain ⟨f0, f1, f2⟩ := (HS2.out.fr HF5.out).cells; obtain ⟨h0, h1, h2⟩ := (HS1.out.fr HF5.out).cells; have HWr5 := Lib.hid (HWr.out.fr HF5.out (fun e => e)); obtain ⟨y0, y1, y2⟩ := HWr5.out.three; have v0 := HWr5.out.frozen 0; have v1 := HWr5.out.frozen 1; have v2 := HWr5.out.frozen 2; clear b5)
          | (go_at_call 14; refine (HC1.out w3 HSa.out).mono ?_; rintro e w4 ⟨rfl, b4⟩; have HF4 := Lib.hid (Fr.of_below (S := fun _ => False) b4); obtain ⟨d0, d1, d2⟩ := (HS2.out.fr HF4.out).cells; clear b4; have M1 := True.intro))
        have HWr := HWr5
        (
          refine bodyPost_ret (v := .tuple #[.agg #[.int .i64 0, .int .i64 0, .slice none 0 0], .int .i64 21]) (results_cell_slot (p := 4) (u := 5) rfl _ _ _ _ _ _ rfl (setScr_whole HWr.out) Try.underlying24 rfl (by kernel_rfl)) rfl ?_)
        exact HFin.out w5 21 ((HF.out.trans HF5.out (fun _ _ e => e)).mono (fun _ _ e => e.elim)) (by rw [← HR.out]; unfold thenR; rw [if_pos ⟨HX.out.1, HX.out.2⟩, if_neg hbt])
    · go_wp2_with (first
        | (go_at_call 14; have _ := M1; refine (HC2.out w4 (HSb.out.fr HF4.out)).mono ?_; rintro e w5 ⟨rfl, b5⟩; have HF5 := Lib.hid (HF4.out.then_below b5); have HWr5 := Lib.hid (HWr.out.fr HF5.out (fun e => e)); obtain ⟨y0, y1, y2⟩ := HWr5.out.three; have v0 := HWr5.out.frozen 0; have v1 := HWr5.out.frozen 1; have v2 := HWr5.out.frozen 2; clear b5)
        | (go_at_call 14; refine (HC1.out w3 HSa.out).mono ?_; rintro e w4 ⟨rfl, b4⟩; have HF4 := Lib.hid (Fr.of_below (S := fun _ => False) b4); obtain ⟨d0, d1, d2⟩ := (HS2.out.fr HF4.out).cells; clear b4; have M1 := True.intro))
      have HWr := HWr5
      (
        refine bodyPost_ret (v := .tuple #[.agg #[.int .i64 0, .int .i64 0, .slice none 0 0], .int .i64 2]) (results_cell_slot (p := 4) (u := 5) rfl _ _ _ _ _ _ rfl (setScr_whole HWr.out) Try.underlying24 rfl (by kernel_rfl)) rfl ?_)
      exact HFin.out w5 2 ((HF.out.trans HF5.out (fun _ _ e => e)).mono (fun _ _ e => e.elim)) (by rw [← HR.out]; unfold thenR; rw [if_neg (by rw [HX.out.2]; omega)])
  · go_wp2_with (go_at_call 14; refine (HC1.out w3 HSa.out).mono ?_; rintro e w4 ⟨rfl, b4⟩; have HF4 := Lib.hid (Fr.of_below (S := fun _ => False) b4); have HWr4 := Lib.hid (HWr.out.fr HF4.out (fun e => e)); obtain ⟨y0, y1, y2⟩ := HWr4.out.three; have v0 := HWr4.out.frozen 0; have v1 := HWr4.out.frozen 1; have v2 := HWr4.out.frozen 2; clear b4)
    have HWr := HWr4
    (
      refine bodyPost_ret (v := .tuple #[.agg #[.int .i64 0, .int .i64 0, .slice none 0 0], .int .i64 2]) (results_cell_slot (p := 4) (u := 5) rfl _ _ _ _ _ _ rfl (setScr_whole HWr.out) Try.underlying24 rfl (by kernel_rfl)) rfl ?_)
    exact HFin.out w4 2 ((HF.out.trans HF4.out (fun _ _ e => e)).mono (fun _ _ e => e.elim)) (by rw [← HR.out]; unfold thenR; rw [if_neg (by rw [HX.out.1]; omega)])
end Go.Proofs.Ythjfkeploofblaa

/- What is proved: one script behind another one, by the document. Conditions: the ops' cells are there. -/
import Derived.Test.YthjfkeploofblaaDta
import Derived.Test.YthjfkeploofblaaDed
import Derived.Test.YthjfkeploofblaaDej
import Derived.Test.YthjfkeploofblaaDfd
import Derived.Deep.Cut
import Derived.Deep.RegionWith
import Derived.OrdersHeld
namespace Go.Proofs.Ythjfkeploofblaa
open Go.RowKit
set_option linter.unusedVariables false

theorem OpAt.frS {w w' w'' : World} {S T : Nat → Prop} {g : Nat} {t : TypeId} {o : DOp} {B : Option Addr} {c : Nat} (h : OpAt w g t o B c) (f : Fr S w w') (f' : Fr T w' w'') (h1 : ¬ S g) (h2 : ¬ T g) : OpAt w'' g t o B c := ⟨(h.whole.fr f h1).fr f' h2⟩
theorem src_opv (w : World) (b : Bool) (f n : Int) (X : Option Addr) (k cc : Nat) : Src Try.prog 4 32 (.slice (some ⟨w.heap.size, 0, none⟩) 1 1) 1 [.bool b, .int .i64 f, .int .i64 n, .slice X k cc] (w.alloc (.cells #[.bool b, .int .i64 f, .int .i64 n, .slice X k cc] 66)) :=
  Src.ofSlice _ Try.underlying32 ⟨w.heap.size, 0, none⟩ 1 1 _ rfl (fun j u hu => by
    rw [add_off, Nat.zero_add, (Whole.new w _ _).cell, ← Array.getElem?_toList]; exact hu) (by intro u hu; simp at hu; rcases hu with rfl | rfl | rfl | rfl <;> rfl)
set_option maxHeartbeats 12800000 in
set_option maxRecDepth 100000 in
theorem QDThen_any (b1 t1 : Int) (A : Option Addr) (c : Nat) (ps : List POp) (b2 t2 : Int) (D : Option Addr) (d : Nat) (qs : List POp) (w : World) (h : Scr w A c ps) (g : Scr w D d qs) :
    Calls Try.prog 25 #[.agg #[.int .i64 b1, .int .i64 t1, .slice A ps.length c], .agg #[.int .i64 b2, .int .i64 t2, .slice D qs.length d]] w (ReadPost w (thenR b1 t1 (opsO ps) b2 t2 (opsO qs))) := by
  obtain ⟨R, hR⟩ : ∃ R, thenR b1 t1 (opsO ps) b2 t2 (opsO qs) = R := ⟨_, rfl⟩
  obtain ⟨w1, hw1⟩ : ∃ w1, w.alloc (.cells #[.int .i64 b1, .int .i64 t1, .slice A ps.length c] 34) = w1 := ⟨_, rfl⟩
  obtain ⟨w2, hw2⟩ : ∃ w2, w1.alloc (.cells #[.int .i64 b2, .int .i64 t2, .slice D qs.length d] 34) = w2 := ⟨_, rfl⟩
  obtain ⟨w3, hw3⟩ : ∃ w3, w2.alloc (.cells #[.int .i64 0, .int .i64 0, .slice none 0 0] 34) = w3 := ⟨_, rfl⟩
  have F1 : Fr (fun _ => False) w w1 := by subst hw1; exact (Fr.refl _ _).alloc _
  have F2 : Fr (fun _ => False) w1 w2 := by subst hw2; exact (Fr.refl _ _).alloc _
  have F3 : Fr (fun _ => False) w2 w3 := by subst hw3; exact (Fr.refl _ _).alloc _
  have s1 : w1.heap.size = w.heap.size + 1 := by subst hw1; simp
  have s2 : w2.heap.size = w1.heap.size + 1 := by subst hw2; simp
  have s3 : w3.heap.size = w2.heap.size + 1 := by subst hw3; simp
  have HS1 := Lib.hid (show SAt w3 w.heap.size 34 b1 t1 (.slice A ps.length c) by subst hw1; exact ((SAt.new w 34 b1 t1 _).fr F2).fr F3)
  have HS2 := Lib.hid (show SAt w3 w1.heap.size 34 b2 t2 (.slice D qs.length d) by subst hw2; exact (SAt.new w1 34 b2 t2 _).fr F3)
  have HWr := Lib.hid (show Whole w3 w2.heap.size 34 #[.int .i64 0, .int .i64 0, .slice none 0 0] by subst hw3; exact Whole.new _ _ _)
  have HF := Lib.hid ((F1.trans F2 (fun _ _ e => e)).trans F3 (fun _ _ e => e))
  have HSa := Lib.hid (h.fr HF.out)
  have HSb := Lib.hid (g.fr HF.out)
  obtain ⟨ga, hga⟩ : ∃ ga, w.heap.size = ga := ⟨_, rfl⟩
  obtain ⟨gb, hgb⟩ : ∃ gb, w1.heap.size = gb := ⟨_, rfl⟩
  obtain ⟨gr, hgr⟩ : ∃ gr, w2.heap.size = gr := ⟨_, rfl⟩
  rw [hga] at HS1 s1
  rw [hgb] at HS2 s1 s2
  rw [hgr] at HWr s2 s3
  have HZ := Lib.hid (And.intro s1 (And.intro s2 s3))
  have HGa := Lib.hid hga
  have HC1 := Lib.hid (fun w' (s : Scr w' A c ps) => QDCheck_any b1 t1 A c ps w' s)
  have HC2 := Lib.hid (fun w' (s : Scr w' D d qs) => QDCheck_any b2 t2 D d qs w' s)
  unfold Ans at HC1 HC2
  obtain ⟨x1, hx1⟩ : ∃ x1, chkS b1 t1 (opsO ps) = x1 := ⟨_, rfl⟩
  obtain ⟨x2, hx2⟩ : ∃ x2, chkS b2 t2 (opsO qs) = x2 := ⟨_, rfl⟩
  have hxx1 := chkS_two b1 t1 (opsO ps)
  have hxx2 := chkS_two b2 t2 (opsO qs)
  have HR := Lib.hid hR
  rw [hx1] at HC1 hxx1
  rw [hx2] at HC2 hxx2
  rw [hR]
  obtain ⟨L, hL⟩ : ∃ L, ps.length = L := ⟨_, rfl⟩
  obtain ⟨K, hK⟩ : ∃ K, qs.length = K := ⟨_, rfl⟩
  have HL := Lib.hid hL
  have HK := Lib.hid hK
  have hKc : K ≤ 9223372036854775807 := by have := g.le; have := g.cap; omega
  have hLc : L ≤ 9223372036854775807 := by have := h.le; have := h.cap; omega
  rw [hL] at HS1 HC1 hw1 ⊢
  rw [hK] at HS2 HC2 hw2 ⊢
  have HX := Lib.hid (And.intro hx1 hx2)
  have HFin := Lib.hid (fun (wr : World) (E : Int) (hf : Fr (fun j => w.heap.size ≤ j) w wr) (hT : R = ((0, 0, []), E)) => (by
    subst hT
    exact ⟨none, 0, [], rfl, Scr.none _, rfl, (hf.trans (setScr_fr wr gr _ _ _) (fun i hi e => by omega)).below (fun i hi e => by omega)⟩ : ReadPost w R (.returned (.tuple #[.agg #[.int .i64 0, .int .i64 0, .slice none 0 0], .int .i64 E])) (((wr.setCell ⟨gr, 0, none⟩ (.int .i64 0)).setCell ⟨gr, 1, none⟩ (.int .i64 0)).setCell ⟨gr, 2, none⟩ (.slice none 0 0))))
  have HHw := Lib.hid h
  have HGw := Lib.hid g
  clear h g F1 F2 F3 s1 s2 s3 hR hL hK hx1 hx2
  go_enter Try.func25, Try.ntmps25
  obtain ⟨a0, a1, a2⟩ := HS1.out.cells
  obtain ⟨c0, c1, c2⟩ := HS2.out.cells
  (
    obtain ⟨e0, e1, e2⟩ := HWr.out.three
    have z0 := HWr.out.frozen 0
    have z1 := HWr.out.frozen 1
    have z2 := HWr.out.frozen 2)
  go_upto_region 1 with fail
  clear hw1 hw2 hw3 hga hgb hgr
  rcases hxx1 with rfl | rfl
  · rcases hxx2 with rfl | rfl
    · obtain ⟨⟨hb10, hb11⟩, ⟨ht10, ht11⟩, ha3⟩ := chkS_ok HX.out.1
      obtain ⟨⟨hb20, hb21⟩, ⟨ht20, ht21⟩, hc3⟩ := chkS_ok HX.out.2
      by_cases hbt : b2 = t1
      · subst hbt
        have HRe := Lib.hid (show R = ((b1, t2, thenO (opsO ps) (opsO qs)), 0) by rw [← HR.out]; unfold thenR; rw [if_pos ⟨HX.out.1, HX.out.2⟩, if_pos rfl])
        have HA3 := Lib.hid ha3
        have HC3 := Lib.hid hc3
        clear ha3 hc3
        go_upto_region 5 with (first
          | (go_at_call 15; have _ := M1; refine (HC2.out w4 (HSb.out.fr HF4.out)).mono ?_; rintro e w5 ⟨rfl, b5⟩; have HF5 := Lib.hid (HF4.out.then_below b5); obtain ⟨f0, f1, f2⟩ := (HS2.out.fr HF5.out).cells; obtain ⟨h0, h1, h2⟩ := (HS1.out.fr HF5.out).cells; clear b5)
          | (go_at_call 15; refine (HC1.out w3 HSa.out).mono ?_; rintro e w4 ⟨rfl, b4⟩; have HF4 := Lib.hid (Fr.of_below (S := fun _ => False) b4); obtain ⟨d0, d1, d2⟩ := (HS2.out.fr HF4.out).cells; clear b4; have M1 := True.intro))
        have hra := restO_all HA3.out
        have hsa := restO_sum HA3.out
        have HRa := Lib.hid (fun o (ho : o ∈ opsO ps) => (hra.1 o ho).1)
        have HSma := Lib.hid (show sumO (opsO ps) = b2 by omega)
        obtain ⟨T, rfl⟩ := Int.eq_ofNat_of_zero_le ht20
        have hrb := restO_all HC3.out
        have HRb := Lib.hid (fun o (ho : o ∈ opsO qs) => (hrb.1 o ho).1)
        have HSzb := Lib.hid (fun o (ho : o ∈ opsO qs) => (hrb.1 o ho).2)
        have hTM : T ≤ 4000 := by omega
        have hKT : K ≤ 4000 := by
          have h1 := hrb.2
          rw [show (opsO qs).length = K by simp [opsO, HK.out]] at h1
          omega
        have hLT : L ≤ 4000 := by
          have h1 := hra.2
          rw [show (opsO ps).length = L by simp [opsO, HL.out]] at h1
          omega
        have HLen := Lib.hid (show ∀ k, (thenO (opsO ps) ((opsO qs).take k)).length ≤ 4000 from fun k => by
          have h1 := (restO_all (then_rest HA3.out HC3.out)).2
          have h2 := congrArg List.length (thenO_append (opsO ps) ((opsO qs).take k) ((opsO qs).drop k))
          rw [List.take_append_drop, List.length_append] at h2
          omega)
        have HF05 := Lib.hid (HF.out.trans HF5.out (fun _ _ e => e))
        have HSa5 := Lib.hid (HSa.out.fr HF5.out)
        have HSb5 := Lib.hid (HSb.out.fr HF5.out)
        have HS15 := Lib.hid (HS1.out.fr HF5.out)
        have HS25 := Lib.hid (HS2.out.fr HF5.out)
        have HWr5 := Lib.hid (HWr.out.fr HF5.out (fun e => e))
        have HZ5 := Lib.hid (show gr < w5.heap.size ∧ gb < w5.heap.size ∧ ga < w5.heap.size from by have := HZ.out; have := HF5.out.size; omega)
        clear hra hsa hrb d0 d1 d2 e0 e1 e2 z0 z1 z2 a0 a1 a2 c0 c1 c2 HC1 HC2
        go_upto_region 6 with fail
        obtain ⟨w7, hw7⟩ : ∃ w7, w5.alloc (.cells #[.int .i64 b1, .int .i64 T, .slice none 0 0] 34) = w7 := ⟨_, rfl⟩
        rw [hw7]
        have HF7 := Lib.hid (show Fr (fun _ => False) w5 w7 by subst hw7; exact (Fr.refl _ _).alloc _)
        have HW7 := Lib.hid (show Whole w7 w5.heap.size 34 #[.int .i64 b1, .int .i64 T, .slice none 0 0] by subst hw7; exact Whole.new _ _ _)
        have hs7 : w7.heap.size = w5.heap.size + 1 := by subst hw7; simp
        have HS7 := Lib.hid hs7
        obtain ⟨gs, hgs⟩ : ∃ gs, w5.heap.size = gs := ⟨_, rfl⟩
        have HGs := Lib.hid hgs
        rw [hgs] at HW7 HS7 HZ5 ⊢
        clear hw7 hgs hs7 h0 h1 h2 f0 f1 f2
        obtain ⟨i0, gi, gz0, gz1, gz2⟩ := info_parts infoQO
        go_wp2_with fail
        go_loopw [7] (fun i wr => ∃ (k : Nat) (v : Value) (rs : List POp), k ≤ K ∧ i = .int .i64 k ∧ Hid (Whole wr gs 34 #[.int .i64 b1, .int .i64 T, v]) ∧ Hid (wr.ownsRow (gs + 1) 66 4 v rs.length (flatP rs)) ∧ Hid (opsO rs = thenO (opsO ps) ((opsO qs).take k)) ∧
          Hid (∀ q ∈ rs, q.Ok w) ∧ Hid (Fr (fun j => j = gs) w7 wr)) (fun i _ => K - (intOf i).toNat)
        case atStart => exact ⟨0, .slice none 0 0, [], by omega, rfl, HW7, Lib.hid (World.ownsRow_nil _ _ _ _), Lib.hid rfl, Lib.hid (by simp), Lib.hid (Fr.refl _ _)⟩
        case round =>
          obtain ⟨k, v, rs, hk, rfl, HW, HO, HI, HOk, HFr⟩ := hrel
          obtain ⟨Av, cv, hv, -, -⟩ := own_slice HO.out
          subst hv
          have hk1 : (0 : Int) ≤ k := by omega
          have HF5r := Lib.hid (show Fr (fun j => w5.heap.size ≤ j) w5 wr from (HF7.out.mono (fun _ _ e => e.elim)).trans HFr.out (fun i hi e => by have := HGs.out; omega))
          have HB5 := Lib.hid (HF5r.out.below (fun i hi e => by omega))
          obtain ⟨f0, f1, f2⟩ := (HS25.out.fr (Fr.of_below (S := fun _ => False) HB5.out)).cells
          by_cases hlt : k < K
          · have hk2 : (k : Int) < K := by omega
            have HSbr := Lib.hid (HSb5.out.below HB5.out)
            obtain ⟨p, hpk⟩ : ∃ p, qs[k]? = some p := ⟨qs[k]'(by rw [HK.out]; exact hlt), List.getElem?_eq_getElem (by rw [HK.out]; exact hlt)⟩
            obtain ⟨o, B, pc⟩ := p
            obtain ⟨ab, ao, rfl⟩ := HSbr.out.addr (by rw [HK.out]; exact hlt)
            obtain ⟨d0, d1, d2, d3⟩ := HSbr.out.cells hpk
            have HOk5 := Lib.hid (HGw.out.at_ok hpk)
            have hok : (opsO qs)[k]? = some o := by simp [opsO, hpk]
            have hro := HRb.out o (List.mem_of_getElem? hok)
            have hso := HSzb.out o (List.mem_of_getElem? hok)
            have htk : (opsO qs).take (k + 1) = (opsO qs).take k ++ [o] := by rw [List.take_add_one, hok]; rfl
            have HTk := Lib.hid htk
            obtain ⟨w8, hw8⟩ : ∃ w8, wr.alloc (.cells #[.bool o.copy, .int .i64 o.frm, .int .i64 o.n, .slice B o.b.length pc] 66) = w8 := ⟨_, rfl⟩
            have HF8 := Lib.hid (show Fr (fun _ => False) wr w8 by subst hw8; exact (Fr.refl _ _).alloc _)
            have HO8 := Lib.hid (show OpAt w8 wr.heap.size 66 o B pc by subst hw8; exact OpAt.new _ _ _ _ _)
            have HW8 := Lib.hid (HW.out.fr HF8.out (fun e => e))
            have HR8 := Lib.hid (own_fr HO.out HF8.out (fun _ _ e => e))
            obtain ⟨x0, x1, x2, x3⟩ := HO8.out.cells
            obtain ⟨s0, s1, s2⟩ := HW8.out.three
            have z2 := HW8.out.frozen 2
            obtain ⟨rn, hrn⟩ : ∃ rn, rs.length = rn := ⟨_, rfl⟩
            have HRn := Lib.hid hrn
            have hrl : rs.length ≤ 4000 := by
              have h1 := HLen.out k
              rw [← HI.out] at h1
              simpa [opsO] using h1
            rw [hrn] at HO HR8 HW8 s2 hrl
            simp only at d0 d1 d2 d3
            have hsz := HFr.out.size
            have HSz := Lib.hid (show gs + 1 ≤ wr.heap.size from by have := HS7.out; omega)
            have HIk := Lib.hid (show opsO rs ++ (if o.copy = true then cutR (opsO ps) o.frm (o.frm + o.n) else [newO o.b]) = thenO (opsO ps) ((opsO qs).take (k + 1)) from by
              rw [htk, thenO_append, thenO_cons, ← HI.out]
              simp [thenO])
            clear hpk hok hrn hsz htk
            obtain ⟨cp, fo, no, bs⟩ := o
            simp only at d0 d1 d2 d3 x0 x1 x2 x3 hw8
            cases cp
            · have HSr := Lib.hid (fun w => src_op w 32 66 Try.underlying32 ⟨⟨false, fo, no, bs⟩, B, pc⟩)
              rcases hro with ⟨r1, _⟩ | ⟨_, r2, r3, r4⟩
              · cases r1
              · simp only at r2 r3 r4
                subst r3
                subst r4
                go_wp2_with (at_builtin; refine wpList_append_row _ rfl (.tmp 50) (.tmp 52) 32 32 rfl (gs + 1) 66 i0 (.agg zeroO) 4 48 Try.underlying32 gi gz0 gz1 gz2 rfl _ rn _ rfl (HR8.out.alloc _) _ 1 _ rfl (HSr.out _) (by unfold maxLen; omega) (by omega) (by have := HSz.out; have := HF8.out.size; simp; omega) ?_
                             intro v10 w10 o10 g10 at10
                             have hf10 : Fr (fun j => Value.ownBlock (.slice Av rn cv) = some j) w8 w10 := ((Fr.refl _ w8).alloc _).grown g10 (fun j hj _ => hj)
                             obtain ⟨A10, c10, hv10, -, -⟩ := own_slice o10
                             subst hv10
                             have HO10 := Lib.hid o10
                             have HF10 := Lib.hid hf10
                             have HW10 := Lib.hid (HW8.out.fr hf10 (fun e => by have := (World.ownsRow.lt HR8.out _ e).1; omega))
                             have k10 := (HW10.out.three).2.2
                             have z10 := HW10.out.frozen 2
                             clear o10 g10 at10 hf10)
                go_roundw
                case rel =>
                  have h7 := HS7.out
                  have f6 : Fr (fun j => j = gs) w10 (w10.setCell ⟨gs, 2, none⟩ (.slice A10 (rn + 1) c10)) := Fr.setCell (S := fun j => j = gs) (p := ⟨gs, 2, none⟩) (Fr.refl _ w10) (fun _ => rfl) _
                  refine ⟨k + 1, _, rs ++ [⟨⟨false, 0, 0, bs⟩, B, pc⟩], by omega, by go_num, Lib.hid (HW10.out.set 2 _), Lib.hid ?_, Lib.hid ?_, Lib.hid ?_, Lib.hid ?_⟩
                  · rw [List.length_append, flatP_append, flatP_one, HRn.out]
                    exact own_fr HO10.out f6 (fun j hj e => by have := (World.ownsRow.lt HO10.out j hj).1; omega)
                  · rw [opsO_append, ← HIk.out, if_neg (by simp)]
                    rfl
                  · intro q hq
                    rcases List.mem_append.1 hq with h6 | h6
                    · exact HOk.out q h6
                    · rw [List.mem_singleton.1 h6]
                      exact HOk5.out
                  · exact ((HFr.out.trans HF8.out (fun _ _ e => e.elim)).trans HF10.out (fun i hi e => by have := (World.ownsRow.lt HR8.out i e).1; omega)).trans f6 (fun _ _ e => e)
                case measure => simp [intOf]; omega
            · rcases hro with ⟨_, r2, r3, r4, r5⟩ | ⟨r1, _⟩
              · simp only at r2 r3 r4 r5
                have HR5 := Lib.hid r5
                obtain ⟨F, rfl⟩ := Int.eq_ofNat_of_zero_le r3
                obtain ⟨N, rfl⟩ := Int.eq_ofNat_of_zero_le (show 0 ≤ no by omega)
                have hFN : (F : Int) + N ≤ b2 := by omega
                have HFN := Lib.hid hFN
                have HIc := Lib.hid (show opsO rs ++ cutR (opsO ps) F ((F : Int) + N) = thenO (opsO ps) ((opsO qs).take (k + 1)) from by have := HIk.out; rwa [if_pos rfl] at this)
                have HFl := Lib.hid (show Fr (fun j => j = gs) w7 w8 from HFr.out.trans HF8.out (fun _ _ e => e.elim))
                have HRnL := Lib.hid (show (thenO (opsO ps) ((opsO qs).take (k + 1))).length ≤ 4000 from HLen.out (k + 1))
                obtain ⟨G, hG⟩ : ∃ G, thenO (opsO ps) ((opsO qs).take (k + 1)) = G := ⟨_, rfl⟩
                rw [hG] at HIc HRnL
                have HG := Lib.hid hG
                obtain ⟨go, hgo⟩ : ∃ go, wr.heap.size = go := ⟨_, rfl⟩
                have HGo := Lib.hid hgo
                rw [hgo] at x0 x1 x2 x3 HO8 HSz
                clear r5 hG HIk HTk
                go_upto_region 13 with fail
                clear hw8 f0 f1 f2 d0 d1 d2 d3 s0 s1 s2 z2 hgo
                go_wp2_with fail
                go_loopw [9, 10] (fun at' i wx => ∃ (j : Nat) (S : Int) (v : Value) (ss : List POp), j ≤ L ∧ at' = .int .i64 S ∧ i = .int .i64 j ∧ Hid (sumO ((opsO ps).take j) = S) ∧ Hid (Whole wx gs 34 #[.int .i64 b1, .int .i64 T, v]) ∧ Hid (wx.ownsRow (gs + 1) 66 4 v ss.length (flatP ss)) ∧
                  Hid (opsO ss ++ cutR ((opsO ps).drop j) ((F : Int) - sumO ((opsO ps).take j)) ((F : Int) + N - sumO ((opsO ps).take j)) = G) ∧ Hid (∀ q ∈ ss, q.Ok w) ∧ Hid (Value.ownBlock v ≠ some go) ∧ Hid (Fr (fun j => gs ≤ j ∧ j ≠ go) w8 wx)) (fun _ i _ => L - (intOf i).toNat)
                case atStart =>
                  refine ⟨0, 0, .slice Av rn cv, rs, by omega, rfl, rfl, Lib.hid rfl, HW8, Lib.hid (by rw [HRn.out]; exact HR8.out), Lib.hid ?_, HOk, Lib.hid (fun e => by have := (World.ownsRow.lt HO.out _ e).2; have := HGo.out; omega), Lib.hid (Fr.refl _ _)⟩
                  have := HIc.out
                  simpa [sumO_nil] using this
                case round =>
                  obtain ⟨j, S, v, ss, hj, rfl, rfl, HSj, HWx, HOx, HIx, HOkx, HNg, HFx⟩ := hrel
                  obtain ⟨Ax, cx, hv, -, -⟩ := own_slice HOx.out
                  subst hv
                  have hj1 : (0 : Int) ≤ j := by omega
                  have HF7x := Lib.hid (HFl.out.trans HFx.out (fun i hi e => by have := HS7.out; omega))
                  have HF5x := Lib.hid (show Fr (fun j => w5.heap.size ≤ j) w5 wr from (HF7.out.mono (fun _ _ e => e.elim)).trans HF7x.out (fun i hi e => by have := HGs.out; omega))
                  have HB5x := Lib.hid (HF5x.out.below (fun i hi e => by omega))
                  obtain ⟨f0, f1, f2⟩ := (HS15.out.fr (Fr.of_below (S := fun _ => False) HB5x.out)).cells
                  have HOpx := Lib.hid (show Whole wr go 66 #[.bool true, .int .i64 F, .int .i64 N, .slice B bs.length pc] from (HO8.out.whole).fr HFx.out (fun e => e.2 rfl))
                  by_cases hlj : j < L
                  · have hlj' : (j : Int) < L := by omega
                    have HSar := Lib.hid (HSa5.out.below HB5x.out)
                    obtain ⟨p2, hpk2⟩ : ∃ p, ps[j]? = some p := ⟨ps[j]'(by rw [HL.out]; exact hlj), List.getElem?_eq_getElem (by rw [HL.out]; exact hlj)⟩
                    obtain ⟨o2, B2, pc2⟩ := p2
                    obtain ⟨ab2, ao2, hAe⟩ := HSar.out.addr (by rw [HL.out]; exact hlj)
                    have HAe := Lib.hid hAe
                    have hSar := HSar.out
                    rw [hAe] at hSar f2
                    obtain ⟨d0, d1, d2, d3⟩ := hSar.cells hpk2
                    have HOk2 := Lib.hid (HHw.out.at_ok hpk2)
                    have hok2 : (opsO ps)[j]? = some o2 := by simp [opsO, hpk2]
                    have hro2 := HRa.out o2 (List.mem_of_getElem? hok2)
                    have hpz := fun o (ho : o ∈ opsO ps) => (HRa.out o ho).pos
                    have hz0 := hpz o2 (List.mem_of_getElem? hok2)
                    have hsk := sum_take_succ hok2
                    have hnn := sum_take_nonneg hpz j (by simp [opsO, HL.out]; omega)
                    have hmx : sumO ((opsO ps).take (j + 1)) ≤ b2 := by
                      rw [← HSma.out]
                      rcases (by omega : j + 1 = L ∨ j + 1 < L) with h1 | h1
                      · rw [List.take_of_length_le (by simp [opsO, HL.out]; omega)]; exact Int.le_refl _
                      · have := sum_take_mono hpz (i := j + 1) (j := L) h1 (by simp [opsO, HL.out])
                        rw [List.take_of_length_le (i := L) (by simp [opsO, HL.out])] at this
                        omega
                    have hst := cutR_step hok2 (F : Int) ((F : Int) + N) (sumO ((opsO ps).take j)) rfl
                    have hIx := HIx.out
                    rw [hst] at hIx
                    have hS := HSj.out
                    obtain ⟨Z, hZ⟩ : ∃ Z, o2.size = Z := ⟨_, rfl⟩
                    have HZ2 := Lib.hid hZ
                    have HSk := Lib.hid (show sumO ((opsO ps).take (j + 1)) = S + Z by rw [hsk, hS, hZ])
                    rw [hS, hZ] at hIx hsk
                    rw [hS] at hnn
                    rw [hsk] at hmx
                    rw [hZ] at hz0
                    have HIy := Lib.hid hIx
                    have HLd := Lib.hid (fun w => QDSize_any o2 B2 pc2 w)
                    unfold Ans at HLd
                    simp only [hZ] at HLd
                    have hnum := Right_nums hro2 hb11 (by omega)
                    obtain ⟨n1, n2, n3, n4, n5⟩ := hnum
                    have HRo2 := Lib.hid hro2
                    simp only at d0 d1 d2 d3
                    obtain ⟨sn, hsn⟩ : ∃ sn, ss.length = sn := ⟨_, rfl⟩
                    have HSn := Lib.hid hsn
                    have hsl : ss.length ≤ 4000 := by
                      have h1 := congrArg List.length HIx.out
                      have h2 := HRnL.out
                      rw [List.length_append] at h1
                      have h3 : (opsO ss).length = ss.length := by simp [opsO]
                      omega
                    rw [hsn] at HOx HWx hsl HNg
                    obtain ⟨w9, hw9⟩ : ∃ w9, wr.alloc (.cells #[.bool o2.copy, .int .i64 o2.frm, .int .i64 o2.n, .slice B2 o2.b.length pc2] 66) = w9 := ⟨_, rfl⟩
                    have HF9 := Lib.hid (show Fr (fun _ => False) wr w9 by subst hw9; exact (Fr.refl _ _).alloc _)
                    have HO9 := Lib.hid (show OpAt w9 wr.heap.size 66 o2 B2 pc2 by subst hw9; exact OpAt.new _ _ _ _ _)
                    have HGw9 := Lib.hid (show gs + 1 ≤ wr.heap.size from by have := HFx.out.size; have := HF8.out.size; have := HSz.out; have := HGo.out; omega)
                    obtain ⟨y0, y1, y2, y3⟩ := HO9.out.cells
                    obtain ⟨gp, hgp⟩ : ∃ gp, wr.heap.size = gp := ⟨_, rfl⟩
                    have HGp := Lib.hid hgp
                    rw [hgp] at HO9 y0 y1 y2 y3
                    obtain ⟨v0, v1, v2, v3⟩ := (HOpx.out.fr HF9.out (fun e => e)).four
                    have hwa : IntKind.i64.wrap ((F : Int) - S) = (F : Int) - S := by rw [IntKind.wrap_i64]; omega
                    have hwb : IntKind.i64.wrap (S + Z) = S + Z := by rw [IntKind.wrap_i64]; omega
                    have hwc : IntKind.i64.wrap ((F : Int) + N) = (F : Int) + N := by rw [IntKind.wrap_i64]; omega
                    have hwd : IntKind.i64.wrap ((F : Int) + N - S) = (F : Int) + N - S := by rw [IntKind.wrap_i64]; omega
                    clear hpk2 hok2 hro2 hpz hsk hst hIx hS hZ hsn hAe hSar
                    go_upto_region 18 with (go_at_call 36; refine (HLd.out _).mono ?_; rintro e w10 ⟨rfl, b10⟩; have HF10 := Lib.hid (HF9.out.then_below b10); have HO10 := Lib.hid (HO9.out.fr (Fr.of_below b10)); have HOpy := Lib.hid (HOpx.out.fr HF10.out (fun e => e)); have HWy := Lib.hid (HWx.out.fr HF10.out (fun e => e)); have HRy := Lib.hid (own_fr HOx.out HF10.out (fun _ _ e => e)); clear b10)
                    clear hw9 hgp y0 y1 y2 y3 v0 v1 v2 v3 d0 d1 d2 d3 f0 f1 f2
                    obtain ⟨y0, y1, y2, y3⟩ := HO10.out.cells
                    obtain ⟨v0, v1, v2, v3⟩ := HOpy.out.four
                    obtain ⟨u0, u1, u2⟩ := HWy.out.three
                    have z2 := HWy.out.frozen 2
                    by_cases hcS : S < F
                    · by_cases hcE : (F : Int) + N < S + Z
                      · have hm : max 0 ((F : Int) - S) = (F : Int) - S ∧ min Z ((F : Int) + N - S) = (F : Int) + N - S := by omega
                        (
                          obtain ⟨hm1, hm2⟩ := hm
                          have hI := HIy.out
                          rw [hm1, hm2] at hI
                          have HIz := Lib.hid hI
                          have hb := hcE
                          have ha := hcS
                          clear hm1 hm2 hI
                          go_upto_region 22 with fail
                          have HGgo := Lib.hid (show gs < go ∧ go < gp from by have := HSz.out; have := HGo.out; have := HGp.out; have := HFx.out.size; have := HF8.out.size; have := HO8.out.whole.lt; omega)
                          have HSzg := Lib.hid (show go < w10.heap.size from by have := HF10.out.size; have := HGp.out; have := HGgo.out; omega)
                          have HGn := Lib.hid (show ¬ Value.ownBlock (.slice Ax sn cx) = some gp ∧ ¬ gp = gs from ⟨fun e => by have := (World.ownsRow.lt HOx.out _ e).2; have := HGp.out; omega, by have := HGgo.out; omega⟩)
                          by_cases hlh : ((F : Int) - S) < ((F : Int) + N - S)
                          · have HIn := Lib.hid (show opsO ss ++ ([subO o2 ((F : Int) - S) ((F : Int) + N - S)] ++ cutR ((opsO ps).drop (j + 1)) ((F : Int) - sumO ((opsO ps).take (j + 1))) ((F : Int) + N - sumO ((opsO ps).take (j + 1)))) = G from by have := HIz.out; rwa [if_pos hlh] at this)
                            have hlo0 : (0 : Int) ≤ ((F : Int) - S) := by omega
                            have hhiZ : ((F : Int) + N - S) ≤ Z := by omega
                            obtain ⟨cp2, fo2, no2, bs2⟩ := o2
                            simp only at n1 n2 n3 n4 n5 y0 y1 y2 y3
                            cases cp2
                            · obtain ⟨BL, hBL⟩ : ∃ BL, bs2.length = BL := ⟨_, rfl⟩
                              have hzn : Z = BL := by rw [← HZ2.out, ← hBL]; simp [DOp.size]
                              obtain ⟨l, hl⟩ : ∃ l : Nat, ((F : Int) - S) = (l : Int) := Int.eq_ofNat_of_zero_le hlo0
                              obtain ⟨m, hm⟩ : ∃ m : Nat, ((F : Int) + N - S) = (m : Int) := Int.eq_ofNat_of_zero_le (by omega)
                              have hml : m ≤ BL := by omega
                              have hsub : subO ⟨false, fo2, no2, bs2⟩ ((F : Int) - S) ((F : Int) + N - S) = newO ((bs2.drop l).take (m - l)) := by
                                unfold subO
                                rw [if_neg (by simp), hl, hm]
                                simp only [Int.toNat_natCast]
                                congr 2
                                omega
                              have hkc := HOk2.out.le
                              have hkm := HOk2.out.cap
                              simp only at hkc hkm
                              have hsl' : ∀ w, (Instr.slice 26 (.slice B2 BL pc2) (some (.int .i64 ((F : Int) - S))) (some (.int .i64 ((F : Int) + N - S))) none).run Try.prog w = .ok (.slice (tlB B2 pc2 l) (m - l) (pc2 - l)) w := fun w => by
                                rw [hl, hm]
                                exact slice_lhB B2 BL pc2 l m (by omega) (by omega) w
                              have hlen : ((bs2.drop l).take (m - l)).length = m - l := by rw [List.length_take, List.length_drop]; omega
                              have hlies := HOk2.out.lies.cutB pc2 l (m - l) hkc
                              obtain ⟨p, hp'⟩ : ∃ p, (bs2.drop l).take (m - l) = p := ⟨_, rfl⟩
                              rw [hp'] at hlen hsub hlies
                              obtain ⟨TA, hTA⟩ : ∃ TA, tlB B2 pc2 l = TA := ⟨_, rfl⟩
                              obtain ⟨C2, hC2⟩ : ∃ C2, pc2 - l = C2 := ⟨_, rfl⟩
                              obtain ⟨DD, hDD⟩ : ∃ DD, m - l = DD := ⟨_, rfl⟩
                              rw [hTA, hC2, hDD] at hsl'
                              rw [hTA] at hlies
                              rw [hDD] at hlen
                              rw [hsub] at HIn
                              have HQk := Lib.hid (show POp.Ok w ⟨newO p, TA, C2⟩ from ⟨⟨by simp [newO], by simp [newO]⟩, ⟨by simp [newO], by simp [newO]⟩, by simp only [newO]; omega, by simp only; omega, hlies⟩)
                              have HPl := Lib.hid hlen
                              rw [hBL] at y3
                              have HBl2 := Lib.hid (And.intro hBL hzn)
                              clear hzn hsub hl hm hml hkc hkm hlen hlies hp' hTA hC2 hDD hBL
                              go_upto_region 25 with fail
                              obtain ⟨SS, hSS⟩ : ∃ SS : Nat → Prop, SS = fun j => j = gs ∨ Value.ownBlock (.slice Ax sn cx) = some j := ⟨_, rfl⟩
                              have HSd : Hid (∀ j, SS j ↔ (j = gs ∨ Value.ownBlock (.slice Ax sn cx) = some j)) := Lib.hid (fun j => by rw [hSS])
                              have HSnp : Hid (¬ SS gp) := Lib.hid (fun e => by
                                rcases (HSd.out _).1 e with e | e
                                · exact HGn.out.2 e
                                · exact HGn.out.1 e)
                              have Hq3 := Lib.hid (show ∀ w', Fr SS w10 w' → w'.cell? ⟨gp, 3, none⟩ = some (.slice B2 BL pc2) from fun w' x => x.cell y3 HSnp.out)
                              clear hSS u0 u1 u2 z2 v0 v1 v2 v3
                              refine wp_region_held (S := fun w' => Fr SS w10 w') (by kernel_rfl) ?_
                              have HSq := Lib.hid (show Fr SS w10 w10.drew from (Fr.refl _ w10).drew)
                              (
                                refine wpAnyH_takeM (i := 0) (v := .pointer (some ⟨gs, 2, none⟩)) 121 rfl rfl (by kernel_rfl) (by kernel_rfl) (by kernel_rfl) (fun _ _ _ h => h) (.inl ⟨by rfl, ?_⟩) HSq.out ?_
                                · intro xw xf
                                  go_simp)
                              (
                                refine wpAnyH_takeM (i := 2) (v := .pointer (some ⟨gp, 3, none⟩)) 123 rfl rfl (by kernel_rfl) (by kernel_rfl) (by kernel_rfl) (fun _ _ _ h => h) (.inl ⟨by rfl, ?_⟩) HSq.out ?_
                                · intro xw xf
                                  go_simp)
                              (
                                refine wpAnyH_takeM (i := 4) (v := .int .i64 ((F : Int) - S)) 125 rfl rfl (by kernel_rfl) (by kernel_rfl) (by kernel_rfl) (fun _ _ _ h => h) (.inl ⟨by rfl, ?_⟩) HSq.out ?_
                                · intro xw xf
                                  go_simp)
                              (
                                refine wpAnyH_takeM (i := 5) (v := .int .i64 ((F : Int) + N - S)) 126 rfl rfl (by kernel_rfl) (by kernel_rfl) (by kernel_rfl) (fun _ _ _ h => h) (.inl ⟨by rfl, ?_⟩) HSq.out ?_
                                · intro xw xf
                                  go_simp)
                              (
                                refine wpAnyH_takeM (i := 3) (v := .slice B2 BL pc2) 124 rfl rfl (by kernel_rfl) (by kernel_rfl) (by kernel_rfl) (fun _ _ _ h => h) (.inl ⟨by rfl, ?_⟩) HSq.out ?_
                                · intro xw xf
                                  have xc := Hq3.out xw xf
                                  go_simp)
                              (
                                refine wpAnyH_takeM (i := 6) (v := .slice TA DD C2) 127 rfl rfl (by kernel_rfl) (by kernel_rfl) (by kernel_rfl) (fun _ _ _ h => h) (.inl ⟨by rfl, ?_⟩) HSq.out ?_
                                · intro xw xf
                                  go_simp)
                              (
                                refine wpAnyH_takeM (i := 7) (v := .agg #[.bool false, .int .i64 0, .int .i64 0, .slice TA DD C2]) 128 rfl rfl (by kernel_rfl) (by kernel_rfl) (by kernel_rfl) (fun _ _ _ h => h) (.inl ⟨by rfl, ?_⟩) HSq.out ?_
                                · intro xw xf
                                  go_simp)
                              try simp only [List.setIfInBounds_toArray, List.set_cons_succ, List.set_cons_zero]
                              change wpAnyH _ _ _ _ _ _ _ _ (World.drew w10)
                              have HFd8 := Lib.hid (show Fr (fun _ => False) w10 w10.drew from (Fr.refl _ w10).drew)
                              obtain ⟨wd, hwd⟩ : ∃ wd, w10.drew = wd := ⟨_, rfl⟩
                              rw [hwd]
                              rw [hwd] at HFd8
                              have HFd := Lib.hid (show Fr SS w10 wd from HFd8.out.mono (fun _ _ e => e.elim))
                              have HWd := Lib.hid (HWy.out.fr HFd8.out (fun e => e))
                              have HRd := Lib.hid (own_fr HRy.out HFd8.out (fun _ _ e => e))
                              have kd := (HWd.out.three).2.2
                              clear hwd HSq Hq3 hsl'
                              refine wpAnyH_all (rs := [1, 8]) (by kernel_rfl) (by simp) ?_
                              intro i hi
                              simp only [List.mem_cons, List.not_mem_nil, or_false] at hi
                              rcases hi with rfl | rfl
                              · (
                                refine wpOp_step rfl (fun K hK => ?_)
                                go_simp
                                refine hK _ _ ⟨HFd.out, ?_⟩
                                clear hK K)
                                (
                                  try simp only [List.setIfInBounds_toArray, List.set_cons_succ, List.set_cons_zero]
                                  refine wpAnyH_all (rs := [8]) (by kernel_rfl) (by simp) ?_
                                  intro i hi
                                  simp only [List.mem_cons, List.not_mem_nil, or_false] at hi
                                  subst hi)
                                (
                                  refine wpOp_step rfl (fun K hK => ?_)
                                  obtain ⟨wb, hwb⟩ : ∃ wb, wd.alloc (.cells #[.bool false, .int .i64 0, .int .i64 0, .slice TA DD C2] 66) = wb := ⟨_, rfl⟩
                                  have HFb := Lib.hid (show Fr (fun _ => False) wd wb by rw [← hwb]; exact (Fr.refl _ wd).alloc _)
                                  have HSrb := Lib.hid (show Src Try.prog 4 32 (.slice (some ⟨wd.heap.size, 0, none⟩) 1 1) 1 [.bool false, .int .i64 0, .int .i64 0, .slice TA DD C2] wb from by
                                    rw [← hwb]
                                    exact src_opv wd false 0 0 TA DD C2)
                                  have HFsb := Lib.hid (HFd.out.trans HFb.out (fun _ _ e => e.elim))
                                  have HWb := Lib.hid (HWd.out.fr HFb.out (fun e => e))
                                  have HRb' := Lib.hid (own_fr HRd.out HFb.out (fun _ _ e => e))
                                  have kb := (HWb.out.three).2.2
                                  have HSzb := Lib.hid (show gs + 1 ≤ wb.heap.size from by have := HFb.out.size; have := HFd8.out.size; have := HF10.out.size; have := HGw9.out; omega)
                                  go_simp
                                  refine hK _ _ ⟨HFsb.out, ?_⟩
                                  clear hK K hwb)
                                (
                                  (
                                    try simp only [List.setIfInBounds_toArray, List.set_cons_succ, List.set_cons_zero]
                                    refine wpAnyH_all (rs := [9]) (by kernel_rfl) (by simp) ?_
                                    intro i hi
                                    simp only [List.mem_cons, List.not_mem_nil, or_false] at hi
                                    subst hi)
                                  refine wpOp_step rfl (fun K hK => ?_)
                                  refine step_append_row _ (by rfl) (.tmp 122) (.tmp 129) 32 32 (by rfl) (gs + 1) 66 i0 (.agg zeroO) 4 48 Try.underlying32 gi gz0 gz1 gz2 (by rfl) (.slice Ax sn cx) sn (flatP ss) (by rfl) HRb'.out (.slice (some ⟨wd.heap.size, 0, none⟩) 1 1) 1 _ (by rfl) HSrb.out (by unfold maxLen; omega) (by omega) HSzb.out ?_
                                  intro v12 w12 o12 g12 at12
                                  have hf12 : Fr (fun j => Value.ownBlock (.slice Ax sn cx) = some j) wb w12 := (Fr.refl _ wb).grown g12 (fun j hj _ => hj)
                                  obtain ⟨A12, c12, hv12, -, -⟩ := own_slice o12
                                  subst hv12
                                  have HO12 := Lib.hid o12
                                  have HF12 := Lib.hid hf12
                                  have HNg12 := Lib.hid (show Value.ownBlock (.slice A12 (sn + 1) c12) ≠ some go from fun e => by
                                    rcases at12 with h | h
                                    · exact HNg.out (h.symm.trans e)
                                    · rw [e] at h
                                      injection h with h
                                      have := HGgo.out
                                      have := HSzg.out
                                      have := HFb.out.size
                                      have := HFd8.out.size
                                      omega)
                                  have HFs12 := Lib.hid (HFsb.out.trans hf12 (fun i hi e => (HSd.out i).2 (.inr e)))
                                  have HW12 := Lib.hid (HWb.out.fr hf12 (fun e => by have := (World.ownsRow.lt HRd.out _ e).1; omega))
                                  have k12 := (HW12.out.three).2.2
                                  have z12 := HW12.out.frozen 2
                                  clear o12 g12 at12 hf12
                                  go_simp
                                  refine hK _ _ ⟨HFs12.out, ?_⟩
                                  clear hK K
                                  have HSq := HFs12
                                  try simp only [List.setIfInBounds_toArray, List.set_cons_succ, List.set_cons_zero]
                                  (
                                    refine wpAnyH_takeM (i := 10) (v := .pointer (some ⟨gs, 2, none⟩)) 131 rfl rfl (by kernel_rfl) (by kernel_rfl) (by kernel_rfl) (fun _ _ _ h => h) (.inl ⟨by rfl, ?_⟩) HSq.out ?_
                                    · intro xw xf
                                      go_simp)
                                  clear HSq
                                  (
                                    try simp only [List.setIfInBounds_toArray, List.set_cons_succ, List.set_cons_zero]
                                    refine wpAnyH_all (rs := [11]) (by kernel_rfl) (by simp) ?_
                                    intro i hi
                                    simp only [List.mem_cons, List.not_mem_nil, or_false] at hi
                                    subst hi)
                                  refine wpOp_step rfl (fun K hK => ?_)
                                  obtain ⟨w13, hw13⟩ : ∃ w13, w12.setCell ⟨gs, 2, none⟩ (.slice A12 (sn + 1) c12) = w13 := ⟨_, rfl⟩
                                  have HF13 := Lib.hid (show Fr (fun j => j = gs) w12 w13 by subst hw13; exact Fr.setCell (S := fun j => j = gs) (p := ⟨gs, 2, none⟩) (Fr.refl _ w12) (fun _ => rfl) _)
                                  have HW13 := Lib.hid (show Whole w13 gs 34 #[.int .i64 b1, .int .i64 T, .slice A12 (sn + 1) c12] by subst hw13; exact HW12.out.set 2 _)
                                  go_simp
                                  refine hK _ _ ⟨HFs12.out.trans HF13.out (fun i hi e => (HSd.out i).2 (.inl e)), ?_⟩
                                  clear hK K
                                  refine wpAnyH_done (by kernel_rfl) ?_ _
                                  have HO13 := Lib.hid (own_fr HO12.out HF13.out (fun j hj e => by have := (World.ownsRow.lt HO12.out j hj).1; omega))
                                  have HFx13 := Lib.hid (show Fr (fun j => gs ≤ j ∧ j ≠ go) wr w13 from by
                                    refine ((HF10.out.mono (fun _ _ e => e.elim)).trans HFs12.out (fun i hi e => ?_)).trans HF13.out (fun i hi e => ⟨by omega, by have := HGgo.out; omega⟩)
                                    rcases (HSd.out i).1 e with e | e
                                    · exact ⟨by omega, by have := HGgo.out; omega⟩
                                    · exact ⟨by have := (World.ownsRow.lt HOx.out i e).1; omega, fun e2 => HNg.out (by rw [e, e2])⟩)
                                  have HOP13 := Lib.hid ((HO10.out.fr (HFd8.out.trans HFb.out (fun _ _ e => e))).frS HF12.out HF13.out HGn.out.1 HGn.out.2)
                                  have HO13p := Lib.hid (show w13.ownsRow (gs + 1) 66 4 (.slice A12 (sn + 1) c12) (sn + 1) (flatP ss ++ POp.cells ⟨newO p, TA, C2⟩) from by have := HO13.out; simpa only [POp.cells, newO, HPl.out] using this)
                                  (
                                    clear y0 y1 y2 y3
                                    obtain ⟨y0, y1, y2, y3⟩ := HOP13.out.cells
                                    simp only at y0 y1 y2 y3
                                    go_wp2_with (go_at_call 36; refine (HLd.out _).mono ?_; rintro e w14 ⟨rfl, b14⟩; have HF14 := Lib.hid (Fr.of_below (S := fun _ => False) b14); clear b14)
                                    go_roundw
                                    case rel =>
                                      refine ⟨j + 1, S + Z, _, (ss ++ [⟨newO p, TA, C2⟩]), by omega, by go_num, by go_num, HSk, Lib.hid (HW13.out.fr HF14.out (fun e => e)), Lib.hid ?_, Lib.hid ?_, Lib.hid ?_, HNg12, Lib.hid ((HFx.out.trans HFx13.out (fun _ _ e => e)).trans HF14.out (fun _ _ e => e.elim))⟩
                                      · rw [List.length_append, flatP_append, flatP_one, HSn.out]
                                        exact own_fr HO13p.out HF14.out (fun _ _ e => e)
                                      · rw [opsO_append, ← HIn.out, List.append_assoc]
                                        rfl
                                      · intro q hq
                                        rcases List.mem_append.1 hq with h6 | h6
                                        · exact HOkx.out q h6
                                        · rw [List.mem_singleton.1 h6]
                                          exact HQk.out
                                    case measure => simp [intOf]; omega))
                              · (
                                refine wpOp_step rfl (fun K hK => ?_)
                                obtain ⟨wb, hwb⟩ : ∃ wb, wd.alloc (.cells #[.bool false, .int .i64 0, .int .i64 0, .slice TA DD C2] 66) = wb := ⟨_, rfl⟩
                                have HFb := Lib.hid (show Fr (fun _ => False) wd wb by rw [← hwb]; exact (Fr.refl _ wd).alloc _)
                                have HSrb := Lib.hid (show Src Try.prog 4 32 (.slice (some ⟨wd.heap.size, 0, none⟩) 1 1) 1 [.bool false, .int .i64 0, .int .i64 0, .slice TA DD C2] wb from by
                                  rw [← hwb]
                                  exact src_opv wd false 0 0 TA DD C2)
                                have HFsb := Lib.hid (HFd.out.trans HFb.out (fun _ _ e => e.elim))
                                have HWb := Lib.hid (HWd.out.fr HFb.out (fun e => e))
                                have HRb' := Lib.hid (own_fr HRd.out HFb.out (fun _ _ e => e))
                                have kb := (HWb.out.three).2.2
                                have HSzb := Lib.hid (show gs + 1 ≤ wb.heap.size from by have := HFb.out.size; have := HFd8.out.size; have := HF10.out.size; have := HGw9.out; omega)
                                go_simp
                                refine hK _ _ ⟨HFsb.out, ?_⟩
                                clear hK K hwb)
                                (
                                  try simp only [List.setIfInBounds_toArray, List.set_cons_succ, List.set_cons_zero]
                                  refine wpAnyH_all (rs := [1]) (by kernel_rfl) (by simp) ?_
                                  intro i hi
                                  simp only [List.mem_cons, List.not_mem_nil, or_false] at hi
                                  subst hi)
                                (
                                  refine wpOp_step rfl (fun K hK => ?_)
                                  go_simp
                                  refine hK _ _ ⟨HFsb.out, ?_⟩
                                  clear hK K)
                                (
                                  (
                                    try simp only [List.setIfInBounds_toArray, List.set_cons_succ, List.set_cons_zero]
                                    refine wpAnyH_all (rs := [9]) (by kernel_rfl) (by simp) ?_
                                    intro i hi
                                    simp only [List.mem_cons, List.not_mem_nil, or_false] at hi
                                    subst hi)
                                  refine wpOp_step rfl (fun K hK => ?_)
                                  refine step_append_row _ (by rfl) (.tmp 122) (.tmp 129) 32 32 (by rfl) (gs + 1) 66 i0 (.agg zeroO) 4 48 Try.underlying32 gi gz0 gz1 gz2 (by rfl) (.slice Ax sn cx) sn (flatP ss) (by rfl) HRb'.out (.slice (some ⟨wd.heap.size, 0, none⟩) 1 1) 1 _ (by rfl) HSrb.out (by unfold maxLen; omega) (by omega) HSzb.out ?_
                                  intro v12 w12 o12 g12 at12
                                  have hf12 : Fr (fun j => Value.ownBlock (.slice Ax sn cx) = some j) wb w12 := (Fr.refl _ wb).grown g12 (fun j hj _ => hj)
                                  obtain ⟨A12, c12, hv12, -, -⟩ := own_slice o12
                                  subst hv12
                                  have HO12 := Lib.hid o12
                                  have HF12 := Lib.hid hf12
                                  have HNg12 := Lib.hid (show Value.ownBlock (.slice A12 (sn + 1) c12) ≠ some go from fun e => by
                                    rcases at12 with h | h
                                    · exact HNg.out (h.symm.trans e)
                                    · rw [e] at h
                                      injection h with h
                                      have := HGgo.out
                                      have := HSzg.out
                                      have := HFb.out.size
                                      have := HFd8.out.size
                                      omega)
                                  have HFs12 := Lib.hid (HFsb.out.trans hf12 (fun i hi e => (HSd.out i).2 (.inr e)))
                                  have HW12 := Lib.hid (HWb.out.fr hf12 (fun e => by have := (World.ownsRow.lt HRd.out _ e).1; omega))
                                  have k12 := (HW12.out.three).2.2
                                  have z12 := HW12.out.frozen 2
                                  clear o12 g12 at12 hf12
                                  go_simp
                                  refine hK _ _ ⟨HFs12.out, ?_⟩
                                  clear hK K
                                  have HSq := HFs12
                                  try simp only [List.setIfInBounds_toArray, List.set_cons_succ, List.set_cons_zero]
                                  (
                                    refine wpAnyH_takeM (i := 10) (v := .pointer (some ⟨gs, 2, none⟩)) 131 rfl rfl (by kernel_rfl) (by kernel_rfl) (by kernel_rfl) (fun _ _ _ h => h) (.inl ⟨by rfl, ?_⟩) HSq.out ?_
                                    · intro xw xf
                                      go_simp)
                                  clear HSq
                                  (
                                    try simp only [List.setIfInBounds_toArray, List.set_cons_succ, List.set_cons_zero]
                                    refine wpAnyH_all (rs := [11]) (by kernel_rfl) (by simp) ?_
                                    intro i hi
                                    simp only [List.mem_cons, List.not_mem_nil, or_false] at hi
                                    subst hi)
                                  refine wpOp_step rfl (fun K hK => ?_)
                                  obtain ⟨w13, hw13⟩ : ∃ w13, w12.setCell ⟨gs, 2, none⟩ (.slice A12 (sn + 1) c12) = w13 := ⟨_, rfl⟩
                                  have HF13 := Lib.hid (show Fr (fun j => j = gs) w12 w13 by subst hw13; exact Fr.setCell (S := fun j => j = gs) (p := ⟨gs, 2, none⟩) (Fr.refl _ w12) (fun _ => rfl) _)
                                  have HW13 := Lib.hid (show Whole w13 gs 34 #[.int .i64 b1, .int .i64 T, .slice A12 (sn + 1) c12] by subst hw13; exact HW12.out.set 2 _)
                                  go_simp
                                  refine hK _ _ ⟨HFs12.out.trans HF13.out (fun i hi e => (HSd.out i).2 (.inl e)), ?_⟩
                                  clear hK K
                                  refine wpAnyH_done (by kernel_rfl) ?_ _
                                  have HO13 := Lib.hid (own_fr HO12.out HF13.out (fun j hj e => by have := (World.ownsRow.lt HO12.out j hj).1; omega))
                                  have HFx13 := Lib.hid (show Fr (fun j => gs ≤ j ∧ j ≠ go) wr w13 from by
                                    refine ((HF10.out.mono (fun _ _ e => e.elim)).trans HFs12.out (fun i hi e => ?_)).trans HF13.out (fun i hi e => ⟨by omega, by have := HGgo.out; omega⟩)
                                    rcases (HSd.out i).1 e with e | e
                                    · exact ⟨by omega, by have := HGgo.out; omega⟩
                                    · exact ⟨by have := (World.ownsRow.lt HOx.out i e).1; omega, fun e2 => HNg.out (by rw [e, e2])⟩)
                                  have HOP13 := Lib.hid ((HO10.out.fr (HFd8.out.trans HFb.out (fun _ _ e => e))).frS HF12.out HF13.out HGn.out.1 HGn.out.2)
                                  have HO13p := Lib.hid (show w13.ownsRow (gs + 1) 66 4 (.slice A12 (sn + 1) c12) (sn + 1) (flatP ss ++ POp.cells ⟨newO p, TA, C2⟩) from by have := HO13.out; simpa only [POp.cells, newO, HPl.out] using this)
                                  (
                                    clear y0 y1 y2 y3
                                    obtain ⟨y0, y1, y2, y3⟩ := HOP13.out.cells
                                    simp only at y0 y1 y2 y3
                                    go_wp2_with (go_at_call 36; refine (HLd.out _).mono ?_; rintro e w14 ⟨rfl, b14⟩; have HF14 := Lib.hid (Fr.of_below (S := fun _ => False) b14); clear b14)
                                    go_roundw
                                    case rel =>
                                      refine ⟨j + 1, S + Z, _, (ss ++ [⟨newO p, TA, C2⟩]), by omega, by go_num, by go_num, HSk, Lib.hid (HW13.out.fr HF14.out (fun e => e)), Lib.hid ?_, Lib.hid ?_, Lib.hid ?_, HNg12, Lib.hid ((HFx.out.trans HFx13.out (fun _ _ e => e)).trans HF14.out (fun _ _ e => e.elim))⟩
                                      · rw [List.length_append, flatP_append, flatP_one, HSn.out]
                                        exact own_fr HO13p.out HF14.out (fun _ _ e => e)
                                      · rw [opsO_append, ← HIn.out, List.append_assoc]
                                        rfl
                                      · intro q hq
                                        rcases List.mem_append.1 hq with h6 | h6
                                        · exact HOkx.out q h6
                                        · rw [List.mem_singleton.1 h6]
                                          exact HQk.out
                                    case measure => simp [intOf]; omega))
                            · have hzn : Z = no2 := HZ2.out.symm
                              have hsub : subO ⟨true, fo2, no2, bs2⟩ ((F : Int) - S) ((F : Int) + N - S) = ⟨true, (fo2 + ((F : Int) - S)), ((F : Int) + N - S - ((F : Int) - S)), []⟩ := by
                                unfold subO
                                rw [if_pos rfl]
                                all_goals exact DOp.ext' rfl (by first | rfl | (simp only; omega)) (by first | rfl | (simp only; omega)) rfl
                              rw [hsub] at HIn
                              have HSr := Lib.hid (fun w => src_opv w true (fo2 + ((F : Int) - S)) ((F : Int) + N - S - ((F : Int) - S)) none 0 0)
                              have HQk := Lib.hid (show POp.Ok w ⟨⟨true, (fo2 + ((F : Int) - S)), ((F : Int) + N - S - ((F : Int) - S)), []⟩, none, 0⟩ from ⟨⟨by simp only; omega, by simp only; omega⟩, ⟨by simp only; omega, by simp only; omega⟩, Nat.le_refl _, Nat.zero_le _, .inl rfl⟩)
                              have hwf : IntKind.i64.wrap (fo2 + ((F : Int) - S)) = (fo2 + ((F : Int) - S)) := by rw [IntKind.wrap_i64]; omega
                              have hwg : IntKind.i64.wrap ((F : Int) + N - S - ((F : Int) - S)) = ((F : Int) + N - S - ((F : Int) - S)) := by rw [IntKind.wrap_i64]; omega
                              have HZn := Lib.hid hzn
                              clear hzn hsub
                              go_upto_region 24 with (at_builtin; refine wpList_append_row _ rfl (.tmp 101) (.tmp 110) 32 32 rfl (gs + 1) 66 i0 (.agg zeroO) 4 48 Try.underlying32 gi gz0 gz1 gz2 rfl _ sn _ rfl (HRy.out.alloc _) _ 1 _ rfl (HSr.out _) (by unfold maxLen; omega) (by omega) (by have := HGw9.out; have := HF10.out.size; simp; omega) ?_
                                                      intro v12 w12 o12 g12 at12
                                                      have hf12 : Fr (fun j => Value.ownBlock (.slice Ax sn cx) = some j) w10 w12 := ((Fr.refl _ w10).alloc _).grown g12 (fun j hj _ => hj)
                                                      obtain ⟨A12, c12, hv12, -, -⟩ := own_slice o12
                                                      subst hv12
                                                      have HO12 := Lib.hid o12
                                                      have HF12 := Lib.hid hf12
                                                      have HNg12 := Lib.hid (show Value.ownBlock (.slice A12 (sn + 1) c12) ≠ some go from fun e => by
                                                        rcases at12 with h | h
                                                        · exact HNg.out (h.symm.trans e)
                                                        · rw [e] at h
                                                          injection h with h
                                                          have := HSzg.out
                                                          first | (simp at h; done) | (simp at h; omega))
                                                      have HW12 := Lib.hid (HWy.out.fr hf12 (fun e => by have := (World.ownsRow.lt HRy.out _ e).1; omega))
                                                      have k12 := (HW12.out.three).2.2
                                                      have z12 := HW12.out.frozen 2
                                                      clear o12 g12 at12 hf12)
                              obtain ⟨w13, hw13⟩ : ∃ w13, w12.setCell ⟨gs, 2, none⟩ (.slice A12 (sn + 1) c12) = w13 := ⟨_, rfl⟩
                              rw [hw13]
                              have HF13 := Lib.hid (show Fr (fun j => j = gs) w12 w13 by subst hw13; exact Fr.setCell (S := fun j => j = gs) (p := ⟨gs, 2, none⟩) (Fr.refl _ w12) (fun _ => rfl) _)
                              have HW13 := Lib.hid (show Whole w13 gs 34 #[.int .i64 b1, .int .i64 T, .slice A12 (sn + 1) c12] by subst hw13; exact HW12.out.set 2 _)
                              have HO13 := Lib.hid (own_fr HO12.out HF13.out (fun j hj e => by have := (World.ownsRow.lt HO12.out j hj).1; omega))
                              have HFx13 := Lib.hid (show Fr (fun j => gs ≤ j ∧ j ≠ go) wr w13 from ((HF10.out.mono (fun _ _ e => e.elim)).trans HF12.out (fun i hi e => ⟨by have := (World.ownsRow.lt HOx.out i e).1; omega, fun e2 => HNg.out (by rw [e, e2])⟩)).trans HF13.out (fun i hi e => ⟨by omega, by have := HGgo.out; omega⟩))
                              have HOP13 := Lib.hid (HO10.out.frS HF12.out HF13.out HGn.out.1 HGn.out.2)
                              clear hw13 k12 z12 u0 u1 u2 z2
                              (
                                clear y0 y1 y2 y3
                                obtain ⟨y0, y1, y2, y3⟩ := HOP13.out.cells
                                simp only at y0 y1 y2 y3
                                go_wp2_with (go_at_call 36; refine (HLd.out _).mono ?_; rintro e w14 ⟨rfl, b14⟩; have HF14 := Lib.hid (Fr.of_below (S := fun _ => False) b14); clear b14)
                                go_roundw
                                case rel =>
                                  refine ⟨j + 1, S + Z, _, (ss ++ [⟨⟨true, (fo2 + ((F : Int) - S)), ((F : Int) + N - S - ((F : Int) - S)), []⟩, none, 0⟩]), by omega, by go_num, by go_num, HSk, Lib.hid (HW13.out.fr HF14.out (fun e => e)), Lib.hid ?_, Lib.hid ?_, Lib.hid ?_, HNg12, Lib.hid ((HFx.out.trans HFx13.out (fun _ _ e => e)).trans HF14.out (fun _ _ e => e.elim))⟩
                                  · rw [List.length_append, flatP_append, flatP_one, HSn.out]
                                    exact own_fr HO13.out HF14.out (fun _ _ e => e)
                                  · rw [opsO_append, ← HIn.out, List.append_assoc]
                                    rfl
                                  · intro q hq
                                    rcases List.mem_append.1 hq with h6 | h6
                                    · exact HOkx.out q h6
                                    · rw [List.mem_singleton.1 h6]
                                      exact HQk.out
                                case measure => simp [intOf]; omega)
                          · have HIn := Lib.hid (show opsO ss ++ cutR ((opsO ps).drop (j + 1)) ((F : Int) - sumO ((opsO ps).take (j + 1))) ((F : Int) + N - sumO ((opsO ps).take (j + 1))) = G from by have := HIz.out; rwa [if_neg hlh, List.nil_append] at this)
                            go_wp2_with (go_at_call 36; refine (HLd.out _).mono ?_; rintro e w11 ⟨rfl, b11⟩; have HF11 := Lib.hid (HF10.out.then_below b11); clear b11)
                            go_roundw
                            case rel => exact ⟨j + 1, S + Z, _, ss, by omega, by go_num, by go_num, HSk, Lib.hid (HWx.out.fr HF11.out (fun e => e)), Lib.hid (by rw [HSn.out]; exact own_fr HOx.out HF11.out (fun _ _ e => e)), HIn, HOkx, HNg, Lib.hid (HFx.out.trans HF11.out (fun _ _ e => e.elim))⟩
                            case measure => simp [intOf]; omega)
                      · have hm : max 0 ((F : Int) - S) = (F : Int) - S ∧ min Z ((F : Int) + N - S) = Z := by omega
                        (
                          obtain ⟨hm1, hm2⟩ := hm
                          have hI := HIy.out
                          rw [hm1, hm2] at hI
                          have HIz := Lib.hid hI
                          have hb := hcE
                          have ha := hcS
                          clear hm1 hm2 hI
                          go_upto_region 22 with fail
                          have HGgo := Lib.hid (show gs < go ∧ go < gp from by have := HSz.out; have := HGo.out; have := HGp.out; have := HFx.out.size; have := HF8.out.size; have := HO8.out.whole.lt; omega)
                          have HSzg := Lib.hid (show go < w10.heap.size from by have := HF10.out.size; have := HGp.out; have := HGgo.out; omega)
                          have HGn := Lib.hid (show ¬ Value.ownBlock (.slice Ax sn cx) = some gp ∧ ¬ gp = gs from ⟨fun e => by have := (World.ownsRow.lt HOx.out _ e).2; have := HGp.out; omega, by have := HGgo.out; omega⟩)
                          by_cases hlh : ((F : Int) - S) < Z
                          · have HIn := Lib.hid (show opsO ss ++ ([subO o2 ((F : Int) - S) Z] ++ cutR ((opsO ps).drop (j + 1)) ((F : Int) - sumO ((opsO ps).take (j + 1))) ((F : Int) + N - sumO ((opsO ps).take (j + 1)))) = G from by have := HIz.out; rwa [if_pos hlh] at this)
                            have hlo0 : (0 : Int) ≤ ((F : Int) - S) := by omega
                            have hhiZ : Z ≤ Z := by omega
                            obtain ⟨cp2, fo2, no2, bs2⟩ := o2
                            simp only at n1 n2 n3 n4 n5 y0 y1 y2 y3
                            cases cp2
                            · obtain ⟨BL, hBL⟩ : ∃ BL, bs2.length = BL := ⟨_, rfl⟩
                              have hzn : Z = BL := by rw [← HZ2.out, ← hBL]; simp [DOp.size]
                              obtain ⟨l, hl⟩ : ∃ l : Nat, ((F : Int) - S) = (l : Int) := Int.eq_ofNat_of_zero_le hlo0
                              obtain ⟨m, hm⟩ : ∃ m : Nat, Z = (m : Int) := Int.eq_ofNat_of_zero_le (by omega)
                              have hml : m ≤ BL := by omega
                              have hsub : subO ⟨false, fo2, no2, bs2⟩ ((F : Int) - S) Z = newO ((bs2.drop l).take (m - l)) := by
                                unfold subO
                                rw [if_neg (by simp), hl, hm]
                                simp only [Int.toNat_natCast]
                                congr 2
                                omega
                              have hkc := HOk2.out.le
                              have hkm := HOk2.out.cap
                              simp only at hkc hkm
                              have hsl' : ∀ w, (Instr.slice 26 (.slice B2 BL pc2) (some (.int .i64 ((F : Int) - S))) (some (.int .i64 Z)) none).run Try.prog w = .ok (.slice (tlB B2 pc2 l) (m - l) (pc2 - l)) w := fun w => by
                                rw [hl, hm]
                                exact slice_lhB B2 BL pc2 l m (by omega) (by omega) w
                              have hlen : ((bs2.drop l).take (m - l)).length = m - l := by rw [List.length_take, List.length_drop]; omega
                              have hlies := HOk2.out.lies.cutB pc2 l (m - l) hkc
                              obtain ⟨p, hp'⟩ : ∃ p, (bs2.drop l).take (m - l) = p := ⟨_, rfl⟩
                              rw [hp'] at hlen hsub hlies
                              obtain ⟨TA, hTA⟩ : ∃ TA, tlB B2 pc2 l = TA := ⟨_, rfl⟩
                              obtain ⟨C2, hC2⟩ : ∃ C2, pc2 - l = C2 := ⟨_, rfl⟩
                              obtain ⟨DD, hDD⟩ : ∃ DD, m - l = DD := ⟨_, rfl⟩
                              rw [hTA, hC2, hDD] at hsl'
                              rw [hTA] at hlies
                              rw [hDD] at hlen
                              rw [hsub] at HIn
                              have HQk := Lib.hid (show POp.Ok w ⟨newO p, TA, C2⟩ from ⟨⟨by simp [newO], by simp [newO]⟩, ⟨by simp [newO], by simp [newO]⟩, by simp only [newO]; omega, by simp only; omega, hlies⟩)
                              have HPl := Lib.hid hlen
                              rw [hBL] at y3
                              have HBl2 := Lib.hid (And.intro hBL hzn)
                              clear hzn hsub hl hm hml hkc hkm hlen hlies hp' hTA hC2 hDD hBL
                              go_upto_region 25 with fail
                              obtain ⟨SS, hSS⟩ : ∃ SS : Nat → Prop, SS = fun j => j = gs ∨ Value.ownBlock (.slice Ax sn cx) = some j := ⟨_, rfl⟩
                              have HSd : Hid (∀ j, SS j ↔ (j = gs ∨ Value.ownBlock (.slice Ax sn cx) = some j)) := Lib.hid (fun j => by rw [hSS])
                              have HSnp : Hid (¬ SS gp) := Lib.hid (fun e => by
                                rcases (HSd.out _).1 e with e | e
                                · exact HGn.out.2 e
                                · exact HGn.out.1 e)
                              have Hq3 := Lib.hid (show ∀ w', Fr SS w10 w' → w'.cell? ⟨gp, 3, none⟩ = some (.slice B2 BL pc2) from fun w' x => x.cell y3 HSnp.out)
                              clear hSS u0 u1 u2 z2 v0 v1 v2 v3
                              refine wp_region_held (S := fun w' => Fr SS w10 w') (by kernel_rfl) ?_
                              have HSq := Lib.hid (show Fr SS w10 w10.drew from (Fr.refl _ w10).drew)
                              (
                                refine wpAnyH_takeM (i := 0) (v := .pointer (some ⟨gs, 2, none⟩)) 121 rfl rfl (by kernel_rfl) (by kernel_rfl) (by kernel_rfl) (fun _ _ _ h => h) (.inl ⟨by rfl, ?_⟩) HSq.out ?_
                                · intro xw xf
                                  go_simp)
                              (
                                refine wpAnyH_takeM (i := 2) (v := .pointer (some ⟨gp, 3, none⟩)) 123 rfl rfl (by kernel_rfl) (by kernel_rfl) (by kernel_rfl) (fun _ _ _ h => h) (.inl ⟨by rfl, ?_⟩) HSq.out ?_
                                · intro xw xf
                                  go_simp)
                              (
                                refine wpAnyH_takeM (i := 4) (v := .int .i64 ((F : Int) - S)) 125 rfl rfl (by kernel_rfl) (by kernel_rfl) (by kernel_rfl) (fun _ _ _ h => h) (.inl ⟨by rfl, ?_⟩) HSq.out ?_
                                · intro xw xf
                                  go_simp)
                              (
                                refine wpAnyH_takeM (i := 5) (v := .int .i64 Z) 126 rfl rfl (by kernel_rfl) (by kernel_rfl) (by kernel_rfl) (fun _ _ _ h => h) (.inl ⟨by rfl, ?_⟩) HSq.out ?_
                                · intro xw xf
                                  go_simp)
                              (
                                refine wpAnyH_takeM (i := 3) (v := .slice B2 BL pc2) 124 rfl rfl (by kernel_rfl) (by kernel_rfl) (by kernel_rfl) (fun _ _ _ h => h) (.inl ⟨by rfl, ?_⟩) HSq.out ?_
                                · intro xw xf
                                  have xc := Hq3.out xw xf
                                  go_simp)
                              (
                                refine wpAnyH_takeM (i := 6) (v := .slice TA DD C2) 127 rfl rfl (by kernel_rfl) (by kernel_rfl) (by kernel_rfl) (fun _ _ _ h => h) (.inl ⟨by rfl, ?_⟩) HSq.out ?_
                                · intro xw xf
                                  go_simp)
                              (
                                refine wpAnyH_takeM (i := 7) (v := .agg #[.bool false, .int .i64 0, .int .i64 0, .slice TA DD C2]) 128 rfl rfl (by kernel_rfl) (by kernel_rfl) (by kernel_rfl) (fun _ _ _ h => h) (.inl ⟨by rfl, ?_⟩) HSq.out ?_
                                · intro xw xf
                                  go_simp)
                              try simp only [List.setIfInBounds_toArray, List.set_cons_succ, List.set_cons_zero]
                              change wpAnyH _ _ _ _ _ _ _ _ (World.drew w10)
                              have HFd8 := Lib.hid (show Fr (fun _ => False) w10 w10.drew from (Fr.refl _ w10).drew)
                              obtain ⟨wd, hwd⟩ : ∃ wd, w10.drew = wd := ⟨_, rfl⟩
                              rw [hwd]
                              rw [hwd] at HFd8
                              have HFd := Lib.hid (show Fr SS w10 wd from HFd8.out.mono (fun _ _ e => e.elim))
                              have HWd := Lib.hid (HWy.out.fr HFd8.out (fun e => e))
                              have HRd := Lib.hid (own_fr HRy.out HFd8.out (fun _ _ e => e))
                              have kd := (HWd.out.three).2.2
                              clear hwd HSq Hq3 hsl'
                              refine wpAnyH_all (rs := [1, 8]) (by kernel_rfl) (by simp) ?_
                              intro i hi
                              simp only [List.mem_cons, List.not_mem_nil, or_false] at hi
                              rcases hi with rfl | rfl
                              · (
                                refine wpOp_step rfl (fun K hK => ?_)
                                go_simp
                                refine hK _ _ ⟨HFd.out, ?_⟩
                                clear hK K)
                                (
                                  try simp only [List.setIfInBounds_toArray, List.set_cons_succ, List.set_cons_zero]
                                  refine wpAnyH_all (rs := [8]) (by kernel_rfl) (by simp) ?_
                                  intro i hi
                                  simp only [List.mem_cons, List.not_mem_nil, or_false] at hi
                                  subst hi)
                                (
                                  refine wpOp_step rfl (fun K hK => ?_)
                                  obtain ⟨wb, hwb⟩ : ∃ wb, wd.alloc (.cells #[.bool false, .int .i64 0, .int .i64 0, .slice TA DD C2] 66) = wb := ⟨_, rfl⟩
                                  have HFb := Lib.hid (show Fr (fun _ => False) wd wb by rw [← hwb]; exact (Fr.refl _ wd).alloc _)
                                  have HSrb := Lib.hid (show Src Try.prog 4 32 (.slice (some ⟨wd.heap.size, 0, none⟩) 1 1) 1 [.bool false, .int .i64 0, .int .i64 0, .slice TA DD C2] wb from by
                                    rw [← hwb]
                                    exact src_opv wd false 0 0 TA DD C2)
                                  have HFsb := Lib.hid (HFd.out.trans HFb.out (fun _ _ e => e.elim))
                                  have HWb := Lib.hid (HWd.out.fr HFb.out (fun e => e))
                                  have HRb' := Lib.hid (own_fr HRd.out HFb.out (fun _ _ e => e))
                                  have kb := (HWb.out.three).2.2
                                  have HSzb := Lib.hid (show gs + 1 ≤ wb.heap.size from by have := HFb.out.size; have := HFd8.out.size; have := HF10.out.size; have := HGw9.out; omega)
                                  go_simp
                                  refine hK _ _ ⟨HFsb.out, ?_⟩
                                  clear hK K hwb)
                                (
                                  (
                                    try simp only [List.setIfInBounds_toArray, List.set_cons_succ, List.set_cons_zero]
                                    refine wpAnyH_all (rs := [9]) (by kernel_rfl) (by simp) ?_
                                    intro i hi
                                    simp only [List.mem_cons, List.not_mem_nil, or_false] at hi
                                    subst hi)
                                  refine wpOp_step rfl (fun K hK => ?_)
                                  refine step_append_row _ (by rfl) (.tmp 122) (.tmp 129) 32 32 (by rfl) (gs + 1) 66 i0 (.agg zeroO) 4 48 Try.underlying32 gi gz0 gz1 gz2 (by rfl) (.slice Ax sn cx) sn (flatP ss) (by rfl) HRb'.out (.slice (some ⟨wd.heap.size, 0, none⟩) 1 1) 1 _ (by rfl) HSrb.out (by unfold maxLen; omega) (by omega) HSzb.out ?_
                                  intro v12 w12 o12 g12 at12
                                  have hf12 : Fr (fun j => Value.ownBlock (.slice Ax sn cx) = some j) wb w12 := (Fr.refl _ wb).grown g12 (fun j hj _ => hj)
                                  obtain ⟨A12, c12, hv12, -, -⟩ := own_slice o12
                                  subst hv12
                                  have HO12 := Lib.hid o12
                                  have HF12 := Lib.hid hf12
                                  have HNg12 := Lib.hid (show Value.ownBlock (.slice A12 (sn + 1) c12) ≠ some go from fun e => by
                                    rcases at12 with h | h
                                    · exact HNg.out (h.symm.trans e)
                                    · rw [e] at h
                                      injection h with h
                                      have := HGgo.out
                                      have := HSzg.out
                                      have := HFb.out.size
                                      have := HFd8.out.size
                                      omega)
                                  have HFs12 := Lib.hid (HFsb.out.trans hf12 (fun i hi e => (HSd.out i).2 (.inr e)))
                                  have HW12 := Lib.hid (HWb.out.fr hf12 (fun e => by have := (World.ownsRow.lt HRd.out _ e).1; omega))
                                  have k12 := (HW12.out.three).2.2
                                  have z12 := HW12.out.frozen 2
                                  clear o12 g12 at12 hf12
                                  go_simp
                                  refine hK _ _ ⟨HFs12.out, ?_⟩
                                  clear hK K
                                  have HSq := HFs12
                                  try simp only [List.setIfInBounds_toArray, List.set_cons_succ, List.set_cons_zero]
                                  (
                                    refine wpAnyH_takeM (i := 10) (v := .pointer (some ⟨gs, 2, none⟩)) 131 rfl rfl (by kernel_rfl) (by kernel_rfl) (by kernel_rfl) (fun _ _ _ h => h) (.inl ⟨by rfl, ?_⟩) HSq.out ?_
                                    · intro xw xf
                                      go_simp)
                                  clear HSq
                                  (
                                    try simp only [List.setIfInBounds_toArray, List.set_cons_succ, List.set_cons_zero]
                                    refine wpAnyH_all (rs := [11]) (by kernel_rfl) (by simp) ?_
                                    intro i hi
                                    simp only [List.mem_cons, List.not_mem_nil, or_false] at hi
                                    subst hi)
                                  refine wpOp_step rfl (fun K hK => ?_)
                                  obtain ⟨w13, hw13⟩ : ∃ w13, w12.setCell ⟨gs, 2, none⟩ (.slice A12 (sn + 1) c12) = w13 := ⟨_, rfl⟩
                                  have HF13 := Lib.hid (show Fr (fun j => j = gs) w12 w13 by subst hw13; exact Fr.setCell (S := fun j => j = gs) (p := ⟨gs, 2, none⟩) (Fr.refl _ w12) (fun _ => rfl) _)
                                  have HW13 := Lib.hid (show Whole w13 gs 34 #[.int .i64 b1, .int .i64 T, .slice A12 (sn + 1) c12] by subst hw13; exact HW12.out.set 2 _)
                                  go_simp
                                  refine hK _ _ ⟨HFs12.out.trans HF13.out (fun i hi e => (HSd.out i).2 (.inl e)), ?_⟩
                                  clear hK K
                                  refine wpAnyH_done (by kernel_rfl) ?_ _
                                  have HO13 := Lib.hid (own_fr HO12.out HF13.out (fun j hj e => by have := (World.ownsRow.lt HO12.out j hj).1; omega))
                                  have HFx13 := Lib.hid (show Fr (fun j => gs ≤ j ∧ j ≠ go) wr w13 from by
                                    refine ((HF10.out.mono (fun _ _ e => e.elim)).trans HFs12.out (fun i hi e => ?_)).trans HF13.out (fun i hi e => ⟨by omega, by have := HGgo.out; omega⟩)
                                    rcases (HSd.out i).1 e with e | e
                                    · exact ⟨by omega, by have := HGgo.out; omega⟩
                                    · exact ⟨by have := (World.ownsRow.lt HOx.out i e).1; omega, fun e2 => HNg.out (by rw [e, e2])⟩)
                                  have HOP13 := Lib.hid ((HO10.out.fr (HFd8.out.trans HFb.out (fun _ _ e => e))).frS HF12.out HF13.out HGn.out.1 HGn.out.2)
                                  have HO13p := Lib.hid (show w13.ownsRow (gs + 1) 66 4 (.slice A12 (sn + 1) c12) (sn + 1) (flatP ss ++ POp.cells ⟨newO p, TA, C2⟩) from by have := HO13.out; simpa only [POp.cells, newO, HPl.out] using this)
                                  (
                                    clear y0 y1 y2 y3
                                    obtain ⟨y0, y1, y2, y3⟩ := HOP13.out.cells
                                    simp only at y0 y1 y2 y3
                                    go_wp2_with (go_at_call 36; refine (HLd.out _).mono ?_; rintro e w14 ⟨rfl, b14⟩; have HF14 := Lib.hid (Fr.of_below (S := fun _ => False) b14); clear b14)
                                    go_roundw
                                    case rel =>
                                      refine ⟨j + 1, S + Z, _, (ss ++ [⟨newO p, TA, C2⟩]), by omega, by go_num, by go_num, HSk, Lib.hid (HW13.out.fr HF14.out (fun e => e)), Lib.hid ?_, Lib.hid ?_, Lib.hid ?_, HNg12, Lib.hid ((HFx.out.trans HFx13.out (fun _ _ e => e)).trans HF14.out (fun _ _ e => e.elim))⟩
                                      · rw [List.length_append, flatP_append, flatP_one, HSn.out]
                                        exact own_fr HO13p.out HF14.out (fun _ _ e => e)
                                      · rw [opsO_append, ← HIn.out, List.append_assoc]
                                        rfl
                                      · intro q hq
                                        rcases List.mem_append.1 hq with h6 | h6
                                        · exact HOkx.out q h6
                                        · rw [List.mem_singleton.1 h6]
                                          exact HQk.out
                                    case measure => simp [intOf]; omega))
                              · (
                                refine wpOp_step rfl (fun K hK => ?_)
                                obtain ⟨wb, hwb⟩ : ∃ wb, wd.alloc (.cells #[.bool false, .int .i64 0, .int .i64 0, .slice TA DD C2] 66) = wb := ⟨_, rfl⟩
                                have HFb := Lib.hid (show Fr (fun _ => False) wd wb by rw [← hwb]; exact (Fr.refl _ wd).alloc _)
                                have HSrb := Lib.hid (show Src Try.prog 4 32 (.slice (some ⟨wd.heap.size, 0, none⟩) 1 1) 1 [.bool false, .int .i64 0, .int .i64 0, .slice TA DD C2] wb from by
                                  rw [← hwb]
                                  exact src_opv wd false 0 0 TA DD C2)
                                have HFsb := Lib.hid (HFd.out.trans HFb.out (fun _ _ e => e.elim))
                                have HWb := Lib.hid (HWd.out.fr HFb.out (fun e => e))
                                have HRb' := Lib.hid (own_fr HRd.out HFb.out (fun _ _ e => e))
                                have kb := (HWb.out.three).2.2
                                have HSzb := Lib.hid (show gs + 1 ≤ wb.heap.size from by have := HFb.out.size; have := HFd8.out.size; have := HF10.out.size; have := HGw9.out; omega)
                                go_simp
                                refine hK _ _ ⟨HFsb.out, ?_⟩
                                clear hK K hwb)
                                (
                                  try simp only [List.setIfInBounds_toArray, List.set_cons_succ, List.set_cons_zero]
                                  refine wpAnyH_all (rs := [1]) (by kernel_rfl) (by simp) ?_
                                  intro i hi
                                  simp only [List.mem_cons, List.not_mem_nil, or_false] at hi
                                  subst hi)
                                (
                                  refine wpOp_step rfl (fun K hK => ?_)
                                  go_simp
                                  refine hK _ _ ⟨HFsb.out, ?_⟩
                                  clear hK K)
                                (
                                  (
                                    try simp only [List.setIfInBounds_toArray, List.set_cons_succ, List.set_cons_zero]
                                    refine wpAnyH_all (rs := [9]) (by kernel_rfl) (by simp) ?_
                                    intro i hi
                                    simp only [List.mem_cons, List.not_mem_nil, or_false] at hi
                                    subst hi)
                                  refine wpOp_step rfl (fun K hK => ?_)
                                  refine step_append_row _ (by rfl) (.tmp 122) (.tmp 129) 32 32 (by rfl) (gs + 1) 66 i0 (.agg zeroO) 4 48 Try.underlying32 gi gz0 gz1 gz2 (by rfl) (.slice Ax sn cx) sn (flatP ss) (by rfl) HRb'.out (.slice (some ⟨wd.heap.size, 0, none⟩) 1 1) 1 _ (by rfl) HSrb.out (by unfold maxLen; omega) (by omega) HSzb.out ?_
                                  intro v12 w12 o12 g12 at12
                                  have hf12 : Fr (fun j => Value.ownBlock (.slice Ax sn cx) = some j) wb w12 := (Fr.refl _ wb).grown g12 (fun j hj _ => hj)
                                  obtain ⟨A12, c12, hv12, -, -⟩ := own_slice o12
                                  subst hv12
                                  have HO12 := Lib.hid o12
                                  have HF12 := Lib.hid hf12
                                  have HNg12 := Lib.hid (show Value.ownBlock (.slice A12 (sn + 1) c12) ≠ some go from fun e => by
                                    rcases at12 with h | h
                                    · exact HNg.out (h.symm.trans e)
                                    · rw [e] at h
                                      injection h with h
                                      have := HGgo.out
                                      have := HSzg.out
                                      have := HFb.out.size
                                      have := HFd8.out.size
                                      omega)
                                  have HFs12 := Lib.hid (HFsb.out.trans hf12 (fun i hi e => (HSd.out i).2 (.inr e)))
                                  have HW12 := Lib.hid (HWb.out.fr hf12 (fun e => by have := (World.ownsRow.lt HRd.out _ e).1; omega))
                                  have k12 := (HW12.out.three).2.2
                                  have z12 := HW12.out.frozen 2
                                  clear o12 g12 at12 hf12
                                  go_simp
                                  refine hK _ _ ⟨HFs12.out, ?_⟩
                                  clear hK K
                                  have HSq := HFs12
                                  try simp only [List.setIfInBounds_toArray, List.set_cons_succ, List.set_cons_zero]
                                  (
                                    refine wpAnyH_takeM (i := 10) (v := .pointer (some ⟨gs, 2, none⟩)) 131 rfl rfl (by kernel_rfl) (by kernel_rfl) (by kernel_rfl) (fun _ _ _ h => h) (.inl ⟨by rfl, ?_⟩) HSq.out ?_
                                    · intro xw xf
                                      go_simp)
                                  clear HSq
                                  (
                                    try simp only [List.setIfInBounds_toArray, List.set_cons_succ, List.set_cons_zero]
                                    refine wpAnyH_all (rs := [11]) (by kernel_rfl) (by simp) ?_
                                    intro i hi
                                    simp only [List.mem_cons, List.not_mem_nil, or_false] at hi
                                    subst hi)
                                  refine wpOp_step rfl (fun K hK => ?_)
                                  obtain ⟨w13, hw13⟩ : ∃ w13, w12.setCell ⟨gs, 2, none⟩ (.slice A12 (sn + 1) c12) = w13 := ⟨_, rfl⟩
                                  have HF13 := Lib.hid (show Fr (fun j => j = gs) w12 w13 by subst hw13; exact Fr.setCell (S := fun j => j = gs) (p := ⟨gs, 2, none⟩) (Fr.refl _ w12) (fun _ => rfl) _)
                                  have HW13 := Lib.hid (show Whole w13 gs 34 #[.int .i64 b1, .int .i64 T, .slice A12 (sn + 1) c12] by subst hw13; exact HW12.out.set 2 _)
                                  go_simp
                                  refine hK _ _ ⟨HFs12.out.trans HF13.out (fun i hi e => (HSd.out i).2 (.inl e)), ?_⟩
                                  clear hK K
                                  refine wpAnyH_done (by kernel_rfl) ?_ _
                                  have HO13 := Lib.hid (own_fr HO12.out HF13.out (fun j hj e => by have := (World.ownsRow.lt HO12.out j hj).1; omega))
                                  have HFx13 := Lib.hid (show Fr (fun j => gs ≤ j ∧ j ≠ go) wr w13 from by
                                    refine ((HF10.out.mono (fun _ _ e => e.elim)).trans HFs12.out (fun i hi e => ?_)).trans HF13.out (fun i hi e => ⟨by omega, by have := HGgo.out; omega⟩)
                                    rcases (HSd.out i).1 e with e | e
                                    · exact ⟨by omega, by have := HGgo.out; omega⟩
                                    · exact ⟨by have := (World.ownsRow.lt HOx.out i e).1; omega, fun e2 => HNg.out (by rw [e, e2])⟩)
                                  have HOP13 := Lib.hid ((HO10.out.fr (HFd8.out.trans HFb.out (fun _ _ e => e))).frS HF12.out HF13.out HGn.out.1 HGn.out.2)
                                  have HO13p := Lib.hid (show w13.ownsRow (gs + 1) 66 4 (.slice A12 (sn + 1) c12) (sn + 1) (flatP ss ++ POp.cells ⟨newO p, TA, C2⟩) from by have := HO13.out; simpa only [POp.cells, newO, HPl.out] using this)
                                  (
                                    clear y0 y1 y2 y3
                                    obtain ⟨y0, y1, y2, y3⟩ := HOP13.out.cells
                                    simp only at y0 y1 y2 y3
                                    go_wp2_with (go_at_call 36; refine (HLd.out _).mono ?_; rintro e w14 ⟨rfl, b14⟩; have HF14 := Lib.hid (Fr.of_below (S := fun _ => False) b14); clear b14)
                                    go_roundw
                                    case rel =>
                                      refine ⟨j + 1, S + Z, _, (ss ++ [⟨newO p, TA, C2⟩]), by omega, by go_num, by go_num, HSk, Lib.hid (HW13.out.fr HF14.out (fun e => e)), Lib.hid ?_, Lib.hid ?_, Lib.hid ?_, HNg12, Lib.hid ((HFx.out.trans HFx13.out (fun _ _ e => e)).trans HF14.out (fun _ _ e => e.elim))⟩
                                      · rw [List.length_append, flatP_append, flatP_one, HSn.out]
                                        exact own_fr HO13p.out HF14.out (fun _ _ e => e)
                                      · rw [opsO_append, ← HIn.out, List.append_assoc]
                                        rfl
                                      · intro q hq
                                        rcases List.mem_append.1 hq with h6 | h6
                                        · exact HOkx.out q h6
                                        · rw [List.mem_singleton.1 h6]
                                          exact HQk.out
                                    case measure => simp [intOf]; omega))
                            · have hzn : Z = no2 := HZ2.out.symm
                              have hsub : subO ⟨true, fo2, no2, bs2⟩ ((F : Int) - S) Z = ⟨true, (fo2 + ((F : Int) - S)), (Z - ((F : Int) - S)), []⟩ := by
                                unfold subO
                                rw [if_pos rfl]
                                all_goals exact DOp.ext' rfl (by first | rfl | (simp only; omega)) (by first | rfl | (simp only; omega)) rfl
                              rw [hsub] at HIn
                              have HSr := Lib.hid (fun w => src_opv w true (fo2 + ((F : Int) - S)) (Z - ((F : Int) - S)) none 0 0)
                              have HQk := Lib.hid (show POp.Ok w ⟨⟨true, (fo2 + ((F : Int) - S)), (Z - ((F : Int) - S)), []⟩, none, 0⟩ from ⟨⟨by simp only; omega, by simp only; omega⟩, ⟨by simp only; omega, by simp only; omega⟩, Nat.le_refl _, Nat.zero_le _, .inl rfl⟩)
                              have hwf : IntKind.i64.wrap (fo2 + ((F : Int) - S)) = (fo2 + ((F : Int) - S)) := by rw [IntKind.wrap_i64]; omega
                              have hwg : IntKind.i64.wrap (Z - ((F : Int) - S)) = (Z - ((F : Int) - S)) := by rw [IntKind.wrap_i64]; omega
                              have HZn := Lib.hid hzn
                              clear hzn hsub
                              go_upto_region 24 with (at_builtin; refine wpList_append_row _ rfl (.tmp 101) (.tmp 110) 32 32 rfl (gs + 1) 66 i0 (.agg zeroO) 4 48 Try.underlying32 gi gz0 gz1 gz2 rfl _ sn _ rfl (HRy.out.alloc _) _ 1 _ rfl (HSr.out _) (by unfold maxLen; omega) (by omega) (by have := HGw9.out; have := HF10.out.size; simp; omega) ?_
                                                      intro v12 w12 o12 g12 at12
                                                      have hf12 : Fr (fun j => Value.ownBlock (.slice Ax sn cx) = some j) w10 w12 := ((Fr.refl _ w10).alloc _).grown g12 (fun j hj _ => hj)
                                                      obtain ⟨A12, c12, hv12, -, -⟩ := own_slice o12
                                                      subst hv12
                                                      have HO12 := Lib.hid o12
                                                      have HF12 := Lib.hid hf12
                                                      have HNg12 := Lib.hid (show Value.ownBlock (.slice A12 (sn + 1) c12) ≠ some go from fun e => by
                                                        rcases at12 with h | h
                                                        · exact HNg.out (h.symm.trans e)
                                                        · rw [e] at h
                                                          injection h with h
                                                          have := HSzg.out
                                                          first | (simp at h; done) | (simp at h; omega))
                                                      have HW12 := Lib.hid (HWy.out.fr hf12 (fun e => by have := (World.ownsRow.lt HRy.out _ e).1; omega))
                                                      have k12 := (HW12.out.three).2.2
                                                      have z12 := HW12.out.frozen 2
                                                      clear o12 g12 at12 hf12)
                              obtain ⟨w13, hw13⟩ : ∃ w13, w12.setCell ⟨gs, 2, none⟩ (.slice A12 (sn + 1) c12) = w13 := ⟨_, rfl⟩
                              rw [hw13]
                              have HF13 := Lib.hid (show Fr (fun j => j = gs) w12 w13 by subst hw13; exact Fr.setCell (S := fun j => j = gs) (p := ⟨gs, 2, none⟩) (Fr.refl _ w12) (fun _ => rfl) _)
                              have HW13 := Lib.hid (show Whole w13 gs 34 #[.int .i64 b1, .int .i64 T, .slice A12 (sn + 1) c12] by subst hw13; exact HW12.out.set 2 _)
                              have HO13 := Lib.hid (own_fr HO12.out HF13.out (fun j hj e => by have := (World.ownsRow.lt HO12.out j hj).1; omega))
                              have HFx13 := Lib.hid (show Fr (fun j => gs ≤ j ∧ j ≠ go) wr w13 from ((HF10.out.mono (fun _ _ e => e.elim)).trans HF12.out (fun i hi e => ⟨by have := (World.ownsRow.lt HOx.out i e).1; omega, fun e2 => HNg.out (by rw [e, e2])⟩)).trans HF13.out (fun i hi e => ⟨by omega, by have := HGgo.out; omega⟩))
                              have HOP13 := Lib.hid (HO10.out.frS HF12.out HF13.out HGn.out.1 HGn.out.2)
                              clear hw13 k12 z12 u0 u1 u2 z2
                              (
                                clear y0 y1 y2 y3
                                obtain ⟨y0, y1, y2, y3⟩ := HOP13.out.cells
                                simp only at y0 y1 y2 y3
                                go_wp2_with (go_at_call 36; refine (HLd.out _).mono ?_; rintro e w14 ⟨rfl, b14⟩; have HF14 := Lib.hid (Fr.of_below (S := fun _ => False) b14); clear b14)
                                go_roundw
                                case rel =>
                                  refine ⟨j + 1, S + Z, _, (ss ++ [⟨⟨true, (fo2 + ((F : Int) - S)), (Z - ((F : Int) - S)), []⟩, none, 0⟩]), by omega, by go_num, by go_num, HSk, Lib.hid (HW13.out.fr HF14.out (fun e => e)), Lib.hid ?_, Lib.hid ?_, Lib.hid ?_, HNg12, Lib.hid ((HFx.out.trans HFx13.out (fun _ _ e => e)).trans HF14.out (fun _ _ e => e.elim))⟩
                                  · rw [List.length_append, flatP_append, flatP_one, HSn.out]
                                    exact own_fr HO13.out HF14.out (fun _ _ e => e)
                                  · rw [opsO_append, ← HIn.out, List.append_assoc]
                                    rfl
                                  · intro q hq
                                    rcases List.mem_append.1 hq with h6 | h6
                                    · exact HOkx.out q h6
                                    · rw [List.mem_singleton.1 h6]
                                      exact HQk.out
                                case measure => simp [intOf]; omega)
                          · have HIn := Lib.hid (show opsO ss ++ cutR ((opsO ps).drop (j + 1)) ((F : Int) - sumO ((opsO ps).take (j + 1))) ((F : Int) + N - sumO ((opsO ps).take (j + 1))) = G from by have := HIz.out; rwa [if_neg hlh, List.nil_append] at this)
                            go_wp2_with (go_at_call 36; refine (HLd.out _).mono ?_; rintro e w11 ⟨rfl, b11⟩; have HF11 := Lib.hid (HF10.out.then_below b11); clear b11)
                            go_roundw
                            case rel => exact ⟨j + 1, S + Z, _, ss, by omega, by go_num, by go_num, HSk, Lib.hid (HWx.out.fr HF11.out (fun e => e)), Lib.hid (by rw [HSn.out]; exact own_fr HOx.out HF11.out (fun _ _ e => e)), HIn, HOkx, HNg, Lib.hid (HFx.out.trans HF11.out (fun _ _ e => e.elim))⟩
                            case measure => simp [intOf]; omega)
                    · by_cases hcE : (F : Int) + N < S + Z
                      · have hm : max 0 ((F : Int) - S) = 0 ∧ min Z ((F : Int) + N - S) = (F : Int) + N - S := by omega
                        (
                          obtain ⟨hm1, hm2⟩ := hm
                          have hI := HIy.out
                          rw [hm1, hm2] at hI
                          have HIz := Lib.hid hI
                          have hb := hcE
                          have ha := hcS
                          clear hm1 hm2 hI
                          go_upto_region 22 with fail
                          have HGgo := Lib.hid (show gs < go ∧ go < gp from by have := HSz.out; have := HGo.out; have := HGp.out; have := HFx.out.size; have := HF8.out.size; have := HO8.out.whole.lt; omega)
                          have HSzg := Lib.hid (show go < w10.heap.size from by have := HF10.out.size; have := HGp.out; have := HGgo.out; omega)
                          have HGn := Lib.hid (show ¬ Value.ownBlock (.slice Ax sn cx) = some gp ∧ ¬ gp = gs from ⟨fun e => by have := (World.ownsRow.lt HOx.out _ e).2; have := HGp.out; omega, by have := HGgo.out; omega⟩)
                          by_cases hlh : (0 : Int) < ((F : Int) + N - S)
                          · have HIn := Lib.hid (show opsO ss ++ ([subO o2 (0 : Int) ((F : Int) + N - S)] ++ cutR ((opsO ps).drop (j + 1)) ((F : Int) - sumO ((opsO ps).take (j + 1))) ((F : Int) + N - sumO ((opsO ps).take (j + 1)))) = G from by have := HIz.out; rwa [if_pos hlh] at this)
                            have hlo0 : (0 : Int) ≤ (0 : Int) := by omega
                            have hhiZ : ((F : Int) + N - S) ≤ Z := by omega
                            obtain ⟨cp2, fo2, no2, bs2⟩ := o2
                            simp only at n1 n2 n3 n4 n5 y0 y1 y2 y3
                            cases cp2
                            · obtain ⟨BL, hBL⟩ : ∃ BL, bs2.length = BL := ⟨_, rfl⟩
                              have hzn : Z = BL := by rw [← HZ2.out, ← hBL]; simp [DOp.size]
                              obtain ⟨l, hl⟩ : ∃ l : Nat, (0 : Int) = (l : Int) := Int.eq_ofNat_of_zero_le hlo0
                              obtain ⟨m, hm⟩ : ∃ m : Nat, ((F : Int) + N - S) = (m : Int) := Int.eq_ofNat_of_zero_le (by omega)
                              have hml : m ≤ BL := by omega
                              have hsub : subO ⟨false, fo2, no2, bs2⟩ (0 : Int) ((F : Int) + N - S) = newO ((bs2.drop l).take (m - l)) := by
                                unfold subO
                                rw [if_neg (by simp), hl, hm]
                                simp only [Int.toNat_natCast]
                                congr 2
                                omega
                              have hkc := HOk2.out.le
                              have hkm := HOk2.out.cap
                              simp only at hkc hkm
                              have hsl' : ∀ w, (Instr.slice 26 (.slice B2 BL pc2) (some (.int .i64 (0 : Int))) (some (.int .i64 ((F : Int) + N - S))) none).run Try.prog w = .ok (.slice (tlB B2 pc2 l) (m - l) (pc2 - l)) w := fun w => by
                                rw [hl, hm]
                                exact slice_lhB B2 BL pc2 l m (by omega) (by omega) w
                              have hlen : ((bs2.drop l).take (m - l)).length = m - l := by rw [List.length_take, List.length_drop]; omega
                              have hlies := HOk2.out.lies.cutB pc2 l (m - l) hkc
                              obtain ⟨p, hp'⟩ : ∃ p, (bs2.drop l).take (m - l) = p := ⟨_, rfl⟩
                              rw [hp'] at hlen hsub hlies
                              obtain ⟨TA, hTA⟩ : ∃ TA, tlB B2 pc2 l = TA := ⟨_, rfl⟩
                              obtain ⟨C2, hC2⟩ : ∃ C2, pc2 - l = C2 := ⟨_, rfl⟩
                              obtain ⟨DD, hDD⟩ : ∃ DD, m - l = DD := ⟨_, rfl⟩
                              rw [hTA, hC2, hDD] at hsl'
                              rw [hTA] at hlies
                              rw [hDD] at hlen
                              rw [hsub] at HIn
                              have HQk := Lib.hid (show POp.Ok w ⟨newO p, TA, C2⟩ from ⟨⟨by simp [newO], by simp [newO]⟩, ⟨by simp [newO], by simp [newO]⟩, by simp only [newO]; omega, by simp only; omega, hlies⟩)
                              have HPl := Lib.hid hlen
                              rw [hBL] at y3
                              have HBl2 := Lib.hid (And.intro hBL hzn)
                              clear hzn hsub hl hm hml hkc hkm hlen hlies hp' hTA hC2 hDD hBL
                              go_upto_region 25 with fail
                              obtain ⟨SS, hSS⟩ : ∃ SS : Nat → Prop, SS = fun j => j = gs ∨ Value.ownBlock (.slice Ax sn cx) = some j := ⟨_, rfl⟩
                              have HSd : Hid (∀ j, SS j ↔ (j = gs ∨ Value.ownBlock (.slice Ax sn cx) = some j)) := Lib.hid (fun j => by rw [hSS])
                              have HSnp : Hid (¬ SS gp) := Lib.hid (fun e => by
                                rcases (HSd.out _).1 e with e | e
                                · exact HGn.out.2 e
                                · exact HGn.out.1 e)
                              have Hq3 := Lib.hid (show ∀ w', Fr SS w10 w' → w'.cell? ⟨gp, 3, none⟩ = some (.slice B2 BL pc2) from fun w' x => x.cell y3 HSnp.out)
                              clear hSS u0 u1 u2 z2 v0 v1 v2 v3
                              refine wp_region_held (S := fun w' => Fr SS w10 w') (by kernel_rfl) ?_
                              have HSq := Lib.hid (show Fr SS w10 w10.drew from (Fr.refl _ w10).drew)
                              (
                                refine wpAnyH_takeM (i := 0) (v := .pointer (some ⟨gs, 2, none⟩)) 121 rfl rfl (by kernel_rfl) (by kernel_rfl) (by kernel_rfl) (fun _ _ _ h => h) (.inl ⟨by rfl, ?_⟩) HSq.out ?_
                                · intro xw xf
                                  go_simp)
                              (
                                refine wpAnyH_takeM (i := 2) (v := .pointer (some ⟨gp, 3, none⟩)) 123 rfl rfl (by kernel_rfl) (by kernel_rfl) (by kernel_rfl) (fun _ _ _ h => h) (.inl ⟨by rfl, ?_⟩) HSq.out ?_
                                · intro xw xf
                                  go_simp)
                              (
                                refine wpAnyH_takeM (i := 4) (v := .int .i64 (0 : Int)) 125 rfl rfl (by kernel_rfl) (by kernel_rfl) (by kernel_rfl) (fun _ _ _ h => h) (.inl ⟨by rfl, ?_⟩) HSq.out ?_
                                · intro xw xf
                                  go_simp)
                              (
                                refine wpAnyH_takeM (i := 5) (v := .int .i64 ((F : Int) + N - S)) 126 rfl rfl (by kernel_rfl) (by kernel_rfl) (by kernel_rfl) (fun _ _ _ h => h) (.inl ⟨by rfl, ?_⟩) HSq.out ?_
                                · intro xw xf
                                  go_simp)
                              (
                                refine wpAnyH_takeM (i := 3) (v := .slice B2 BL pc2) 124 rfl rfl (by kernel_rfl) (by kernel_rfl) (by kernel_rfl) (fun _ _ _ h => h) (.inl ⟨by rfl, ?_⟩) HSq.out ?_
                                · intro xw xf
                                  have xc := Hq3.out xw xf
                                  go_simp)
                              (
                                refine wpAnyH_takeM (i := 6) (v := .slice TA DD C2) 127 rfl rfl (by kernel_rfl) (by kernel_rfl) (by kernel_rfl) (fun _ _ _ h => h) (.inl ⟨by rfl, ?_⟩) HSq.out ?_
                                · intro xw xf
                                  go_simp)
                              (
                                refine wpAnyH_takeM (i := 7) (v := .agg #[.bool false, .int .i64 0, .int .i64 0, .slice TA DD C2]) 128 rfl rfl (by kernel_rfl) (by kernel_rfl) (by kernel_rfl) (fun _ _ _ h => h) (.inl ⟨by rfl, ?_⟩) HSq.out ?_
                                · intro xw xf
                                  go_simp)
                              try simp only [List.setIfInBounds_toArray, List.set_cons_succ, List.set_cons_zero]
                              change wpAnyH _ _ _ _ _ _ _ _ (World.drew w10)
                              have HFd8 := Lib.hid (show Fr (fun _ => False) w10 w10.drew from (Fr.refl _ w10).drew)
                              obtain ⟨wd, hwd⟩ : ∃ wd, w10.drew = wd := ⟨_, rfl⟩
                              rw [hwd]
                              rw [hwd] at HFd8
                              have HFd := Lib.hid (show Fr SS w10 wd from HFd8.out.mono (fun _ _ e => e.elim))
                              have HWd := Lib.hid (HWy.out.fr HFd8.out (fun e => e))
                              have HRd := Lib.hid (own_fr HRy.out HFd8.out (fun _ _ e => e))
                              have kd := (HWd.out.three).2.2
                              clear hwd HSq Hq3 hsl'
                              refine wpAnyH_all (rs := [1, 8]) (by kernel_rfl) (by simp) ?_
                              intro i hi
                              simp only [List.mem_cons, List.not_mem_nil, or_false] at hi
                              rcases hi with rfl | rfl
                              · (
                                refine wpOp_step rfl (fun K hK => ?_)
                                go_simp
                                refine hK _ _ ⟨HFd.out, ?_⟩
                                clear hK K)
                                (
                                  try simp only [List.setIfInBounds_toArray, List.set_cons_succ, List.set_cons_zero]
                                  refine wpAnyH_all (rs := [8]) (by kernel_rfl) (by simp) ?_
                                  intro i hi
                                  simp only [List.mem_cons, List.not_mem_nil, or_false] at hi
                                  subst hi)
                                (
                                  refine wpOp_step rfl (fun K hK => ?_)
                                  obtain ⟨wb, hwb⟩ : ∃ wb, wd.alloc (.cells #[.bool false, .int .i64 0, .int .i64 0, .slice TA DD C2] 66) = wb := ⟨_, rfl⟩
                                  have HFb := Lib.hid (show Fr (fun _ => False) wd wb by rw [← hwb]; exact (Fr.refl _ wd).alloc _)
                                  have HSrb := Lib.hid (show Src Try.prog 4 32 (.slice (some ⟨wd.heap.size, 0, none⟩) 1 1) 1 [.bool false, .int .i64 0, .int .i64 0, .slice TA DD C2] wb from by
                                    rw [← hwb]
                                    exact src_opv wd false 0 0 TA DD C2)
                                  have HFsb := Lib.hid (HFd.out.trans HFb.out (fun _ _ e => e.elim))
                                  have HWb := Lib.hid (HWd.out.fr HFb.out (fun e => e))
                                  have HRb' := Lib.hid (own_fr HRd.out HFb.out (fun _ _ e => e))
                                  have kb := (HWb.out.three).2.2
                                  have HSzb := Lib.hid (show gs + 1 ≤ wb.heap.size from by have := HFb.out.size; have := HFd8.out.size; have := HF10.out.size; have := HGw9.out; omega)
                                  go_simp
                                  refine hK _ _ ⟨HFsb.out, ?_⟩
                                  clear hK K hwb)
                                (
                                  (
                                    try simp only [List.setIfInBounds_toArray, List.set_cons_succ, List.set_cons_zero]
                                    refine wpAnyH_all (rs := [9]) (by kernel_rfl) (by simp) ?_
                                    intro i hi
                                    simp only [List.mem_cons, List.not_mem_nil, or_false] at hi
                                    subst hi)
                                  refine wpOp_step rfl (fun K hK => ?_)
                                  refine step_append_row _ (by rfl) (.tmp 122) (.tmp 129) 32 32 (by rfl) (gs + 1) 66 i0 (.agg zeroO) 4 48 Try.underlying32 gi gz0 gz1 gz2 (by rfl) (.slice Ax sn cx) sn (flatP ss) (by rfl) HRb'.out (.slice (some ⟨wd.heap.size, 0, none⟩) 1 1) 1 _ (by rfl) HSrb.out (by unfold maxLen; omega) (by omega) HSzb.out ?_
                                  intro v12 w12 o12 g12 at12
                                  have hf12 : Fr (fun j => Value.ownBlock (.slice Ax sn cx) = some j) wb w12 := (Fr.refl _ wb).grown g12 (fun j hj _ => hj)
                                  obtain ⟨A12, c12, hv12, -, -⟩ := own_slice o12
                                  subst hv12
                                  have HO12 := Lib.hid o12
                                  have HF12 := Lib.hid hf12
                                  have HNg12 := Lib.hid (show Value.ownBlock (.slice A12 (sn + 1) c12) ≠ some go from fun e => by
                                    rcases at12 with h | h
                                    · exact HNg.out (h.symm.trans e)
                                    · rw [e] at h
                                      injection h with h
                                      have := HGgo.out
                                      have := HSzg.out
                                      have := HFb.out.size
                                      have := HFd8.out.size
                                      omega)
                                  have HFs12 := Lib.hid (HFsb.out.trans hf12 (fun i hi e => (HSd.out i).2 (.inr e)))
                                  have HW12 := Lib.hid (HWb.out.fr hf12 (fun e => by have := (World.ownsRow.lt HRd.out _ e).1; omega))
                                  have k12 := (HW12.out.three).2.2
                                  have z12 := HW12.out.frozen 2
                                  clear o12 g12 at12 hf12
                                  go_simp
                                  refine hK _ _ ⟨HFs12.out, ?_⟩
                                  clear hK K
                                  have HSq := HFs12
                                  try simp only [List.setIfInBounds_toArray, List.set_cons_succ, List.set_cons_zero]
                                  (
                                    refine wpAnyH_takeM (i := 10) (v := .pointer (some ⟨gs, 2, none⟩)) 131 rfl rfl (by kernel_rfl) (by kernel_rfl) (by kernel_rfl) (fun _ _ _ h => h) (.inl ⟨by rfl, ?_⟩) HSq.out ?_
                                    · intro xw xf
                                      go_simp)
                                  clear HSq
                                  (
                                    try simp only [List.setIfInBounds_toArray, List.set_cons_succ, List.set_cons_zero]
                                    refine wpAnyH_all (rs := [11]) (by kernel_rfl) (by simp) ?_
                                    intro i hi
                                    simp only [List.mem_cons, List.not_mem_nil, or_false] at hi
                                    subst hi)
                                  refine wpOp_step rfl (fun K hK => ?_)
                                  obtain ⟨w13, hw13⟩ : ∃ w13, w12.setCell ⟨gs, 2, none⟩ (.slice A12 (sn + 1) c12) = w13 := ⟨_, rfl⟩
                                  have HF13 := Lib.hid (show Fr (fun j => j = gs) w12 w13 by subst hw13; exact Fr.setCell (S := fun j => j = gs) (p := ⟨gs, 2, none⟩) (Fr.refl _ w12) (fun _ => rfl) _)
                                  have HW13 := Lib.hid (show Whole w13 gs 34 #[.int .i64 b1, .int .i64 T, .slice A12 (sn + 1) c12] by subst hw13; exact HW12.out.set 2 _)
                                  go_simp
                                  refine hK _ _ ⟨HFs12.out.trans HF13.out (fun i hi e => (HSd.out i).2 (.inl e)), ?_⟩
                                  clear hK K
                                  refine wpAnyH_done (by kernel_rfl) ?_ _
                                  have HO13 := Lib.hid (own_fr HO12.out HF13.out (fun j hj e => by have := (World.ownsRow.lt HO12.out j hj).1; omega))
                                  have HFx13 := Lib.hid (show Fr (fun j => gs ≤ j ∧ j ≠ go) wr w13 from by
                                    refine ((HF10.out.mono (fun _ _ e => e.elim)).trans HFs12.out (fun i hi e => ?_)).trans HF13.out (fun i hi e => ⟨by omega, by have := HGgo.out; omega⟩)
                                    rcases (HSd.out i).1 e with e | e
                                    · exact ⟨by omega, by have := HGgo.out; omega⟩
                                    · exact ⟨by have := (World.ownsRow.lt HOx.out i e).1; omega, fun e2 => HNg.out (by rw [e, e2])⟩)
                                  have HOP13 := Lib.hid ((HO10.out.fr (HFd8.out.trans HFb.out (fun _ _ e => e))).frS HF12.out HF13.out HGn.out.1 HGn.out.2)
                                  have HO13p := Lib.hid (show w13.ownsRow (gs + 1) 66 4 (.slice A12 (sn + 1) c12) (sn + 1) (flatP ss ++ POp.cells ⟨newO p, TA, C2⟩) from by have := HO13.out; simpa only [POp.cells, newO, HPl.out] using this)
                                  (
                                    clear y0 y1 y2 y3
                                    obtain ⟨y0, y1, y2, y3⟩ := HOP13.out.cells
                                    simp only at y0 y1 y2 y3
                                    go_wp2_with (go_at_call 36; refine (HLd.out _).mono ?_; rintro e w14 ⟨rfl, b14⟩; have HF14 := Lib.hid (Fr.of_below (S := fun _ => False) b14); clear b14)
                                    go_roundw
                                    case rel =>
                                      refine ⟨j + 1, S + Z, _, (ss ++ [⟨newO p, TA, C2⟩]), by omega, by go_num, by go_num, HSk, Lib.hid (HW13.out.fr HF14.out (fun e => e)), Lib.hid ?_, Lib.hid ?_, Lib.hid ?_, HNg12, Lib.hid ((HFx.out.trans HFx13.out (fun _ _ e => e)).trans HF14.out (fun _ _ e => e.elim))⟩
                                      · rw [List.length_append, flatP_append, flatP_one, HSn.out]
                                        exact own_fr HO13p.out HF14.out (fun _ _ e => e)
                                      · rw [opsO_append, ← HIn.out, List.append_assoc]
                                        rfl
                                      · intro q hq
                                        rcases List.mem_append.1 hq with h6 | h6
                                        · exact HOkx.out q h6
                                        · rw [List.mem_singleton.1 h6]
                                          exact HQk.out
                                    case measure => simp [intOf]; omega))
                              · (
                                refine wpOp_step rfl (fun K hK => ?_)
                                obtain ⟨wb, hwb⟩ : ∃ wb, wd.alloc (.cells #[.bool false, .int .i64 0, .int .i64 0, .slice TA DD C2] 66) = wb := ⟨_, rfl⟩
                                have HFb := Lib.hid (show Fr (fun _ => False) wd wb by rw [← hwb]; exact (Fr.refl _ wd).alloc _)
                                have HSrb := Lib.hid (show Src Try.prog 4 32 (.slice (some ⟨wd.heap.size, 0, none⟩) 1 1) 1 [.bool false, .int .i64 0, .int .i64 0, .slice TA DD C2] wb from by
                                  rw [← hwb]
                                  exact src_opv wd false 0 0 TA DD C2)
                                have HFsb := Lib.hid (HFd.out.trans HFb.out (fun _ _ e => e.elim))
                                have HWb := Lib.hid (HWd.out.fr HFb.out (fun e => e))
                                have HRb' := Lib.hid (own_fr HRd.out HFb.out (fun _ _ e => e))
                                have kb := (HWb.out.three).2.2
                                have HSzb := Lib.hid (show gs + 1 ≤ wb.heap.size from by have := HFb.out.size; have := HFd8.out.size; have := HF10.out.size; have := HGw9.out; omega)
                                go_simp
                                refine hK _ _ ⟨HFsb.out, ?_⟩
                                clear hK K hwb)
                                (
                                  try simp only [List.setIfInBounds_toArray, List.set_cons_succ, List.set_cons_zero]
                                  refine wpAnyH_all (rs := [1]) (by kernel_rfl) (by simp) ?_
                                  intro i hi
                                  simp only [List.mem_cons, List.not_mem_nil, or_false] at hi
                                  subst hi)
                                (
                                  refine wpOp_step rfl (fun K hK => ?_)
                                  go_simp
                                  refine hK _ _ ⟨HFsb.out, ?_⟩
                                  clear hK K)
                                (
                                  (
                                    try simp only [List.setIfInBounds_toArray, List.set_cons_succ, List.set_cons_zero]
                                    refine wpAnyH_all (rs := [9]) (by kernel_rfl) (by simp) ?_
                                    intro i hi
                                    simp only [List.mem_cons, List.not_mem_nil, or_false] at hi
                                    subst hi)
                                  refine wpOp_step rfl (fun K hK => ?_)
                                  refine step_append_row _ (by rfl) (.tmp 122) (.tmp 129) 32 32 (by rfl) (gs + 1) 66 i0 (.agg zeroO) 4 48 Try.underlying32 gi gz0 gz1 gz2 (by rfl) (.slice Ax sn cx) sn (flatP ss) (by rfl) HRb'.out (.slice (some ⟨wd.heap.size, 0, none⟩) 1 1) 1 _ (by rfl) HSrb.out (by unfold maxLen; omega) (by omega) HSzb.out ?_
                                  intro v12 w12 o12 g12 at12
                                  have hf12 : Fr (fun j => Value.ownBlock (.slice Ax sn cx) = some j) wb w12 := (Fr.refl _ wb).grown g12 (fun j hj _ => hj)
                                  obtain ⟨A12, c12, hv12, -, -⟩ := own_slice o12
                                  subst hv12
                                  have HO12 := Lib.hid o12
                                  have HF12 := Lib.hid hf12
                                  have HNg12 := Lib.hid (show Value.ownBlock (.slice A12 (sn + 1) c12) ≠ some go from fun e => by
                                    rcases at12 with h | h
                                    · exact HNg.out (h.symm.trans e)
                                    · rw [e] at h
                                      injection h with h
                                      have := HGgo.out
                                      have := HSzg.out
                                      have := HFb.out.size
                                      have := HFd8.out.size
                                      omega)
                                  have HFs12 := Lib.hid (HFsb.out.trans hf12 (fun i hi e => (HSd.out i).2 (.inr e)))
                                  have HW12 := Lib.hid (HWb.out.fr hf12 (fun e => by have := (World.ownsRow.lt HRd.out _ e).1; omega))
                                  have k12 := (HW12.out.three).2.2
                                  have z12 := HW12.out.frozen 2
                                  clear o12 g12 at12 hf12
                                  go_simp
                                  refine hK _ _ ⟨HFs12.out, ?_⟩
                                  clear hK K
                                  have HSq := HFs12
                                  try simp only [List.setIfInBounds_toArray, List.set_cons_succ, List.set_cons_zero]
                                  (
                                    refine wpAnyH_takeM (i := 10) (v := .pointer (some ⟨gs, 2, none⟩)) 131 rfl rfl (by kernel_rfl) (by kernel_rfl) (by kernel_rfl) (fun _ _ _ h => h) (.inl ⟨by rfl, ?_⟩) HSq.out ?_
                                    · intro xw xf
                                      go_simp)
                                  clear HSq
                                  (
                                    try simp only [List.setIfInBounds_toArray, List.set_cons_succ, List.set_cons_zero]
                                    refine wpAnyH_all (rs := [11]) (by kernel_rfl) (by simp) ?_
                                    intro i hi
                                    simp only [List.mem_cons, List.not_mem_nil, or_false] at hi
                                    subst hi)
                                  refine wpOp_step rfl (fun K hK => ?_)
                                  obtain ⟨w13, hw13⟩ : ∃ w13, w12.setCell ⟨gs, 2, none⟩ (.slice A12 (sn + 1) c12) = w13 := ⟨_, rfl⟩
                                  have HF13 := Lib.hid (show Fr (fun j => j = gs) w12 w13 by subst hw13; exact Fr.setCell (S := fun j => j = gs) (p := ⟨gs, 2, none⟩) (Fr.refl _ w12) (fun _ => rfl) _)
                                  have HW13 := Lib.hid (show Whole w13 gs 34 #[.int .i64 b1, .int .i64 T, .slice A12 (sn + 1) c12] by subst hw13; exact HW12.out.set 2 _)
                                  go_simp
                                  refine hK _ _ ⟨HFs12.out.trans HF13.out (fun i hi e => (HSd.out i).2 (.inl e)), ?_⟩
                                  clear hK K
                                  refine wpAnyH_done (by kernel_rfl) ?_ _
                                  have HO13 := Lib.hid (own_fr HO12.out HF13.out (fun j hj e => by have := (World.ownsRow.lt HO12.out j hj).1; omega))
                                  have HFx13 := Lib.hid (show Fr (fun j => gs ≤ j ∧ j ≠ go) wr w13 from by
                                    refine ((HF10.out.mono (fun _ _ e => e.elim)).trans HFs12.out (fun i hi e => ?_)).trans HF13.out (fun i hi e => ⟨by omega, by have := HGgo.out; omega⟩)
                                    rcases (HSd.out i).1 e with e | e
                                    · exact ⟨by omega, by have := HGgo.out; omega⟩
                                    · exact ⟨by have := (World.ownsRow.lt HOx.out i e).1; omega, fun e2 => HNg.out (by rw [e, e2])⟩)
                                  have HOP13 := Lib.hid ((HO10.out.fr (HFd8.out.trans HFb.out (fun _ _ e => e))).frS HF12.out HF13.out HGn.out.1 HGn.out.2)
                                  have HO13p := Lib.hid (show w13.ownsRow (gs + 1) 66 4 (.slice A12 (sn + 1) c12) (sn + 1) (flatP ss ++ POp.cells ⟨newO p, TA, C2⟩) from by have := HO13.out; simpa only [POp.cells, newO, HPl.out] using this)
                                  (
                                    clear y0 y1 y2 y3
                                    obtain ⟨y0, y1, y2, y3⟩ := HOP13.out.cells
                                    simp only at y0 y1 y2 y3
                                    go_wp2_with (go_at_call 36; refine (HLd.out _).mono ?_; rintro e w14 ⟨rfl, b14⟩; have HF14 := Lib.hid (Fr.of_below (S := fun _ => False) b14); clear b14)
                                    go_roundw
                                    case rel =>
                                      refine ⟨j + 1, S + Z, _, (ss ++ [⟨newO p, TA, C2⟩]), by omega, by go_num, by go_num, HSk, Lib.hid (HW13.out.fr HF14.out (fun e => e)), Lib.hid ?_, Lib.hid ?_, Lib.hid ?_, HNg12, Lib.hid ((HFx.out.trans HFx13.out (fun _ _ e => e)).trans HF14.out (fun _ _ e => e.elim))⟩
                                      · rw [List.length_append, flatP_append, flatP_one, HSn.out]
                                        exact own_fr HO13p.out HF14.out (fun _ _ e => e)
                                      · rw [opsO_append, ← HIn.out, List.append_assoc]
                                        rfl
                                      · intro q hq
                                        rcases List.mem_append.1 hq with h6 | h6
                                        · exact HOkx.out q h6
                                        · rw [List.mem_singleton.1 h6]
                                          exact HQk.out
                                    case measure => simp [intOf]; omega))
                            · have hzn : Z = no2 := HZ2.out.symm
                              have hsub : subO ⟨true, fo2, no2, bs2⟩ (0 : Int) ((F : Int) + N - S) = ⟨true, fo2, ((F : Int) + N - S), []⟩ := by
                                unfold subO
                                rw [if_pos rfl]
                                all_goals exact DOp.ext' rfl (by first | rfl | (simp only; omega)) (by first | rfl | (simp only; omega)) rfl
                              rw [hsub] at HIn
                              have HSr := Lib.hid (fun w => src_opv w true fo2 ((F : Int) + N - S) none 0 0)
                              have HQk := Lib.hid (show POp.Ok w ⟨⟨true, fo2, ((F : Int) + N - S), []⟩, none, 0⟩ from ⟨⟨by simp only; omega, by simp only; omega⟩, ⟨by simp only; omega, by simp only; omega⟩, Nat.le_refl _, Nat.zero_le _, .inl rfl⟩)
                              have hwf : IntKind.i64.wrap fo2 = fo2 := by rw [IntKind.wrap_i64]; omega
                              have hwg : IntKind.i64.wrap ((F : Int) + N - S) = ((F : Int) + N - S) := by rw [IntKind.wrap_i64]; omega
                              have HZn := Lib.hid hzn
                              clear hzn hsub
                              go_upto_region 24 with (at_builtin; refine wpList_append_row _ rfl (.tmp 101) (.tmp 110) 32 32 rfl (gs + 1) 66 i0 (.agg zeroO) 4 48 Try.underlying32 gi gz0 gz1 gz2 rfl _ sn _ rfl (HRy.out.alloc _) _ 1 _ rfl (HSr.out _) (by unfold maxLen; omega) (by omega) (by have := HGw9.out; have := HF10.out.size; simp; omega) ?_
                                                      intro v12 w12 o12 g12 at12
                                                      have hf12 : Fr (fun j => Value.ownBlock (.slice Ax sn cx) = some j) w10 w12 := ((Fr.refl _ w10).alloc _).grown g12 (fun j hj _ => hj)
                                                      obtain ⟨A12, c12, hv12, -, -⟩ := own_slice o12
                                                      subst hv12
                                                      have HO12 := Lib.hid o12
                                                      have HF12 := Lib.hid hf12
                                                      have HNg12 := Lib.hid (show Value.ownBlock (.slice A12 (sn + 1) c12) ≠ some go from fun e => by
                                                        rcases at12 with h | h
                                                        · exact HNg.out (h.symm.trans e)
                                                        · rw [e] at h
                                                          injection h with h
                                                          have := HSzg.out
                                                          first | (simp at h; done) | (simp at h; omega))
                                                      have HW12 := Lib.hid (HWy.out.fr hf12 (fun e => by have := (World.ownsRow.lt HRy.out _ e).1; omega))
                                                      have k12 := (HW12.out.three).2.2
                                                      have z12 := HW12.out.frozen 2
                                                      clear o12 g12 at12 hf12)
                              obtain ⟨w13, hw13⟩ : ∃ w13, w12.setCell ⟨gs, 2, none⟩ (.slice A12 (sn + 1) c12) = w13 := ⟨_, rfl⟩
                              rw [hw13]
                              have HF13 := Lib.hid (show Fr (fun j => j = gs) w12 w13 by subst hw13; exact Fr.setCell (S := fun j => j = gs) (p := ⟨gs, 2, none⟩) (Fr.refl _ w12) (fun _ => rfl) _)
                              have HW13 := Lib.hid (show Whole w13 gs 34 #[.int .i64 b1, .int .i64 T, .slice A12 (sn + 1) c12] by subst hw13; exact HW12.out.set 2 _)
                              have HO13 := Lib.hid (own_fr HO12.out HF13.out (fun j hj e => by have := (World.ownsRow.lt HO12.out j hj).1; omega))
                              have HFx13 := Lib.hid (show Fr (fun j => gs ≤ j ∧ j ≠ go) wr w13 from ((HF10.out.mono (fun _ _ e => e.elim)).trans HF12.out (fun i hi e => ⟨by have := (World.ownsRow.lt HOx.out i e).1; omega, fun e2 => HNg.out (by rw [e, e2])⟩)).trans HF13.out (fun i hi e => ⟨by omega, by have := HGgo.out; omega⟩))
                              have HOP13 := Lib.hid (HO10.out.frS HF12.out HF13.out HGn.out.1 HGn.out.2)
                              clear hw13 k12 z12 u0 u1 u2 z2
                              (
                                clear y0 y1 y2 y3
                                obtain ⟨y0, y1, y2, y3⟩ := HOP13.out.cells
                                simp only at y0 y1 y2 y3
                                go_wp2_with (go_at_call 36; refine (HLd.out _).mono ?_; rintro e w14 ⟨rfl, b14⟩; have HF14 := Lib.hid (Fr.of_below (S := fun _ => False) b14); clear b14)
                                go_roundw
                                case rel =>
                                  refine ⟨j + 1, S + Z, _, (ss ++ [⟨⟨true, fo2, ((F : Int) + N - S), []⟩, none, 0⟩]), by omega, by go_num, by go_num, HSk, Lib.hid (HW13.out.fr HF14.out (fun e => e)), Lib.hid ?_, Lib.hid ?_, Lib.hid ?_, HNg12, Lib.hid ((HFx.out.trans HFx13.out (fun _ _ e => e)).trans HF14.out (fun _ _ e => e.elim))⟩
                                  · rw [List.length_append, flatP_append, flatP_one, HSn.out]
                                    exact own_fr HO13.out HF14.out (fun _ _ e => e)
                                  · rw [opsO_append, ← HIn.out, List.append_assoc]
                                    rfl
                                  · intro q hq
                                    rcases List.mem_append.1 hq with h6 | h6
                                    · exact HOkx.out q h6
                                    · rw [List.mem_singleton.1 h6]
                                      exact HQk.out
                                case measure => simp [intOf]; omega)
                          · have HIn := Lib.hid (show opsO ss ++ cutR ((opsO ps).drop (j + 1)) ((F : Int) - sumO ((opsO ps).take (j + 1))) ((F : Int) + N - sumO ((opsO ps).take (j + 1))) = G from by have := HIz.out; rwa [if_neg hlh, List.nil_append] at this)
                            go_wp2_with (go_at_call 36; refine (HLd.out _).mono ?_; rintro e w11 ⟨rfl, b11⟩; have HF11 := Lib.hid (HF10.out.then_below b11); clear b11)
                            go_roundw
                            case rel => exact ⟨j + 1, S + Z, _, ss, by omega, by go_num, by go_num, HSk, Lib.hid (HWx.out.fr HF11.out (fun e => e)), Lib.hid (by rw [HSn.out]; exact own_fr HOx.out HF11.out (fun _ _ e => e)), HIn, HOkx, HNg, Lib.hid (HFx.out.trans HF11.out (fun _ _ e => e.elim))⟩
                            case measure => simp [intOf]; omega)
                      · have hm : max 0 ((F : Int) - S) = 0 ∧ min Z ((F : Int) + N - S) = Z := by omega
                        (
                          obtain ⟨hm1, hm2⟩ := hm
                          have hI := HIy.out
                          rw [hm1, hm2] at hI
                          have HIz := Lib.hid hI
                          have hb := hcE
                          have ha := hcS
                          clear hm1 hm2 hI
                          go_upto_region 22 with fail
                          have HGgo := Lib.hid (show gs < go ∧ go < gp from by have := HSz.out; have := HGo.out; have := HGp.out; have := HFx.out.size; have := HF8.out.size; have := HO8.out.whole.lt; omega)
                          have HSzg := Lib.hid (show go < w10.heap.size from by have := HF10.out.size; have := HGp.out; have := HGgo.out; omega)
                          have HGn := Lib.hid (show ¬ Value.ownBlock (.slice Ax sn cx) = some gp ∧ ¬ gp = gs from ⟨fun e => by have := (World.ownsRow.lt HOx.out _ e).2; have := HGp.out; omega, by have := HGgo.out; omega⟩)
                          by_cases hlh : (0 : Int) < Z
                          · have HIn := Lib.hid (show opsO ss ++ ([subO o2 (0 : Int) Z] ++ cutR ((opsO ps).drop (j + 1)) ((F : Int) - sumO ((opsO ps).take (j + 1))) ((F : Int) + N - sumO ((opsO ps).take (j + 1)))) = G from by have := HIz.out; rwa [if_pos hlh] at this)
                            have hlo0 : (0 : Int) ≤ (0 : Int) := by omega
                            have hhiZ : Z ≤ Z := by omega
                            obtain ⟨cp2, fo2, no2, bs2⟩ := o2
                            simp only at n1 n2 n3 n4 n5 y0 y1 y2 y3
                            cases cp2
                            · obtain ⟨BL, hBL⟩ : ∃ BL, bs2.length = BL := ⟨_, rfl⟩
                              have hzn : Z = BL := by rw [← HZ2.out, ← hBL]; simp [DOp.size]
                              obtain ⟨l, hl⟩ : ∃ l : Nat, (0 : Int) = (l : Int) := Int.eq_ofNat_of_zero_le hlo0
                              obtain ⟨m, hm⟩ : ∃ m : Nat, Z = (m : Int) := Int.eq_ofNat_of_zero_le (by omega)
                              have hml : m ≤ BL := by omega
                              have hsub : subO ⟨false, fo2, no2, bs2⟩ (0 : Int) Z = newO ((bs2.drop l).take (m - l)) := by
                                unfold subO
                                rw [if_neg (by simp), hl, hm]
                                simp only [Int.toNat_natCast]
                                congr 2
                                omega
                              have hkc := HOk2.out.le
                              have hkm := HOk2.out.cap
                              simp only at hkc hkm
                              have hsl' : ∀ w, (Instr.slice 26 (.slice B2 BL pc2) (some (.int .i64 (0 : Int))) (some (.int .i64 Z)) none).run Try.prog w = .ok (.slice (tlB B2 pc2 l) (m - l) (pc2 - l)) w := fun w => by
                                rw [hl, hm]
                                exact slice_lhB B2 BL pc2 l m (by omega) (by omega) w
                              have hlen : ((bs2.drop l).take (m - l)).length = m - l := by rw [List.length_take, List.length_drop]; omega
                              have hlies := HOk2.out.lies.cutB pc2 l (m - l) hkc
                              obtain ⟨p, hp'⟩ : ∃ p, (bs2.drop l).take (m - l) = p := ⟨_, rfl⟩
                              rw [hp'] at hlen hsub hlies
                              obtain ⟨TA, hTA⟩ : ∃ TA, tlB B2 pc2 l = TA := ⟨_, rfl⟩
                              obtain ⟨C2, hC2⟩ : ∃ C2, pc2 - l = C2 := ⟨_, rfl⟩
                              obtain ⟨DD, hDD⟩ : ∃ DD, m - l = DD := ⟨_, rfl⟩
                              rw [hTA, hC2, hDD] at hsl'
                              rw [hTA] at hlies
                              rw [hDD] at hlen
                              rw [hsub] at HIn
                              have HQk := Lib.hid (show POp.Ok w ⟨newO p, TA, C2⟩ from ⟨⟨by simp [newO], by simp [newO]⟩, ⟨by simp [newO], by simp [newO]⟩, by simp only [newO]; omega, by simp only; omega, hlies⟩)
                              have HPl := Lib.hid hlen
                              rw [hBL] at y3
                              have HBl2 := Lib.hid (And.intro hBL hzn)
                              clear hzn hsub hl hm hml hkc hkm hlen hlies hp' hTA hC2 hDD hBL
                              go_upto_region 25 with fail
                              obtain ⟨SS, hSS⟩ : ∃ SS : Nat → Prop, SS = fun j => j = gs ∨ Value.ownBlock (.slice Ax sn cx) = some j := ⟨_, rfl⟩
                              have HSd : Hid (∀ j, SS j ↔ (j = gs ∨ Value.ownBlock (.slice Ax sn cx) = some j)) := Lib.hid (fun j => by rw [hSS])
                              have HSnp : Hid (¬ SS gp) := Lib.hid (fun e => by
                                rcases (HSd.out _).1 e with e | e
                                · exact HGn.out.2 e
                                · exact HGn.out.1 e)
                              have Hq3 := Lib.hid (show ∀ w', Fr SS w10 w' → w'.cell? ⟨gp, 3, none⟩ = some (.slice B2 BL pc2) from fun w' x => x.cell y3 HSnp.out)
                              clear hSS u0 u1 u2 z2 v0 v1 v2 v3
                              refine wp_region_held (S := fun w' => Fr SS w10 w') (by kernel_rfl) ?_
                              have HSq := Lib.hid (show Fr SS w10 w10.drew from (Fr.refl _ w10).drew)
                              (
                                refine wpAnyH_takeM (i := 0) (v := .pointer (some ⟨gs, 2, none⟩)) 121 rfl rfl (by kernel_rfl) (by kernel_rfl) (by kernel_rfl) (fun _ _ _ h => h) (.inl ⟨by rfl, ?_⟩) HSq.out ?_
                                · intro xw xf
                                  go_simp)
                              (
                                refine wpAnyH_takeM (i := 2) (v := .pointer (some ⟨gp, 3, none⟩)) 123 rfl rfl (by kernel_rfl) (by kernel_rfl) (by kernel_rfl) (fun _ _ _ h => h) (.inl ⟨by rfl, ?_⟩) HSq.out ?_
                                · intro xw xf
                                  go_simp)
                              (
                                refine wpAnyH_takeM (i := 4) (v := .int .i64 (0 : Int)) 125 rfl rfl (by kernel_rfl) (by kernel_rfl) (by kernel_rfl) (fun _ _ _ h => h) (.inl ⟨by rfl, ?_⟩) HSq.out ?_
                                · intro xw xf
                                  go_simp)
                              (
                                refine wpAnyH_takeM (i := 5) (v := .int .i64 Z) 126 rfl rfl (by kernel_rfl) (by kernel_rfl) (by kernel_rfl) (fun _ _ _ h => h) (.inl ⟨by rfl, ?_⟩) HSq.out ?_
                                · intro xw xf
                                  go_simp)
                              (
                                refine wpAnyH_takeM (i := 3) (v := .slice B2 BL pc2) 124 rfl rfl (by kernel_rfl) (by kernel_rfl) (by kernel_rfl) (fun _ _ _ h => h) (.inl ⟨by rfl, ?_⟩) HSq.out ?_
                                · intro xw xf
                                  have xc := Hq3.out xw xf
                                  go_simp)
                              (
                                refine wpAnyH_takeM (i := 6) (v := .slice TA DD C2) 127 rfl rfl (by kernel_rfl) (by kernel_rfl) (by kernel_rfl) (fun _ _ _ h => h) (.inl ⟨by rfl, ?_⟩) HSq.out ?_
                                · intro xw xf
                                  go_simp)
                              (
                                refine wpAnyH_takeM (i := 7) (v := .agg #[.bool false, .int .i64 0, .int .i64 0, .slice TA DD C2]) 128 rfl rfl (by kernel_rfl) (by kernel_rfl) (by kernel_rfl) (fun _ _ _ h => h) (.inl ⟨by rfl, ?_⟩) HSq.out ?_
                                · intro xw xf
                                  go_simp)
                              try simp only [List.setIfInBounds_toArray, List.set_cons_succ, List.set_cons_zero]
                              change wpAnyH _ _ _ _ _ _ _ _ (World.drew w10)
                              have HFd8 := Lib.hid (show Fr (fun _ => False) w10 w10.drew from (Fr.refl _ w10).drew)
                              obtain ⟨wd, hwd⟩ : ∃ wd, w10.drew = wd := ⟨_, rfl⟩
                              rw [hwd]
                              rw [hwd] at HFd8
                              have HFd := Lib.hid (show Fr SS w10 wd from HFd8.out.mono (fun _ _ e => e.elim))
                              have HWd := Lib.hid (HWy.out.fr HFd8.out (fun e => e))
                              have HRd := Lib.hid (own_fr HRy.out HFd8.out (fun _ _ e => e))
                              have kd := (HWd.out.three).2.2
                              clear hwd HSq Hq3 hsl'
                              refine wpAnyH_all (rs := [1, 8]) (by kernel_rfl) (by simp) ?_
                              intro i hi
                              simp only [List.mem_cons, List.not_mem_nil, or_false] at hi
                              rcases hi with rfl | rfl
                              · (
                                refine wpOp_step rfl (fun K hK => ?_)
                                go_simp
                                refine hK _ _ ⟨HFd.out, ?_⟩
                                clear hK K)
                                (
                                  try simp only [List.setIfInBounds_toArray, List.set_cons_succ, List.set_cons_zero]
                                  refine wpAnyH_all (rs := [8]) (by kernel_rfl) (by simp) ?_
                                  intro i hi
                                  simp only [List.mem_cons, List.not_mem_nil, or_false] at hi
                                  subst hi)
                                (
                                  refine wpOp_step rfl (fun K hK => ?_)
                                  obtain ⟨wb, hwb⟩ : ∃ wb, wd.alloc (.cells #[.bool false, .int .i64 0, .int .i64 0, .slice TA DD C2] 66) = wb := ⟨_, rfl⟩
                                  have HFb := Lib.hid (show Fr (fun _ => False) wd wb by rw [← hwb]; exact (Fr.refl _ wd).alloc _)
                                  have HSrb := Lib.hid (show Src Try.prog 4 32 (.slice (some ⟨wd.heap.size, 0, none⟩) 1 1) 1 [.bool false, .int .i64 0, .int .i64 0, .slice TA DD C2] wb from by
                                    rw [← hwb]
                                    exact src_opv wd false 0 0 TA DD C2)
                                  have HFsb := Lib.hid (HFd.out.trans HFb.out (fun _ _ e => e.elim))
                                  have HWb := Lib.hid (HWd.out.fr HFb.out (fun e => e))
                                  have HRb' := Lib.hid (own_fr HRd.out HFb.out (fun _ _ e => e))
                                  have kb := (HWb.out.three).2.2
                                  have HSzb := Lib.hid (show gs + 1 ≤ wb.heap.size from by have := HFb.out.size; have := HFd8.out.size; have := HF10.out.size; have := HGw9.out; omega)
                                  go_simp
                                  refine hK _ _ ⟨HFsb.out, ?_⟩
                                  clear hK K hwb)
                                (
                                  (
                                    try simp only [List.setIfInBounds_toArray, List.set_cons_succ, List.set_cons_zero]
                                    refine wpAnyH_all (rs := [9]) (by kernel_rfl) (by simp) ?_
                                    intro i hi
                                    simp only [List.mem_cons, List.not_mem_nil, or_false] at hi
                                    subst hi)
                                  refine wpOp_step rfl (fun K hK => ?_)
                                  refine step_append_row _ (by rfl) (.tmp 122) (.tmp 129) 32 32 (by rfl) (gs + 1) 66 i0 (.agg zeroO) 4 48 Try.underlying32 gi gz0 gz1 gz2 (by rfl) (.slice Ax sn cx) sn (flatP ss) (by rfl) HRb'.out (.slice (some ⟨wd.heap.size, 0, none⟩) 1 1) 1 _ (by rfl) HSrb.out (by unfold maxLen; omega) (by omega) HSzb.out ?_
                                  intro v12 w12 o12 g12 at12
                                  have hf12 : Fr (fun j => Value.ownBlock (.slice Ax sn cx) = some j) wb w12 := (Fr.refl _ wb).grown g12 (fun j hj _ => hj)
                                  obtain ⟨A12, c12, hv12, -, -⟩ := own_slice o12
                                  subst hv12
                                  have HO12 := Lib.hid o12
                                  have HF12 := Lib.hid hf12
                                  have HNg12 := Lib.hid (show Value.ownBlock (.slice A12 (sn + 1) c12) ≠ some go from fun e => by
                                    rcases at12 with h | h
                                    · exact HNg.out (h.symm.trans e)
                                    · rw [e] at h
                                      injection h with h
                                      have := HGgo.out
                                      have := HSzg.out
                                      have := HFb.out.size
                                      have := HFd8.out.size
                                      omega)
                                  have HFs12 := Lib.hid (HFsb.out.trans hf12 (fun i hi e => (HSd.out i).2 (.inr e)))
                                  have HW12 := Lib.hid (HWb.out.fr hf12 (fun e => by have := (World.ownsRow.lt HRd.out _ e).1; omega))
                                  have k12 := (HW12.out.three).2.2
                                  have z12 := HW12.out.frozen 2
                                  clear o12 g12 at12 hf12
                                  go_simp
                                  refine hK _ _ ⟨HFs12.out, ?_⟩
                                  clear hK K
                                  have HSq := HFs12
                                  try simp only [List.setIfInBounds_toArray, List.set_cons_succ, List.set_cons_zero]
                                  (
                                    refine wpAnyH_takeM (i := 10) (v := .pointer (some ⟨gs, 2, none⟩)) 131 rfl rfl (by kernel_rfl) (by kernel_rfl) (by kernel_rfl) (fun _ _ _ h => h) (.inl ⟨by rfl, ?_⟩) HSq.out ?_
                                    · intro xw xf
                                      go_simp)
                                  clear HSq
                                  (
                                    try simp only [List.setIfInBounds_toArray, List.set_cons_succ, List.set_cons_zero]
                                    refine wpAnyH_all (rs := [11]) (by kernel_rfl) (by simp) ?_
                                    intro i hi
                                    simp only [List.mem_cons, List.not_mem_nil, or_false] at hi
                                    subst hi)
                                  refine wpOp_step rfl (fun K hK => ?_)
                                  obtain ⟨w13, hw13⟩ : ∃ w13, w12.setCell ⟨gs, 2, none⟩ (.slice A12 (sn + 1) c12) = w13 := ⟨_, rfl⟩
                                  have HF13 := Lib.hid (show Fr (fun j => j = gs) w12 w13 by subst hw13; exact Fr.setCell (S := fun j => j = gs) (p := ⟨gs, 2, none⟩) (Fr.refl _ w12) (fun _ => rfl) _)
                                  have HW13 := Lib.hid (show Whole w13 gs 34 #[.int .i64 b1, .int .i64 T, .slice A12 (sn + 1) c12] by subst hw13; exact HW12.out.set 2 _)
                                  go_simp
                                  refine hK _ _ ⟨HFs12.out.trans HF13.out (fun i hi e => (HSd.out i).2 (.inl e)), ?_⟩
                                  clear hK K
                                  refine wpAnyH_done (by kernel_rfl) ?_ _
                                  have HO13 := Lib.hid (own_fr HO12.out HF13.out (fun j hj e => by have := (World.ownsRow.lt HO12.out j hj).1; omega))
                                  have HFx13 := Lib.hid (show Fr (fun j => gs ≤ j ∧ j ≠ go) wr w13 from by
                                    refine ((HF10.out.mono (fun _ _ e => e.elim)).trans HFs12.out (fun i hi e => ?_)).trans HF13.out (fun i hi e => ⟨by omega, by have := HGgo.out; omega⟩)
                                    rcases (HSd.out i).1 e with e | e
                                    · exact ⟨by omega, by have := HGgo.out; omega⟩
                                    · exact ⟨by have := (World.ownsRow.lt HOx.out i e).1; omega, fun e2 => HNg.out (by rw [e, e2])⟩)
                                  have HOP13 := Lib.hid ((HO10.out.fr (HFd8.out.trans HFb.out (fun _ _ e => e))).frS HF12.out HF13.out HGn.out.1 HGn.out.2)
                                  have HO13p := Lib.hid (show w13.ownsRow (gs + 1) 66 4 (.slice A12 (sn + 1) c12) (sn + 1) (flatP ss ++ POp.cells ⟨newO p, TA, C2⟩) from by have := HO13.out; simpa only [POp.cells, newO, HPl.out] using this)
                                  (
                                    clear y0 y1 y2 y3
                                    obtain ⟨y0, y1, y2, y3⟩ := HOP13.out.cells
                                    simp only at y0 y1 y2 y3
                                    go_wp2_with (go_at_call 36; refine (HLd.out _).mono ?_; rintro e w14 ⟨rfl, b14⟩; have HF14 := Lib.hid (Fr.of_below (S := fun _ => False) b14); clear b14)
                                    go_roundw
                                    case rel =>
                                      refine ⟨j + 1, S + Z, _, (ss ++ [⟨newO p, TA, C2⟩]), by omega, by go_num, by go_num, HSk, Lib.hid (HW13.out.fr HF14.out (fun e => e)), Lib.hid ?_, Lib.hid ?_, Lib.hid ?_, HNg12, Lib.hid ((HFx.out.trans HFx13.out (fun _ _ e => e)).trans HF14.out (fun _ _ e => e.elim))⟩
                                      · rw [List.length_append, flatP_append, flatP_one, HSn.out]
                                        exact own_fr HO13p.out HF14.out (fun _ _ e => e)
                                      · rw [opsO_append, ← HIn.out, List.append_assoc]
                                        rfl
                                      · intro q hq
                                        rcases List.mem_append.1 hq with h6 | h6
                                        · exact HOkx.out q h6
                                        · rw [List.mem_singleton.1 h6]
                                          exact HQk.out
                                    case measure => simp [intOf]; omega))
                              · (
                                refine wpOp_step rfl (fun K hK => ?_)
                                obtain ⟨wb, hwb⟩ : ∃ wb, wd.alloc (.cells #[.bool false, .int .i64 0, .int .i64 0, .slice TA DD C2] 66) = wb := ⟨_, rfl⟩
                                have HFb := Lib.hid (show Fr (fun _ => False) wd wb by rw [← hwb]; exact (Fr.refl _ wd).alloc _)
                                have HSrb := Lib.hid (show Src Try.prog 4 32 (.slice (some ⟨wd.heap.size, 0, none⟩) 1 1) 1 [.bool false, .int .i64 0, .int .i64 0, .slice TA DD C2] wb from by
                                  rw [← hwb]
                                  exact src_opv wd false 0 0 TA DD C2)
                                have HFsb := Lib.hid (HFd.out.trans HFb.out (fun _ _ e => e.elim))
                                have HWb := Lib.hid (HWd.out.fr HFb.out (fun e => e))
                                have HRb' := Lib.hid (own_fr HRd.out HFb.out (fun _ _ e => e))
                                have kb := (HWb.out.three).2.2
                                have HSzb := Lib.hid (show gs + 1 ≤ wb.heap.size from by have := HFb.out.size; have := HFd8.out.size; have := HF10.out.size; have := HGw9.out; omega)
                                go_simp
                                refine hK _ _ ⟨HFsb.out, ?_⟩
                                clear hK K hwb)
                                (
                                  try simp only [List.setIfInBounds_toArray, List.set_cons_succ, List.set_cons_zero]
                                  refine wpAnyH_all (rs := [1]) (by kernel_rfl) (by simp) ?_
                                  intro i hi
                                  simp only [List.mem_cons, List.not_mem_nil, or_false] at hi
                                  subst hi)
                                (
                                  refine wpOp_step rfl (fun K hK => ?_)
                                  go_simp
                                  refine hK _ _ ⟨HFsb.out, ?_⟩
                                  clear hK K)
                                (
                                  (
                                    try simp only [List.setIfInBounds_toArray, List.set_cons_succ, List.set_cons_zero]
                                    refine wpAnyH_all (rs := [9]) (by kernel_rfl) (by simp) ?_
                                    intro i hi
                                    simp only [List.mem_cons, List.not_mem_nil, or_false] at hi
                                    subst hi)
                                  refine wpOp_step rfl (fun K hK => ?_)
                                  refine step_append_row _ (by rfl) (.tmp 122) (.tmp 129) 32 32 (by rfl) (gs + 1) 66 i0 (.agg zeroO) 4 48 Try.underlying32 gi gz0 gz1 gz2 (by rfl) (.slice Ax sn cx) sn (flatP ss) (by rfl) HRb'.out (.slice (some ⟨wd.heap.size, 0, none⟩) 1 1) 1 _ (by rfl) HSrb.out (by unfold maxLen; omega) (by omega) HSzb.out ?_
                                  intro v12 w12 o12 g12 at12
                                  have hf12 : Fr (fun j => Value.ownBlock (.slice Ax sn cx) = some j) wb w12 := (Fr.refl _ wb).grown g12 (fun j hj _ => hj)
                                  obtain ⟨A12, c12, hv12, -, -⟩ := own_slice o12
                                  subst hv12
                                  have HO12 := Lib.hid o12
                                  have HF12 := Lib.hid hf12
                                  have HNg12 := Lib.hid (show Value.ownBlock (.slice A12 (sn + 1) c12) ≠ some go from fun e => by
                                    rcases at12 with h | h
                                    · exact HNg.out (h.symm.trans e)
                                    · rw [e] at h
                                      injection h with h
                                      have := HGgo.out
                                      have := HSzg.out
                                      have := HFb.out.size
                                      have := HFd8.out.size
                                      omega)
                                  have HFs12 := Lib.hid (HFsb.out.trans hf12 (fun i hi e => (HSd.out i).2 (.inr e)))
                                  have HW12 := Lib.hid (HWb.out.fr hf12 (fun e => by have := (World.ownsRow.lt HRd.out _ e).1; omega))
                                  have k12 := (HW12.out.three).2.2
                                  have z12 := HW12.out.frozen 2
                                  clear o12 g12 at12 hf12
                                  go_simp
                                  refine hK _ _ ⟨HFs12.out, ?_⟩
                                  clear hK K
                                  have HSq := HFs12
                                  try simp only [List.setIfInBounds_toArray, List.set_cons_succ, List.set_cons_zero]
                                  (
                                    refine wpAnyH_takeM (i := 10) (v := .pointer (some ⟨gs, 2, none⟩)) 131 rfl rfl (by kernel_rfl) (by kernel_rfl) (by kernel_rfl) (fun _ _ _ h => h) (.inl ⟨by rfl, ?_⟩) HSq.out ?_
                                    · intro xw xf
                                      go_simp)
                                  clear HSq
                                  (
                                    try simp only [List.setIfInBounds_toArray, List.set_cons_succ, List.set_cons_zero]
                                    refine wpAnyH_all (rs := [11]) (by kernel_rfl) (by simp) ?_
                                    intro i hi
                                    simp only [List.mem_cons, List.not_mem_nil, or_false] at hi
                                    subst hi)
                                  refine wpOp_step rfl (fun K hK => ?_)
                                  obtain ⟨w13, hw13⟩ : ∃ w13, w12.setCell ⟨gs, 2, none⟩ (.slice A12 (sn + 1) c12) = w13 := ⟨_, rfl⟩
                                  have HF13 := Lib.hid (show Fr (fun j => j = gs) w12 w13 by subst hw13; exact Fr.setCell (S := fun j => j = gs) (p := ⟨gs, 2, none⟩) (Fr.refl _ w12) (fun _ => rfl) _)
                                  have HW13 := Lib.hid (show Whole w13 gs 34 #[.int .i64 b1, .int .i64 T, .slice A12 (sn + 1) c12] by subst hw13; exact HW12.out.set 2 _)
                                  go_simp
                                  refine hK _ _ ⟨HFs12.out.trans HF13.out (fun i hi e => (HSd.out i).2 (.inl e)), ?_⟩
                                  clear hK K
                                  refine wpAnyH_done (by kernel_rfl) ?_ _
                                  have HO13 := Lib.hid (own_fr HO12.out HF13.out (fun j hj e => by have := (World.ownsRow.lt HO12.out j hj).1; omega))
                                  have HFx13 := Lib.hid (show Fr (fun j => gs ≤ j ∧ j ≠ go) wr w13 from by
                                    refine ((HF10.out.mono (fun _ _ e => e.elim)).trans HFs12.out (fun i hi e => ?_)).trans HF13.out (fun i hi e => ⟨by omega, by have := HGgo.out; omega⟩)
                                    rcases (HSd.out i).1 e with e | e
                                    · exact ⟨by omega, by have := HGgo.out; omega⟩
                                    · exact ⟨by have := (World.ownsRow.lt HOx.out i e).1; omega, fun e2 => HNg.out (by rw [e, e2])⟩)
                                  have HOP13 := Lib.hid ((HO10.out.fr (HFd8.out.trans HFb.out (fun _ _ e => e))).frS HF12.out HF13.out HGn.out.1 HGn.out.2)
                                  have HO13p := Lib.hid (show w13.ownsRow (gs + 1) 66 4 (.slice A12 (sn + 1) c12) (sn + 1) (flatP ss ++ POp.cells ⟨newO p, TA, C2⟩) from by have := HO13.out; simpa only [POp.cells, newO, HPl.out] using this)
                                  (
                                    clear y0 y1 y2 y3
                                    obtain ⟨y0, y1, y2, y3⟩ := HOP13.out.cells
                                    simp only at y0 y1 y2 y3
                                    go_wp2_with (go_at_call 36; refine (HLd.out _).mono ?_; rintro e w14 ⟨rfl, b14⟩; have HF14 := Lib.hid (Fr.of_below (S := fun _ => False) b14); clear b14)
                                    go_roundw
                                    case rel =>
                                      refine ⟨j + 1, S + Z, _, (ss ++ [⟨newO p, TA, C2⟩]), by omega, by go_num, by go_num, HSk, Lib.hid (HW13.out.fr HF14.out (fun e => e)), Lib.hid ?_, Lib.hid ?_, Lib.hid ?_, HNg12, Lib.hid ((HFx.out.trans HFx13.out (fun _ _ e => e)).trans HF14.out (fun _ _ e => e.elim))⟩
                                      · rw [List.length_append, flatP_append, flatP_one, HSn.out]
                                        exact own_fr HO13p.out HF14.out (fun _ _ e => e)
                                      · rw [opsO_append, ← HIn.out, List.append_assoc]
                                        rfl
                                      · intro q hq
                                        rcases List.mem_append.1 hq with h6 | h6
                                        · exact HOkx.out q h6
                                        · rw [List.mem_singleton.1 h6]
                                          exact HQk.out
                                    case measure => simp [intOf]; omega))
                            · have hzn : Z = no2 := HZ2.out.symm
                              have hsub : subO ⟨true, fo2, no2, bs2⟩ (0 : Int) Z = ⟨true, fo2, Z, []⟩ := by
                                unfold subO
                                rw [if_pos rfl]
                                all_goals exact DOp.ext' rfl (by first | rfl | (simp only; omega)) (by first | rfl | (simp only; omega)) rfl
                              rw [hsub] at HIn
                              have HSr := Lib.hid (fun w => src_opv w true fo2 Z none 0 0)
                              have HQk := Lib.hid (show POp.Ok w ⟨⟨true, fo2, Z, []⟩, none, 0⟩ from ⟨⟨by simp only; omega, by simp only; omega⟩, ⟨by simp only; omega, by simp only; omega⟩, Nat.le_refl _, Nat.zero_le _, .inl rfl⟩)
                              have hwf : IntKind.i64.wrap fo2 = fo2 := by rw [IntKind.wrap_i64]; omega
                              have hwg : IntKind.i64.wrap Z = Z := by rw [IntKind.wrap_i64]; omega
                              have HZn := Lib.hid hzn
                              clear hzn hsub
                              go_upto_region 24 with (at_builtin; refine wpList_append_row _ rfl (.tmp 101) (.tmp 110) 32 32 rfl (gs + 1) 66 i0 (.agg zeroO) 4 48 Try.underlying32 gi gz0 gz1 gz2 rfl _ sn _ rfl (HRy.out.alloc _) _ 1 _ rfl (HSr.out _) (by unfold maxLen; omega) (by omega) (by have := HGw9.out; have := HF10.out.size; simp; omega) ?_
                                                      intro v12 w12 o12 g12 at12
                                                      have hf12 : Fr (fun j => Value.ownBlock (.slice Ax sn cx) = some j) w10 w12 := ((Fr.refl _ w10).alloc _).grown g12 (fun j hj _ => hj)
                                                      obtain ⟨A12, c12, hv12, -, -⟩ := own_slice o12
                                                      subst hv12
                                                      have HO12 := Lib.hid o12
                                                      have HF12 := Lib.hid hf12
                                                      have HNg12 := Lib.hid (show Value.ownBlock (.slice A12 (sn + 1) c12) ≠ some go from fun e => by
                                                        rcases at12 with h | h
                                                        · exact HNg.out (h.symm.trans e)
                                                        · rw [e] at h
                                                          injection h with h
                                                          have := HSzg.out
                                                          first | (simp at h; done) | (simp at h; omega))
                                                      have HW12 := Lib.hid (HWy.out.fr hf12 (fun e => by have := (World.ownsRow.lt HRy.out _ e).1; omega))
                                                      have k12 := (HW12.out.three).2.2
                                                      have z12 := HW12.out.frozen 2
                                                      clear o12 g12 at12 hf12)
                              obtain ⟨w13, hw13⟩ : ∃ w13, w12.setCell ⟨gs, 2, none⟩ (.slice A12 (sn + 1) c12) = w13 := ⟨_, rfl⟩
                              rw [hw13]
                              have HF13 := Lib.hid (show Fr (fun j => j = gs) w12 w13 by subst hw13; exact Fr.setCell (S := fun j => j = gs) (p := ⟨gs, 2, none⟩) (Fr.refl _ w12) (fun _ => rfl) _)
                              have HW13 := Lib.hid (show Whole w13 gs 34 #[.int .i64 b1, .int .i64 T, .slice A12 (sn + 1) c12] by subst hw13; exact HW12.out.set 2 _)
                              have HO13 := Lib.hid (own_fr HO12.out HF13.out (fun j hj e => by have := (World.ownsRow.lt HO12.out j hj).1; omega))
                              have HFx13 := Lib.hid (show Fr (fun j => gs ≤ j ∧ j ≠ go) wr w13 from ((HF10.out.mono (fun _ _ e => e.elim)).trans HF12.out (fun i hi e => ⟨by have := (World.ownsRow.lt HOx.out i e).1; omega, fun e2 => HNg.out (by rw [e, e2])⟩)).trans HF13.out (fun i hi e => ⟨by omega, by have := HGgo.out; omega⟩))
                              have HOP13 := Lib.hid (HO10.out.frS HF12.out HF13.out HGn.out.1 HGn.out.2)
                              clear hw13 k12 z12 u0 u1 u2 z2
                              (
                                clear y0 y1 y2 y3
                                obtain ⟨y0, y1, y2, y3⟩ := HOP13.out.cells
                                simp only at y0 y1 y2 y3
                                go_wp2_with (go_at_call 36; refine (HLd.out _).mono ?_; rintro e w14 ⟨rfl, b14⟩; have HF14 := Lib.hid (Fr.of_below (S := fun _ => False) b14); clear b14)
                                go_roundw
                                case rel =>
                                  refine ⟨j + 1, S + Z, _, (ss ++ [⟨⟨true, fo2, Z, []⟩, none, 0⟩]), by omega, by go_num, by go_num, HSk, Lib.hid (HW13.out.fr HF14.out (fun e => e)), Lib.hid ?_, Lib.hid ?_, Lib.hid ?_, HNg12, Lib.hid ((HFx.out.trans HFx13.out (fun _ _ e => e)).trans HF14.out (fun _ _ e => e.elim))⟩
                                  · rw [List.length_append, flatP_append, flatP_one, HSn.out]
                                    exact own_fr HO13.out HF14.out (fun _ _ e => e)
                                  · rw [opsO_append, ← HIn.out, List.append_assoc]
                                    rfl
                                  · intro q hq
                                    rcases List.mem_append.1 hq with h6 | h6
                                    · exact HOkx.out q h6
                                    · rw [List.mem_singleton.1 h6]
                                      exact HQk.out
                                case measure => simp [intOf]; omega)
                          · have HIn := Lib.hid (show opsO ss ++ cutR ((opsO ps).drop (j + 1)) ((F : Int) - sumO ((opsO ps).take (j + 1))) ((F : Int) + N - sumO ((opsO ps).take (j + 1))) = G from by have := HIz.out; rwa [if_neg hlh, List.nil_append] at this)
                            go_wp2_with (go_at_call 36; refine (HLd.out _).mono ?_; rintro e w11 ⟨rfl, b11⟩; have HF11 := Lib.hid (HF10.out.then_below b11); clear b11)
                            go_roundw
                            case rel => exact ⟨j + 1, S + Z, _, ss, by omega, by go_num, by go_num, HSk, Lib.hid (HWx.out.fr HF11.out (fun e => e)), Lib.hid (by rw [HSn.out]; exact own_fr HOx.out HF11.out (fun _ _ e => e)), HIn, HOkx, HNg, Lib.hid (HFx.out.trans HF11.out (fun _ _ e => e.elim))⟩
                            case measure => simp [intOf]; omega)
                  · obtain rfl : j = L := by omega
                    have hE := HIx.out
                    rw [show (opsO ps).drop j = [] from List.drop_of_length_le (by simp [opsO, HL.out])] at hE
                    simp only [cutR, List.append_nil] at hE
                    have HE := Lib.hid hE
                    clear hE
                    go_wp2_with fail
                    go_roundw
                    case rel => exact ⟨k + 1, _, ss, by omega, by go_num, HWx, HOx, Lib.hid (by rw [HE.out, HG.out]), HOkx, HF7x⟩
                    case measure => simp [intOf]; omega
              · cases r1
          · obtain rfl : k = K := by omega
            have HEn := Lib.hid (show opsO rs = thenO (opsO ps) (opsO qs) from by
              have := HI.out
              rwa [List.take_of_length_le (by simp [opsO, HK.out])] at this)
            obtain ⟨rn, hrn⟩ : ∃ rn, rs.length = rn := ⟨_, rfl⟩
            have HRn := Lib.hid hrn
            rw [hrn] at HO HW
            have HWr := Lib.hid (HWr5.out.fr (Fr.of_below (S := fun _ => False) HB5.out) (fun e => e))
            obtain ⟨s0, s1, s2⟩ := HW.out.three
            clear hrn
            (
              obtain ⟨e0, e1, e2⟩ := HWr.out.three
              have z0 := HWr.out.frozen 0
              have z1 := HWr.out.frozen 1
              have z2 := HWr.out.frozen 2)
            go_wp2_with fail
            (
              refine bodyPost_ret (v := .tuple #[.agg #[.int .i64 b1, .int .i64 T, .slice Av rn cv], .int .i64 0]) (results_cell_slot (p := 4) (u := 5) rfl _ _ _ _ _ _ rfl (setScr_whole HWr.out) Try.underlying34 rfl (by kernel_rfl)) rfl ?_)
            have hz5 := HZ5.out
            have hz := HZ.out
            have hga := HGa.out
            have hgs := HGs.out
            have fset := setScr_fr wr gr (.int .i64 b1) (.int .i64 T) (.slice Av rn cv)
            have hown := own_fr HO.out fset (fun j hj e => by have := (World.ownsRow.lt HO.out j hj).1; omega)
            have hfa : Fr (fun j => w.heap.size ≤ j) w (((wr.setCell ⟨gr, 0, none⟩ (.int .i64 b1)).setCell ⟨gr, 1, none⟩ (.int .i64 T)).setCell ⟨gr, 2, none⟩ (.slice Av rn cv)) := (((HF05.out.mono (T := fun j => w.heap.size ≤ j) (fun _ _ e => e.elim)).trans (Fr.of_below (S := fun _ => False) HB5.out) (fun _ _ e => e.elim)).trans fset (fun i hi e => by omega))
            obtain ⟨A9, c9, hv9, sc9, -⟩ := OwnP.scr (w0 := w7) (ps := rs) (by unfold OwnP; rw [HS7.out, HRn.out]; exact hown) (fun q hq => (HOk.out q hq).fr (Fr.of_below (hfa.below (fun i hi e => by omega))))
            rw [HRn.out] at hv9
            injection hv9 with q1 q2 q3
            subst q1; subst q3
            rw [HRe.out]
            exact ⟨Av, cv, rs, by rw [HRn.out], sc9, HEn.out, hfa.below (fun i hi e => by omega)⟩
      · have hbt' : (b2 != t1) = true := by simp; exact hbt
        have hbt2 : (t1 != b2) = true := by simp; exact fun e => hbt e.symm
        go_wp2_with (first
          | (go_at_call 15; have _ := M1; refine (HC2.out w4 (HSb.out.fr HF4.out)).mono ?_; rintro e w5 ⟨rfl, b5⟩; have HF5 := Lib.hid (HF4.out.then_below b5); obtain ⟨f0, f1, f2⟩ := (HS2.out.fr HF5.out).cells; obtain ⟨h0, h1, h2⟩ := (HS1.out.fr HF5.out).cells; have HWr5 := Lib.hid (HWr.out.fr HF5.out (fun e => e)); obtain ⟨y0, y1, y2⟩ := HWr5.out.three; have v0 := HWr5.out.frozen 0; have v1 := HWr5.out.frozen 1; have v2 := HWr5.out.frozen 2; clear b5)
          | (go_at_call 15; refine (HC1.out w3 HSa.out).mono ?_; rintro e w4 ⟨rfl, b4⟩; have HF4 := Lib.hid (Fr.of_below (S := fun _ => False) b4); obtain ⟨d0, d1, d2⟩ := (HS2.out.fr HF4.out).cells; clear b4; have M1 := True.intro))
        have HWr := HWr5
        (
          refine bodyPost_ret (v := .tuple #[.agg #[.int .i64 0, .int .i64 0, .slice none 0 0], .int .i64 21]) (results_cell_slot (p := 4) (u := 5) rfl _ _ _ _ _ _ rfl (setScr_whole HWr.out) Try.underlying34 rfl (by kernel_rfl)) rfl ?_)
        exact HFin.out w5 21 ((HF.out.trans HF5.out (fun _ _ e => e)).mono (fun _ _ e => e.elim)) (by rw [← HR.out]; unfold thenR; rw [if_pos ⟨HX.out.1, HX.out.2⟩, if_neg hbt])
    · go_wp2_with (first
        | (go_at_call 15; have _ := M1; refine (HC2.out w4 (HSb.out.fr HF4.out)).mono ?_; rintro e w5 ⟨rfl, b5⟩; have HF5 := Lib.hid (HF4.out.then_below b5); have HWr5 := Lib.hid (HWr.out.fr HF5.out (fun e => e)); obtain ⟨y0, y1, y2⟩ := HWr5.out.three; have v0 := HWr5.out.frozen 0; have v1 := HWr5.out.frozen 1; have v2 := HWr5.out.frozen 2; clear b5)
        | (go_at_call 15; refine (HC1.out w3 HSa.out).mono ?_; rintro e w4 ⟨rfl, b4⟩; have HF4 := Lib.hid (Fr.of_below (S := fun _ => False) b4); obtain ⟨d0, d1, d2⟩ := (HS2.out.fr HF4.out).cells; clear b4; have M1 := True.intro))
      have HWr := HWr5
      (
        refine bodyPost_ret (v := .tuple #[.agg #[.int .i64 0, .int .i64 0, .slice none 0 0], .int .i64 2]) (results_cell_slot (p := 4) (u := 5) rfl _ _ _ _ _ _ rfl (setScr_whole HWr.out) Try.underlying34 rfl (by kernel_rfl)) rfl ?_)
      exact HFin.out w5 2 ((HF.out.trans HF5.out (fun _ _ e => e)).mono (fun _ _ e => e.elim)) (by rw [← HR.out]; unfold thenR; rw [if_neg (by rw [HX.out.2]; omega)])
  · go_wp2_with (go_at_call 15; refine (HC1.out w3 HSa.out).mono ?_; rintro e w4 ⟨rfl, b4⟩; have HF4 := Lib.hid (Fr.of_below (S := fun _ => False) b4); have HWr4 := Lib.hid (HWr.out.fr HF4.out (fun e => e)); obtain ⟨y0, y1, y2⟩ := HWr4.out.three; have v0 := HWr4.out.frozen 0; have v1 := HWr4.out.frozen 1; have v2 := HWr4.out.frozen 2; clear b4)
    have HWr := HWr4
    (
      refine bodyPost_ret (v := .tuple #[.agg #[.int .i64 0, .int .i64 0, .slice none 0 0], .int .i64 2]) (results_cell_slot (p := 4) (u := 5) rfl _ _ _ _ _ _ rfl (setScr_whole HWr.out) Try.underlying34 rfl (by kernel_rfl)) rfl ?_)
    exact HFin.out w4 2 ((HF.out.trans HF4.out (fun _ _ e => e)).mono (fun _ _ e => e.elim)) (by rw [← HR.out]; unfold thenR; rw [if_neg (by rw [HX.out.1]; omega)])
end Go.Proofs.Ythjfkeploofblaa

/- What is proved: texts that stand one behind the other: Dfd. Conditions: each theorem names its own. -/
import Derived.OrdersHeld
import Derived.Test.YtkaeoflgnnlbeaaGreatDoorQDf
import Derived.Test.YtkaeoflgnnlbeaaGreatDoorQDfb
/- What is proved: what the walks of this seat need of layers below, merged out of the texts Dfd (of each just what is needed). Conditions: each theorem names its own. -/
/- What is proved: Read of the document. Conditions: the bytes are there. -/
namespace Go.Proofs.YtkaeoflgnnlbeaaGreatDoor
open Go.RowKit
set_option linter.unusedVariables false
/-- Ops in a row of the call's own; their bytes too. -/
structure Mq (w0 w : World) (v : Value) (ps : List POp) : Prop where
  own : w.ownsRow w0.heap.size 142 4 v ps.length (flatP ps)
  ok : ∀ p ∈ ps, p.Ok w
  old : ∀ p ∈ ps, ∀ ad, p.B = some ad → ad.block < w.heap.size ∧ v.ownBlock ≠ some ad.block ∧ w0.heap.size ≤ ad.block
theorem Mq.nil (w : World) : Mq w w (.slice none 0 0) [] := ⟨World.ownsRow_nil _ _ _ _, by simp, by simp⟩
theorem Mq.frS {S : Nat → Prop} {w0 w w' : World} {v : Value} {ps : List POp} (h : Mq w0 w v ps) (f : Fr S w w') (hS : ∀ j, S j → j < w0.heap.size) : Mq w0 w' v ps := by
  refine ⟨own_fr h.own f (fun k hk hs => ?_), fun p hp => ?_, fun p hp ad hA => ⟨Nat.lt_of_lt_of_le (h.old p hp ad hA).1 f.size, (h.old p hp ad hA).2⟩⟩
  · have h1 := (World.ownsRow.lt h.own k hk).1
    have h2 := hS k hs
    omega
  · have h0 := h.ok p hp
    exact ⟨h0.f, h0.n, h0.le, h0.cap, h0.lies.fr f (fun ad hA hs => by
      have h1 := (h.old p hp ad hA).2.2
      have h2 := hS _ hs
      omega)⟩
theorem Mq.fr {w0 w w' : World} {v : Value} {ps : List POp} (h : Mq w0 w v ps) (f : Fr (fun _ => False) w w') : Mq w0 w' v ps := h.frS f (fun _ e => e.elim)
theorem Mq.push {w0 w w6 : World} {v v6 : Value} {ps : List POp} {p : POp} (h : Mq w0 w v ps) (hp : p.Ok w) (hpo : ∀ ad, p.B = some ad → ad.block < w.heap.size ∧ v.ownBlock ≠ some ad.block ∧ w0.heap.size ≤ ad.block)
    (o6 : w6.ownsRow w0.heap.size 142 4 v6 (ps.length + 1) (flatP ps ++ p.cells)) (f6 : Fr (fun j => v.ownBlock = some j) w w6)
    (hat : v6.ownBlock = v.ownBlock ∨ ∃ j, v6.ownBlock = some j ∧ w.heap.size ≤ j) : Mq w0 w6 v6 (ps ++ [p]) := by
  have hall : ∀ q ∈ ps ++ [p], q.Ok w ∧ ∀ ad, q.B = some ad → ad.block < w.heap.size ∧ v.ownBlock ≠ some ad.block ∧ w0.heap.size ≤ ad.block := fun q hq => by
    rcases List.mem_append.1 hq with h1 | h1
    · exact ⟨h.ok q h1, h.old q h1⟩
    · rw [List.mem_singleton.1 h1]; exact ⟨hp, hpo⟩
  refine ⟨by rw [List.length_append, flatP_append, flatP_one]; exact o6, fun q hq => ?_, fun q hq ad hA => ?_⟩
  · obtain ⟨h0, h1⟩ := hall q hq
    exact ⟨h0.f, h0.n, h0.le, h0.cap, h0.lies.fr f6 (fun ad hA => (h1 ad hA).2.1)⟩
  · obtain ⟨h2, h3, h33⟩ := (hall q hq).2 ad hA
    refine ⟨Nat.lt_of_lt_of_le h2 f6.size, ?_, h33⟩
    rcases hat with h4 | ⟨j, h4, h5⟩
    · rw [h4]; exact h3
    · rw [h4]; intro e; injection e with e; omega
theorem Mq.slice {w0 w : World} {v : Value} {ps : List POp} (h : Mq w0 w v ps) : ∃ A c, v = .slice A ps.length c ∧ Scr w A c ps ∧ ∀ ad, A = some ad → w0.heap.size ≤ ad.block := OwnP.scr h.own h.ok
theorem numV_one {bs : List UInt8} {p : Nat} (h : p < bs.length) : numV bs p 0 1 = (bs.getD p 0).toNat ∧ stepAt bs.length p 0 1 = p + 1 ∧ hasErr bs.length p 0 1 = 0 := by
  have he : hasErr bs.length p 0 1 = 0 := hasErr_ok (by omega)
  refine ⟨?_, by unfold stepAt; rw [if_pos ⟨rfl, by omega⟩], he⟩
  unfold numV
  rw [show ((1 : Nat) : Int) = 1 from rfl, if_pos he, drop_byte h]
  unfold byteAt
  rw [if_pos rfl]
  simp [bigV]
set_option maxHeartbeats 12800000 in
set_option maxRecDepth 100000 in
theorem QDRead_any (A : Option Addr) (c : Nat) (bs : List UInt8) (hbs : bs.length ≤ 140737488355328) (hc : bs.length ≤ c) (w : World) (hl : Lies w A (bytesV bs)) :
    Calls Tryz.prog 37 #[.slice A bs.length c] w (ReadPost w (readR bs)) := by
  unfold ReadPost
  have HT1 := Lib.hid (fun h w' (r : Qd w' h A c bs 0 0) => qVar_any h A c bs 0 0 4000 w' r (by omega) (by omega))
  have hm1 := varO_most bs 0 0 4000 (by omega)
  unfold QPost at HT1
  obtain ⟨⟨F1, F2, F3⟩, hF⟩ : ∃ F, varO bs 0 0 4000 = F := ⟨_, rfl⟩
  rw [hF] at hm1 HT1
  have HT2 := Lib.hid (fun h w' (r : Qd w' h A c bs F2 F3) => qVar_any h A c bs F2 F3 4000 w' r (by omega) (by omega))
  have hm2 := varO_most bs F2 F3 4000 (by omega)
  unfold QPost at HT2
  simp only at hm1 HT1
  obtain ⟨⟨N1, N2, N3⟩, hN⟩ : ∃ N, varO bs F2 F3 4000 = N := ⟨_, rfl⟩
  rw [hN] at hm2 HT2
  simp only at hm2 HT2
  obtain ⟨R, hR⟩ : ∃ R, readR bs = R := ⟨_, rfl⟩
  have HR := Lib.hid (show R = readT bs (F1, F2, F3) (N1, N2, N3) from by rw [← hR]; unfold readR; rw [hF]; simp only; rw [hN])
  rw [hR]
  clear hF hN hR
  have hwF : IntKind.i64.wrap (F1 : Int) = F1 := by rw [IntKind.wrap_i64]; omega
  have hwN : IntKind.i64.wrap (N1 : Int) = N1 := by rw [IntKind.wrap_i64]; omega
  obtain ⟨L, hL⟩ : ∃ L, bs.length = L := ⟨_, rfl⟩
  have HL := Lib.hid hL
  obtain ⟨w1, hw1⟩ : ∃ w1, w.alloc (.cells #[.int .i64 0, .int .i64 0, .slice none 0 0] 94) = w1 := ⟨_, rfl⟩
  have HF1 := Lib.hid (show Fr (fun _ => False) w w1 by subst hw1; exact (Fr.refl _ _).alloc _)
  have HW1 := Lib.hid (show Whole w1 w.heap.size 94 #[.int .i64 0, .int .i64 0, .slice none 0 0] by subst hw1; exact Whole.new _ _ _)
  have HS1 := Lib.hid (show w1.heap.size = w.heap.size + 1 by subst hw1; simp)
  have HAl := Lib.hid (show ∀ ad, A = some ad → bs ≠ [] → ad.block < w.heap.size from fun ad hA hb => by
    rcases hl with h0 | ⟨b', o', hB', hcl⟩
    · exact absurd (by simpa [bytesV] using h0) hb
    · rw [hA] at hB'
      injection hB' with hB'
      subst hB'
      obtain ⟨q, l, hql⟩ := List.exists_cons_of_ne_nil hb
      exact World.block_lt_of_cell? w ⟨b', o' + 0, none⟩ (hcl 0 (byteV q) (by rw [hql]; rfl)))
  obtain ⟨w2, hw2⟩ : ∃ w2, w1.alloc (.cells #[.slice A bs.length c, .int .i64 0, .int .i64 0] 137) = w2 := ⟨_, rfl⟩
  have HF2 := Lib.hid (show Fr (fun _ => False) w1 w2 by subst hw2; exact (Fr.refl _ _).alloc _)
  have HS2 := Lib.hid (show w2.heap.size = w1.heap.size + 1 by subst hw2; simp)
  obtain ⟨h, hh⟩ : ∃ h, w1.heap.size = h := ⟨_, rfl⟩
  have HQ2 := Lib.hid (show Qd w2 h A c bs 0 0 from ⟨by subst hw2; subst hh; exact Whole.new _ _ _, (hl.fr HF1.out (fun _ _ e => e)).fr HF2.out (fun _ _ e => e), Nat.zero_le _, hbs, hc, fun ad hA hb => by have := HAl.out ad hA hb; have := HS1.out; omega⟩)
  have HHe := Lib.hid (show h ≠ w.heap.size from by have := HS1.out; omega)
  have HHs := Lib.hid hh
  rw [hL] at hw2 hc hbs ⊢
  obtain ⟨i1, gi, gz0, gz1, gz2⟩ := info_parts infoQO
  clear hl hL
  go_enter Tryz.func37, Tryz.ntmps37
  go_upto_region 3 with (go_at_call 61; refine (HT1.out h w2 HQ2.out).mono ?_; rintro e w3 ⟨rfl, r3, f3⟩; have HQ3 := Lib.hid r3; have HF3 := Lib.hid f3; clear r3 f3)
  obtain ⟨w4, hw4⟩ : ∃ w4, w3.alloc (.cells #[.int .i64 F1, .int .i64 0, .slice none 0 0] 94) = w4 := ⟨_, rfl⟩
  rw [hw4]
  have HF34 := Lib.hid (show Fr (fun _ => False) w3 w4 by subst hw4; exact (Fr.refl _ _).alloc _)
  have HW4 := Lib.hid (show Whole w4 w3.heap.size 94 #[.int .i64 F1, .int .i64 0, .slice none 0 0] by subst hw4; exact Whole.new _ _ _)
  have HS4 := Lib.hid (show w4.heap.size = w3.heap.size + 1 by subst hw4; simp)
  have HQ4 := Lib.hid (HQ3.out.fr HF34.out (fun e => e) (fun _ _ _ e => e))
  have HSz := Lib.hid (show h = w.heap.size + 1 ∧ w2.heap.size = h + 1 ∧ w2.heap.size ≤ w3.heap.size from ⟨by have := HS1.out; have := HHs.out; omega, by have := HS2.out; have := HHs.out; omega, Fr.size HF3.out⟩)
  obtain ⟨sb, hsb⟩ : ∃ sb, w3.heap.size = sb := ⟨_, rfl⟩
  have HSb := Lib.hid hsb
  rw [hsb] at HW4 HS4
  go_upto_region 4 with (go_at_call 61; refine (HT2.out h w4 HQ4.out).mono ?_; rintro e w5 ⟨rfl, r5, f5⟩; have HQ5 := Lib.hid r5; have HF5 := Lib.hid f5; have HW5 := Lib.hid (HW4.out.fr (show Fr (fun k => k = h) w4 w5 from f5) (fun e => by have := HSz.out; have := HSb.out; omega)); have y1 : w5.cell? ⟨sb, 1, none⟩ = some (.int .i64 0) := by { rw [HW5.out.cell]; rfl }; have u1 := HW5.out.frozen 1; clear r5 f5)
  obtain ⟨w6, hw6⟩ : ∃ w6, w5.setCell ⟨sb, 1, none⟩ (.int .i64 N1) = w6 := ⟨_, rfl⟩
  rw [hw6]
  have HF56 := Lib.hid (show Fr (fun j => j = sb) w5 w6 by subst hw6; exact Fr.setCell (S := fun j => j = sb) (p := ⟨sb, 1, none⟩) (Fr.refl _ w5) (fun _ => rfl) _)
  have HW6 := Lib.hid (show Whole w6 sb 94 #[.int .i64 F1, .int .i64 N1, .slice none 0 0] by subst hw6; exact HW5.out.set 1 _)
  have HS6 := Lib.hid (show w6.heap.size = w5.heap.size ∧ w4.heap.size ≤ w5.heap.size from ⟨by subst hw6; simp [World.setCell], Fr.size HF5.out⟩)
  have HAl6 : Hid (∀ (S : Nat → Prop), (∀ j, S j → w.heap.size ≤ j) → ∀ ad, A = some ad → bs ≠ [] → ¬ S ad.block) := Lib.hid (fun S hS ad hA hb e => by have := HAl.out ad hA hb; have := hS _ e; omega)
  have HQ6 := Lib.hid (HQ5.out.fr HF56.out (fun e => by have := HSz.out; have := HSb.out; omega) (HAl6.out (fun j => j = sb) (fun j e => by have := HSz.out; have := HSb.out; omega)))
  have HF26 := Lib.hid (show Fr (fun j => h ≤ j) w2 w6 from (((HF3.out.mono (T := fun j => h ≤ j) (fun _ _ e => by omega)).trans HF34.out (fun _ _ e => e.elim)).trans HF5.out (fun i hi e => by omega)).trans HF56.out (fun i hi e => by have := HSz.out; have := HSb.out; omega))
  have HF16 := Lib.hid (show Fr (fun j => h ≤ j) w1 w6 from (HF2.out.mono (T := fun j => h ≤ j) (fun _ _ e => e.elim)).trans HF26.out (fun _ _ e => e))
  have HWr := Lib.hid (HW1.out.fr HF16.out (fun e => by have := HSz.out; omega))
  have HFe := Lib.hid (show Fr (fun j => w.heap.size ≤ j) w w6 from (laidFr HF1.out (fun _ e => e.elim)).trans HF16.out (fun i hi e => by have := HSz.out; omega))
  have x2 := HQ6.out.c2
  clear hw6 hw4 hw2 hw1 hsb hh y1 u1
  have HFin := Lib.hid (fun (wr : World) (E : Int) (hf : Fr (fun j => w.heap.size ≤ j) w wr) (hT : R = ((0, 0, []), E)) => (by
    subst hT
    exact ⟨none, 0, [], rfl, Scr.none _, rfl, (hf.trans (setScr_fr wr w.heap.size _ _ _) (fun i hi e => by omega)).below (fun i hi e => by omega)⟩ : ∃ A' c' ps, Ending.returned (.tuple #[.agg #[.int .i64 0, .int .i64 0, .slice none 0 0], .int .i64 E]) = .returned (.tuple #[.agg #[.int .i64 R.1.1, .int .i64 R.1.2.1, .slice A' ps.length c'], .int .i64 R.2]) ∧ Scr (((wr.setCell ⟨w.heap.size, 0, none⟩ (.int .i64 0)).setCell ⟨w.heap.size, 1, none⟩ (.int .i64 0)).setCell ⟨w.heap.size, 2, none⟩ (.slice none 0 0)) A' c' ps ∧ opsO ps = R.1.2.2 ∧ Below w.heap.size w (((wr.setCell ⟨w.heap.size, 0, none⟩ (.int .i64 0)).setCell ⟨w.heap.size, 1, none⟩ (.int .i64 0)).setCell ⟨w.heap.size, 2, none⟩ (.slice none 0 0))))
  by_cases hN3 : N3 = 0
  · subst hN3
    obtain ⟨D, hD⟩ : ∃ D, restD bs F1 N2 N1 [] = D := ⟨_, rfl⟩
    have HRD := Lib.hid (show R = (if D.2 = 0 then (((F1 : Int), (N1 : Int), D.1), 0) else ((0, 0, []), D.2)) from by rw [HR.out, ← hD]; unfold readT; rw [if_neg (by simp)])
    have HD := Lib.hid hD
    have HHb := Lib.hid (show h < sb ∧ sb < w6.heap.size ∧ w.heap.size < h from by have := HSz.out; have := HSb.out; have := HS6.out; have := HS4.out; omega)
    clear hD
    go_wp2_with fail
    go_loopw [6] (fun i wr => ∃ (p : Nat) (v5 : Value) (qs : List POp) (left laid : Int), i = .int .i64 laid ∧ 0 ≤ laid ∧ 0 ≤ left ∧ laid + left = N1 ∧ qs.length + left ≤ N1 ∧ Hid (Qd wr h A c bs p 0) ∧ Hid (Whole wr sb 94 #[.int .i64 F1, .int .i64 N1, v5]) ∧ Hid (Mq w6 wr v5 qs) ∧ Hid (restD bs F1 p left (opsO qs) = D) ∧ Hid (Fr (fun k => k = h ∨ k = sb ∨ w6.heap.size ≤ k) w6 wr)) (fun i _ => ((N1 : Int) - intOf i).toNat)
    case atStart => exact ⟨N2, .slice none 0 0, [], N1, 0, rfl, by omega, by omega, by omega, by simp, HQ6, HW6, Lib.hid (Mq.nil w6), HD, Lib.hid (Fr.refl _ _)⟩
    case round =>
      obtain ⟨p, v5, qs, left, laid, rfl, hd0, hl0, hl2, hl1, HQr, HW, HM, HX, HF⟩ := hrel
      have hpl : p ≤ L := by have := HQr.out.le; have := HL.out; omega
      have HFw := Lib.hid (show Fr (fun j => w.heap.size ≤ j) w wr from HFe.out.trans HF.out (fun i hi e => by have := HHb.out; omega))
      have HWq := Lib.hid (HWr.out.fr HF.out (fun e => by have := HHb.out; omega))
      obtain ⟨Av, cv, hv, -⟩ := Mq.slice HM.out
      subst hv
      obtain ⟨LQ, hLQ⟩ : ∃ LQ, qs.length = LQ := ⟨_, rfl⟩
      have HLQ := Lib.hid hLQ
      rw [hLQ] at HW HM hl1
      have x1 := HQr.out.c1
      clear hLQ
      by_cases hlt : p < L
      · have hk2 : (p : Int) < L := by omega
        have hX := HX.out
        rw [restD_more (by rw [HL.out]; exact hlt)] at hX
        have hok := tkO_ok (bs := bs) (base := F1) (p := p)
        have HBg := Lib.hid (qBig_any h A c bs p 0 1 wr HQr.out (by omega))
        unfold QPost at HBg
        obtain ⟨b1, b2, b3⟩ := numV_one (bs := bs) (p := p) (by rw [HL.out]; exact hlt)
        rw [b1, b2, show hasErr bs.length p 0 ((1 : Nat) : Int) = 0 from b3] at HBg
        have HV1 := Lib.hid (fun w' (r : Qd w' h A c bs (p + 1) 0) => qVar_any h A c bs (p + 1) 0 4000 w' r (by omega) (by omega))
        unfold QPost at HV1
        have hT : tkO bs F1 p = if (bs.getD p 0).toNat = 1 then tkC F1 (varO bs (p + 1) 0 4000) (varO bs (varO bs (p + 1) 0 4000).2.1 (varO bs (p + 1) 0 4000).2.2 4000) else if (bs.getD p 0).toNat = 0 then tkN bs (varO bs (p + 1) 0 4000) else (zD, p + 1, 19) := rfl
        have hu5 : (bs.getD p 0).toNat < 256 := UInt8.toNat_lt _
        obtain ⟨u, hu⟩ : ∃ u : Nat, (bs.getD p 0).toNat = u := ⟨_, rfl⟩
        rw [hu] at HBg hT hu5
        have hwu : IntKind.i64.wrap (u : Int) = u := by rw [IntKind.wrap_i64]; omega
        have hmf := varO_most bs (p + 1) 0 4000 (by omega)
        obtain ⟨⟨f1, f2, f3⟩, hf⟩ : ∃ F, varO bs (p + 1) 0 4000 = F := ⟨_, rfl⟩
        rw [hf] at hT HV1 hmf
        simp only at hT HV1 hmf
        clear hu hf b1 b2 b3
        by_cases hu1 : u = 1
        · subst hu1
          rw [if_pos rfl] at hT
          have HV2 := Lib.hid (fun w' (r : Qd w' h A c bs f2 f3) => qVar_any h A c bs f2 f3 4000 w' r (by omega) (by omega))
          unfold QPost at HV2
          have hmn := varO_most bs f2 f3 4000 (by omega)
          obtain ⟨⟨n1, n2, n3⟩, hn⟩ : ∃ F, varO bs f2 f3 4000 = F := ⟨_, rfl⟩
          rw [hn] at hT HV2 hmn
          simp only at hT HV2 hmn
          rw [hT] at hX hok
          have HTk := Lib.hid (show tkC F1 (f1, f2, f3) (n1, n2, n3) = if n3 ≠ 0 then (zD, n2, n3) else if n1 = 0 then (zD, n2, 12) else if (f1 : Int) ≤ F1 - n1 then (copyO f1 n1, n2, 0) else (zD, n2, 21) from rfl)
          have HXX := Lib.hid hX
          have HOk := Lib.hid hok
          have hwf : IntKind.i64.wrap (f1 : Int) = f1 := by rw [IntKind.wrap_i64]; omega
          have hwn : IntKind.i64.wrap (n1 : Int) = n1 := by rw [IntKind.wrap_i64]; omega
          clear hX hok hT hn HX
          go_upto_region 12 with (go_at_call 60; refine HBg.out.mono ?_; rintro e w7 ⟨rfl, r7, f7⟩; have HQ7 := Lib.hid r7; have HF7 := Lib.hid (show Fr (fun k => k = h) wr w7 from f7); clear r7 f7)
          obtain ⟨w8, hw8⟩ : ∃ w8, w7.alloc (.cells #[.bool true, .int .i64 0, .int .i64 0, .slice none 0 0] 142) = w8 := ⟨_, rfl⟩
          rw [hw8]
          have HF78 := Lib.hid (show Fr (fun _ => False) w7 w8 by subst hw8; exact (Fr.refl _ _).alloc _)
          have HO8 := Lib.hid (show Whole w8 w7.heap.size 142 #[.bool true, .int .i64 0, .int .i64 0, .slice none 0 0] by subst hw8; exact Whole.new _ _ _)
          have HQ8 := Lib.hid (HQ7.out.fr HF78.out (fun e => e) (fun _ _ _ e => e))
          have HF8 := Lib.hid (HF7.out.trans HF78.out (fun _ _ e => e.elim))
          obtain ⟨ob, hob⟩ : ∃ ob, w7.heap.size = ob := ⟨_, rfl⟩
          have HOb := Lib.hid (show h < ob ∧ wr.heap.size ≤ ob from by have := HF7.out.size; have := HF.out.size; have := HHb.out; omega)
          rw [hob] at HO8
          obtain ⟨t0, t1, t2, t3⟩ := HO8.out.four
          clear hw8
          go_upto_region 14 with (go_at_call 61; refine (HV1.out w8 HQ8.out).mono ?_; rintro e w9 ⟨rfl, r9, f9⟩; have HQ9 := Lib.hid r9; have HF9 := Lib.hid (HF8.out.trans (show Fr (fun k => k = h) w8 w9 from f9) (fun _ _ e => e)); have HO9 := Lib.hid (HO8.out.fr (show Fr (fun k => k = h) w8 w9 from f9) (fun e => by have := HOb.out; omega)); have y1 : w9.cell? ⟨ob, 1, none⟩ = some (.int .i64 0) := by { rw [HO9.out.cell]; rfl }; have u1 := HO9.out.frozen 1; clear r9 f9)
          obtain ⟨w10, hw10⟩ : ∃ w10, w9.setCell ⟨ob, 1, none⟩ (.int .i64 f1) = w10 := ⟨_, rfl⟩
          rw [hw10]
          have HF910 := Lib.hid (show Fr (fun j => j = ob) w9 w10 by subst hw10; exact Fr.setCell (S := fun j => j = ob) (p := ⟨ob, 1, none⟩) (Fr.refl _ w9) (fun _ => rfl) _)
          have HO10 := Lib.hid (show Whole w10 ob 142 #[.bool true, .int .i64 f1, .int .i64 0, .slice none 0 0] by subst hw10; exact HO9.out.set 1 _)
          have HQ10 := Lib.hid (HQ9.out.fr HF910.out (fun e => by have := HOb.out; omega) (HAl6.out (fun j => j = ob) (fun j e => by have := HOb.out; have := HHb.out; omega)))
          have HF10 := Lib.hid (HF9.out.trans HF910.out (fun i hi e => by have := HOb.out; omega))
          clear hw10 y1 u1 t0 t1 t2 t3
          go_upto_region 15 with (go_at_call 61; refine (HV2.out w10 HQ10.out).mono ?_; rintro e w11 ⟨rfl, r11, f11⟩; have HQ11 := Lib.hid r11; have HF11 := Lib.hid (HF10.out.trans (show Fr (fun k => k = h) w10 w11 from f11) (fun _ _ e => e)); have HO11 := Lib.hid (HO10.out.fr (show Fr (fun k => k = h) w10 w11 from f11) (fun e => by have := HOb.out; omega)); have x2 := HQ11.out.c2; clear r11 f11)
          have HZ11 := Lib.hid (HWq.out.fr HF11.out (fun e => by have := HHb.out; omega))
          have HFw11 := Lib.hid (HFw.out.trans HF11.out (fun i hi e => by have := HHb.out; omega))
          by_cases hn3 : n3 = 0
          · subst hn3
            obtain ⟨t0, t1, t2, t3⟩ := HO11.out.four
            by_cases hn1 : n1 = 0
            · subst hn1
              have HD12 := Lib.hid (show R = ((0, 0, []), 12) from by
                have h1 := HXX.out
                rw [show tkC F1 (f1, f2, f3) (0, n2, 0) = (zD, n2, 12) from by rw [HTk.out, if_neg (by simp), if_pos rfl], if_pos (by simp)] at h1
                rw [HRD.out, ← h1, if_neg (by simp)])
              (
                obtain ⟨e0, e1, e2⟩ := HZ11.out.three
                have z0 := HZ11.out.frozen 0
                have z1 := HZ11.out.frozen 1
                have z2 := HZ11.out.frozen 2)
              go_wp2_with fail
              have HWr := HZ11
              (
                refine bodyPost_ret (v := .tuple #[.agg #[.int .i64 0, .int .i64 0, .slice none 0 0], .int .i64 12]) (results_cell_slot (p := 2) (u := 3) rfl _ _ _ _ _ _ rfl (setScr_whole HWr.out) Tryz.underlying94 rfl (by kernel_rfl)) rfl ?_)
              exact HFin.out w11 12 HFw11.out HD12.out
            · have hn10 : ((n1 : Int) == 0) = false := by simp; exact hn1
              have u2 := HO11.out.frozen 2
              go_upto_region 21 with fail
              obtain ⟨wt, hwt⟩ : ∃ wt, w11.setCell ⟨ob, 2, none⟩ (.int .i64 n1) = wt := ⟨_, rfl⟩
              rw [hwt]
              have HF1112 := Lib.hid (show Fr (fun j => j = ob) w11 wt by subst hwt; exact Fr.setCell (S := fun j => j = ob) (p := ⟨ob, 2, none⟩) (Fr.refl _ w11) (fun _ => rfl) _)
              have HOt := Lib.hid (show Whole wt ob 142 #[.bool true, .int .i64 f1, .int .i64 n1, .slice none 0 0] by subst hwt; exact HO11.out.set 2 _)
              have HQt := Lib.hid (HQ11.out.fr HF1112.out (fun e => by have := HOb.out; omega) (HAl6.out (fun j => j = ob) (fun j e => by have := HOb.out; have := HHb.out; omega)))
              have HFrt := Lib.hid (HF11.out.trans HF1112.out (fun i hi e => by have := HOb.out; omega))
              have HZt := Lib.hid (HWq.out.fr HFrt.out (fun e => by have := HHb.out; omega))
              have HWt := Lib.hid (HW.out.fr HFrt.out (fun e => by have := HHb.out; omega))
              have HFwt := Lib.hid (HFw.out.trans HFrt.out (fun i hi e => by have := HHb.out; omega))
              have HMt := Lib.hid (HM.out.frS HFrt.out (fun j e => by have := HHb.out; omega))
              have HFt := Lib.hid (show Fr (fun k => k = h ∨ k = sb ∨ w6.heap.size ≤ k) w6 wt from HF.out.trans HFrt.out (fun i hi e => .inl e))
              have hws : IntKind.i64.wrap ((f1 : Int) + n1) = f1 + n1 := by rw [IntKind.wrap_i64]; omega
              clear hwt t0 t1 t2 t3 u2 x2
              by_cases hli : (f1 : Int) ≤ F1 - n1
              · have hgf : ¬ (F1 : Int) < f1 + n1 := by omega
                have hTT : tkC F1 (f1, f2, f3) (n1, n2, 0) = (copyO f1 n1, n2, 0) := by rw [HTk.out, if_neg (by simp), if_neg hn1, if_pos hli]
                have HIt := Lib.hid (show (if left < (n1 : Int) then (([] : List DOp), (3 : Int)) else restD bs F1 n2 (left - (n1 : Int)) (opsO qs ++ [⟨true, (f1 : Int), (n1 : Int), []⟩])) = D from by
                  have h1 := HXX.out
                  rw [hTT, if_neg (by simp)] at h1
                  exact h1)
                have HKt := Lib.hid (show ([] : List UInt8).length = 0 from rfl)
                have HPt := Lib.hid (show (⟨⟨true, (f1 : Int), (n1 : Int), []⟩, none, 0⟩ : POp).Ok wt from ⟨⟨by simp only; omega, by simp only; omega⟩, ⟨by simp only; omega, by simp only; omega⟩, Nat.le_refl _, Nat.zero_le _, .inl rfl⟩)
                have HPo := Lib.hid (show ∀ ad, (⟨⟨true, (f1 : Int), (n1 : Int), []⟩, none, 0⟩ : POp).B = some ad → ad.block < wt.heap.size ∧ Value.ownBlock (.slice Av LQ cv) ≠ some ad.block ∧ w6.heap.size ≤ ad.block from fun ad e => by cases e)
                clear HXX HOk
                (
                  have hw9 : IntKind.i64.wrap (laid + (n1 : Int)) = laid + (n1 : Int) := by rw [IntKind.wrap_i64]; omega
                  obtain ⟨s0, s1, s2⟩ := HWt.out.three
                  obtain ⟨t0, t1, t2, t3⟩ := HOt.out.four
                  by_cases hls : left < (n1 : Int)
                  · have HD3 := Lib.hid (show R = ((0, 0, []), 3) from by rw [HRD.out, ← HIt.out, if_pos hls, if_neg (by simp)])
                    have hgt : (N1 : Int) < laid + (n1 : Int) := by omega
                    (
                      obtain ⟨e0, e1, e2⟩ := HZt.out.three
                      have z0 := HZt.out.frozen 0
                      have z1 := HZt.out.frozen 1
                      have z2 := HZt.out.frozen 2)
                    go_wp2_with fail
                    have HWr := HZt
                    (
                      refine bodyPost_ret (v := .tuple #[.agg #[.int .i64 0, .int .i64 0, .slice none 0 0], .int .i64 3]) (results_cell_slot (p := 2) (u := 3) rfl _ _ _ _ _ _ rfl (setScr_whole HWr.out) Tryz.underlying94 rfl (by kernel_rfl)) rfl ?_)
                    exact HFin.out wt 3 HFwt.out HD3.out
                  · have hgt : ¬ (N1 : Int) < laid + (n1 : Int) := by omega
                    have HI2 := Lib.hid (show restD bs F1 n2 (left - (n1 : Int)) (opsO qs ++ [⟨true, (f1 : Int), (n1 : Int), []⟩]) = D from by rw [← HIt.out, if_neg hls])
                    have HSrc : Hid (∀ w : World, Src Tryz.prog 4 92 (.slice (some ⟨w.heap.size, 0, none⟩) 1 1) 1 [.bool true, .int .i64 (f1 : Int), .int .i64 (n1 : Int), .slice none 0 0] (w.alloc (.cells #[.bool true, .int .i64 (f1 : Int), .int .i64 (n1 : Int), .slice none 0 0] 142))) := Lib.hid (fun w => by
                      have := src_op w 92 142 Tryz.underlying92 ⟨⟨true, (f1 : Int), (n1 : Int), []⟩, none, 0⟩
                      simpa only [POp.cells, HKt.out] using this)
                    have hLQ4 : LQ ≤ 4000 := by omega
                    obtain ⟨xp, hxp⟩ : ∃ xp, flatP qs = xp := ⟨_, rfl⟩
                    have HXp := Lib.hid hxp
                    have HMo9 := Lib.hid (show wt.ownsRow w6.heap.size 142 4 (.slice Av LQ cv) LQ xp from by have := HMt.out.own; rwa [HLQ.out, hxp] at this)
                    clear hxp
                    go_wp2_with (first
                      | (at_builtin; refine wpList_append_row _ rfl (.tmp 104) (.tmp 106) 92 92 rfl w6.heap.size 142 i1 (.agg zeroO) 4 48 Tryz.underlying92 gi gz0 gz1 gz2 rfl _ LQ xp rfl (HMo9.out.alloc _) _ 1 _ rfl (HSrc.out _) (by unfold maxLen; omega) (by omega) (by have := HFt.out.size; simp; omega) ?_
                         intro v10 w10 o10 g10 at10
                         have HO10 := Lib.hid o10
                         have HF10 := Lib.hid (show Fr (fun j => Value.ownBlock (.slice Av LQ cv) = some j) wt w10 from ((Fr.refl _ wt).alloc _).grown g10 (fun j hj _ => hj))
                         have HA10 := Lib.hid (show v10.ownBlock = Value.ownBlock (.slice Av LQ cv) ∨ ∃ j, v10.ownBlock = some j ∧ wt.heap.size ≤ j from at10.imp id (fun e => ⟨_, e, by simp⟩))
                         obtain ⟨A10, k10, hv10, _, _⟩ := own_slice o10
                         subst hv10
                         have HW10 := Lib.hid (HWt.out.fr HF10.out (fun e => by have := (World.ownsRow.lt HMo9.out _ e).1; have := HHb.out; omega))
                         have e10 : w10.cell? ⟨sb, 2, none⟩ = some (.slice Av LQ cv) := by rw [HW10.out.cell]; rfl
                         have z10 : w10.frozen? ⟨sb, 2, none⟩ = false := HW10.out.frozen 2
                         clear o10 g10 at10))
                    go_roundw
                    case rel =>
                      have fset : Fr (fun j => j = sb) w10 (w10.setCell ⟨sb, 2, none⟩ (.slice A10 (LQ + 1) k10)) := Fr.setCell (S := fun j => j = sb) (p := ⟨sb, 2, none⟩) (Fr.refl _ w10) (fun _ => rfl) _
                      have hM10 : Mq w6 w10 (.slice A10 (LQ + 1) k10) (qs ++ [⟨⟨true, (f1 : Int), (n1 : Int), []⟩, none, 0⟩]) := by
                        refine Mq.push HMt.out HPt.out HPo.out (by rw [HLQ.out, HXp.out]; simpa only [POp.cells, HKt.out] using HO10.out) HF10.out HA10.out
                      have hQd : Qd (w10.setCell ⟨sb, 2, none⟩ (.slice A10 (LQ + 1) k10)) h A c bs n2 0 := (HQt.out.fr HF10.out (fun e => by have := (World.ownsRow.lt HMo9.out _ e).1; have := HHb.out; omega) (HAl6.out (fun j => Value.ownBlock (.slice Av LQ cv) = some j) (fun j e => by have := (World.ownsRow.lt HMo9.out _ e).1; have := HHb.out; omega))).fr fset (fun e => by have := HHb.out; omega) (HAl6.out (fun j => j = sb) (fun j e => by have := HHb.out; omega))
                      refine ⟨n2, _, qs ++ [⟨⟨true, (f1 : Int), (n1 : Int), []⟩, none, 0⟩], left - (n1 : Int), laid + (n1 : Int), rfl, by omega, by omega, by omega, ?_, Lib.hid hQd, Lib.hid (HW10.out.set 2 _), Lib.hid (hM10.frS fset (fun j e => by have := HHb.out; omega)), Lib.hid (by rw [opsO_append]; exact HI2.out), Lib.hid ?_⟩
                      · rw [List.length_append, HLQ.out]; simp; omega
                      · refine (HFt.out.trans HF10.out (fun i hi e => .inr (.inr (World.ownsRow.lt HMo9.out _ e).1))).trans fset (fun i hi e => .inr (.inl e))
                    case measure => simp [intOf]; omega)
              · have hgf : (F1 : Int) < f1 + n1 := by omega
                have HD21 := Lib.hid (show R = ((0, 0, []), 21) from by
                  have h1 := HXX.out
                  rw [show tkC F1 (f1, f2, f3) (n1, n2, 0) = (zD, n2, 21) from by rw [HTk.out, if_neg (by simp), if_neg hn1, if_neg hli], if_pos (by simp)] at h1
                  rw [HRD.out, ← h1, if_neg (by simp)])
                obtain ⟨s0, s1, s2⟩ := HWt.out.three
                obtain ⟨t0, t1, t2, t3⟩ := HOt.out.four
                (
                  obtain ⟨e0, e1, e2⟩ := HZt.out.three
                  have z0 := HZt.out.frozen 0
                  have z1 := HZt.out.frozen 1
                  have z2 := HZt.out.frozen 2)
                go_wp2_with fail
                have HWr := HZt
                (
                  refine bodyPost_ret (v := .tuple #[.agg #[.int .i64 0, .int .i64 0, .slice none 0 0], .int .i64 21]) (results_cell_slot (p := 2) (u := 3) rfl _ _ _ _ _ _ rfl (setScr_whole HWr.out) Tryz.underlying94 rfl (by kernel_rfl)) rfl ?_)
                exact HFin.out wt 21 HFwt.out HD21.out
          · have hn30 : (n3 != 0) = true := by simp; exact hn3
            have HDE := Lib.hid (show R = ((0, 0, []), n3) from by
              have h1 := HXX.out
              rw [show tkC F1 (f1, f2, f3) (n1, n2, n3) = (zD, n2, n3) from by rw [HTk.out, if_pos hn3], if_pos hn3] at h1
              rw [HRD.out, ← h1, if_neg hn3])
            clear HXX HOk
            go_upto_region 16 with fail
            (
              have HQc := Lib.hid (show ∀ w', Fr (fun j => j = w.heap.size) w11 w' → w'.cell? ⟨h, 2, none⟩ = some (.int .i64 n3) from fun w' f => f.cell (HQ11.out.c2) (fun e => HHe.out e))
              refine wp_region_held (S := fun w' => Fr (fun j => j = w.heap.size) w11 w') (by kernel_rfl) ?_
              have HSq := Lib.hid (show Fr (fun j => j = w.heap.size) w11 (World.drew w11) from (Fr.refl _ w11).drew)
              (
                refine wpAnyH_takeM (i := 0) (v := .agg #[.int .i64 0, .int .i64 0, .slice none 0 0]) 61 rfl rfl (by kernel_rfl) (by kernel_rfl) (by kernel_rfl) (fun _ _ _ h => h) (.inl ⟨by kernel_rfl, ?_⟩) HSq.out ?_
                · intro xw xf
                  go_simp)
              (
                refine wpAnyH_takeM (i := 1) (v := .pointer (some ⟨h, 0, none⟩)) 62 rfl rfl (by kernel_rfl) (by kernel_rfl) (by kernel_rfl) (fun _ _ _ h => h) (.inl ⟨by kernel_rfl, ?_⟩) HSq.out ?_
                · intro xw xf
                  go_simp)
              (
                refine wpAnyH_takeM (i := 2) (v := .pointer (some ⟨h, 0, none⟩)) 63 rfl rfl (by kernel_rfl) (by kernel_rfl) (by kernel_rfl) (fun _ _ _ h => h) (.inl ⟨by kernel_rfl, ?_⟩) HSq.out ?_
                · intro xw xf
                  go_simp)
              (
                refine wpAnyH_takeM (i := 3) (v := .pointer (some ⟨h, 2, none⟩)) 64 rfl rfl (by kernel_rfl) (by kernel_rfl) (by kernel_rfl) (fun _ _ _ h => h) (.inl ⟨by kernel_rfl, ?_⟩) HSq.out ?_
                · intro xw xf
                  go_simp)
              (
                refine wpAnyH_takeM (i := 4) (v := .int .i64 n3) 65 rfl rfl (by kernel_rfl) (by kernel_rfl) (by kernel_rfl) (fun _ _ _ h => h) (.inl ⟨by kernel_rfl, ?_⟩) HSq.out ?_
                · intro xw xf
                  have xc := HQc.out xw xf
                  go_simp)
              change wpAnyH _ _ _ _ _ _ _ _ (World.drew w11)
              have HFd := Lib.hid (show Fr (fun _ => False) w11 (World.drew w11) from (Fr.refl _ w11).drew)
              obtain ⟨wd, hwd⟩ : ∃ wd, World.drew w11 = wd := ⟨_, rfl⟩
              rw [hwd]
              rw [hwd] at HFd
              clear hwd HSq
              have HWr := Lib.hid (HZ11.out.fr HFd.out (fun e => e))
              obtain ⟨e0, e1, e2⟩ := HWr.out.three
              have z0 := HWr.out.frozen 0
              have z1 := HWr.out.frozen 1
              have z2 := HWr.out.frozen 2
              have HSs := Lib.hid (show Fr (fun j => j = w.heap.size) w11 (((wd.setCell ⟨w.heap.size, 0, none⟩ (.int .i64 0)).setCell ⟨w.heap.size, 1, none⟩ (.int .i64 0)).setCell ⟨w.heap.size, 2, none⟩ (.slice none 0 0)) from (HFd.out.mono (fun _ _ e => e.elim)).trans (setScr_fr wd w.heap.size _ _ _) (fun _ _ e => e))
              (
                try simp only [List.setIfInBounds_toArray, List.set_cons_succ, List.set_cons_zero]
                refine wpAnyH_all (rs := [5]) (by kernel_rfl) (by simp) ?_
                intro i hi
                simp only [List.mem_cons, List.not_mem_nil, or_false] at hi
                subst hi)
              refine wpOp_step rfl (fun K hK => ?_)
              go_simp
              refine hK _ _ ⟨HSs.out, ?_⟩
              clear hK K
              (
                try simp only [List.setIfInBounds_toArray, List.set_cons_succ, List.set_cons_zero]
                refine wpAnyH_all (rs := [6]) (by kernel_rfl) (by simp) ?_
                intro i hi
                simp only [List.mem_cons, List.not_mem_nil, or_false] at hi
                subst hi)
              refine wpOp_step rfl (fun K hK => ?_)
              go_simp
              refine hK _ _ ⟨HSs.out, ?_⟩
              clear hK K
              refine wpAnyH_done (by kernel_rfl) ?_ _
              go_wp2_with fail)
            (
              refine bodyPost_ret (v := .tuple #[.agg #[.int .i64 0, .int .i64 0, .slice none 0 0], .int .i64 n3]) (results_cell_slot (p := 2) (u := 3) rfl _ _ _ _ _ _ rfl (setScr_whole HWr.out) Tryz.underlying94 rfl (by kernel_rfl)) rfl ?_)
            exact HFin.out wd n3 (HFw11.out.trans HFd.out (fun _ _ e => e.elim)) HDE.out
        · have hu1' : ((u : Int) == 1) = false := by simp; omega
          rw [if_neg hu1] at hT
          by_cases hu0 : u = 0
          · subst hu0
            rw [if_pos rfl] at hT
            rw [hT] at hX hok
            have hwn : IntKind.i64.wrap (f1 : Int) = f1 := by rw [IntKind.wrap_i64]; omega
            have HRw := Lib.hid (fun w' (r : Qd w' h A c bs f2 f3) => qRaw_any h A c bs f2 f3 f1 w' r (by omega) (by omega))
            unfold QRawPost at HRw
            obtain ⟨E, hE⟩ : ∃ E, rawErr bs.length f2 f3 f1 = E := ⟨_, rfl⟩
            obtain ⟨P, hP⟩ : ∃ P, rawAt bs.length f2 f3 f1 = P := ⟨_, rfl⟩
            obtain ⟨RB, hRB⟩ : ∃ RB, rawB bs f2 f3 f1 = RB := ⟨_, rfl⟩
            obtain ⟨K, hK⟩ : ∃ K, RB.length = K := ⟨_, rfl⟩
            have HKt := Lib.hid hK
            have HTk := Lib.hid (show tkN bs (f1, f2, f3) = if E ≠ 0 then (zD, 0, E) else if f1 = 0 then (zD, 0, 12) else (newO RB, P, 0) from by rw [← hE, ← hP, ← hRB]; rfl)
            have HEr := Lib.hid (show (f3 ≠ 0 → E = f3) ∧ (f3 = 0 → f1 = 0 → f2 ≤ bs.length → E = 0) ∧ (E = 0 → K = f1) from by
              rw [← hE, ← hK, ← hRB]
              refine ⟨fun h3 => ?_, fun h3 h1 h4 => ?_, fun h0 => ?_⟩
              · unfold rawErr
                rw [if_neg (by omega), hasErr_err h3]
              · subst h1; subst h3
                unfold rawErr
                rw [if_neg (by omega)]
                exact hasErr_ok (by omega)
              · unfold rawErr at h0
                rw [if_neg (by omega)] at h0
                obtain ⟨_, hle⟩ := hasErr_zero h0
                unfold rawB
                rw [if_neg (by omega), if_pos h0, List.length_take, List.length_drop]
                omega)
            rw [hE, hP, hRB] at HRw
            simp only [hK] at HRw
            have HXX := Lib.hid hX
            have HOk := Lib.hid hok
            clear hX hok hT HX hE hP hRB hK
            go_upto_region 12 with (go_at_call 60; refine HBg.out.mono ?_; rintro e w7 ⟨rfl, r7, f7⟩; have HQ7 := Lib.hid r7; have HF7 := Lib.hid (show Fr (fun k => k = h) wr w7 from f7); clear r7 f7)
            obtain ⟨w8, hw8⟩ : ∃ w8, w7.alloc (.cells #[.bool false, .int .i64 0, .int .i64 0, .slice none 0 0] 142) = w8 := ⟨_, rfl⟩
            rw [hw8]
            have HF78 := Lib.hid (show Fr (fun _ => False) w7 w8 by subst hw8; exact (Fr.refl _ _).alloc _)
            have HO8 := Lib.hid (show Whole w8 w7.heap.size 142 #[.bool false, .int .i64 0, .int .i64 0, .slice none 0 0] by subst hw8; exact Whole.new _ _ _)
            have HQ8 := Lib.hid (HQ7.out.fr HF78.out (fun e => e) (fun _ _ _ e => e))
            have HF8 := Lib.hid (HF7.out.trans HF78.out (fun _ _ e => e.elim))
            obtain ⟨ob, hob⟩ : ∃ ob, w7.heap.size = ob := ⟨_, rfl⟩
            have HS8 := Lib.hid (show w8.heap.size = ob + 1 from by subst hw8; rw [← hob]; simp)
            have HOb := Lib.hid (show h < ob ∧ wr.heap.size ≤ ob from by have := HF7.out.size; have := HF.out.size; have := HHb.out; omega)
            rw [hob] at HO8
            obtain ⟨t0, t1, t2, t3⟩ := HO8.out.four
            clear hw8
            go_upto_region 15 with (go_at_call 61; refine (HV1.out w8 HQ8.out).mono ?_; rintro e w9 ⟨rfl, r9, f9⟩; have HQ9 := Lib.hid r9; have HF89 := Lib.hid (show Fr (fun k => k = h) w8 w9 from f9); have HF9 := Lib.hid (HF8.out.trans HF89.out (fun _ _ e => e)); have HO9 := Lib.hid (HO8.out.fr HF89.out (fun e => by have := HOb.out; omega)); have x2 := HQ9.out.c2; clear r9 f9)
            have HZ9 := Lib.hid (HWq.out.fr HF9.out (fun e => by have := HHb.out; omega))
            have HFw9 := Lib.hid (HFw.out.trans HF9.out (fun i hi e => by have := HHb.out; omega))
            clear t0 t1 t2 t3
            by_cases hf3 : f3 = 0
            · subst hf3
              obtain ⟨t0, t1, t2, t3⟩ := HO9.out.four
              by_cases hn1 : f1 = 0
              · subst hn1
                have HD12 := Lib.hid (show R = ((0, 0, []), 12) from by
                  have h1 := HXX.out
                  have hE0 := HEr.out.2.1 rfl rfl HQ9.out.le
                  rw [show tkN bs (0, f2, 0) = (zD, 0, 12) from by rw [HTk.out, if_neg (by simp [hE0]), if_pos rfl], if_pos (by simp)] at h1
                  rw [HRD.out, ← h1, if_neg (by simp)])
                (
                  obtain ⟨e0, e1, e2⟩ := HZ9.out.three
                  have z0 := HZ9.out.frozen 0
                  have z1 := HZ9.out.frozen 1
                  have z2 := HZ9.out.frozen 2)
                go_wp2_with fail
                have HWr := HZ9
                (
                  refine bodyPost_ret (v := .tuple #[.agg #[.int .i64 0, .int .i64 0, .slice none 0 0], .int .i64 12]) (results_cell_slot (p := 2) (u := 3) rfl _ _ _ _ _ _ rfl (setScr_whole HWr.out) Tryz.underlying94 rfl (by kernel_rfl)) rfl ?_)
                exact HFin.out w9 12 HFw9.out HD12.out
              · have hn10 : ((f1 : Int) == 0) = false := by simp; exact hn1
                go_upto_region 24 with (go_at_call 62; refine (HRw.out w9 HQ9.out).mono ?_; rintro e w10 ⟨v10, rfl, o10, r10, f10⟩; have HQ10 := Lib.hid r10; have HF910 := Lib.hid (show Fr (fun k => k = h) w9 w10 from f10); have HF10 := Lib.hid (HF9.out.trans HF910.out (fun _ _ e => e)); have HO10 := Lib.hid (HO9.out.fr HF910.out (fun e => by have := HOb.out; omega)); have y3 : w10.cell? ⟨ob, 3, none⟩ = some (.slice none 0 0) := by { rw [HO10.out.cell]; rfl }; have u3 := HO10.out.frozen 3; obtain ⟨A6, c6, hv6, -, -⟩ := own_slice o10; subst hv6; have HO6 := Lib.hid o10; clear o10 r10 f10)
                obtain ⟨wt, hwt⟩ : ∃ wt, w10.setCell ⟨ob, 3, none⟩ (.slice A6 K c6) = wt := ⟨_, rfl⟩
                rw [hwt]
                have HF1011 := Lib.hid (show Fr (fun j => j = ob) w10 wt by subst hwt; exact Fr.setCell (S := fun j => j = ob) (p := ⟨ob, 3, none⟩) (Fr.refl _ w10) (fun _ => rfl) _)
                have HOt := Lib.hid (show Whole wt ob 142 #[.bool false, .int .i64 0, .int .i64 0, .slice A6 K c6] by subst hwt; exact HO10.out.set 3 _)
                have HQE := Lib.hid (HQ10.out.fr HF1011.out (fun e => by have := HOb.out; omega) (HAl6.out (fun j => j = ob) (fun j e => by have := HOb.out; have := HHb.out; omega)))
                have HFrt := Lib.hid (HF10.out.trans HF1011.out (fun i hi e => by have := HOb.out; omega))
                have HZt := Lib.hid (HWq.out.fr HFrt.out (fun e => by have := HHb.out; omega))
                have HWt := Lib.hid (HW.out.fr HFrt.out (fun e => by have := HHb.out; omega))
                have HFwt := Lib.hid (HFw.out.trans HFrt.out (fun i hi e => by have := HHb.out; omega))
                have HMt := Lib.hid (HM.out.frS HFrt.out (fun j e => by have := HHb.out; omega))
                have HFt := Lib.hid (show Fr (fun k => k = h ∨ k = sb ∨ w6.heap.size ≤ k) w6 wt from HF.out.trans HFrt.out (fun i hi e => .inl e))
                have x22 := HQE.out.c2
                clear hwt t0 t1 t2 t3 u3 y3 x2
                by_cases hE0 : E = 0
                · subst hE0
                  have hTT : tkN bs (f1, f2, 0) = (newO RB, P, 0) := by rw [HTk.out, if_neg (by simp), if_neg hn1]
                  have hKf := HEr.out.2.2 rfl
                  have HIt := Lib.hid (show (if left < (f1 : Int) then (([] : List DOp), (3 : Int)) else restD bs F1 P (left - (f1 : Int)) (opsO qs ++ [⟨false, 0, 0, RB⟩])) = D from by
                    have h1 := HXX.out
                    rw [hTT, if_neg (by simp)] at h1
                    rw [show (newO RB, P, (0 : Int)).1.size = (f1 : Int) from by rw [← hKf, ← HKt.out]; rfl] at h1
                    exact h1)
                  have HQt := HQE
                  have HRo := Lib.hid (own_fr HO6.out HF1011.out (fun k hk e => by have h1 := (World.ownsRow.lt HO6.out k hk).1; have := HF89.out.size; have := HS8.out; omega))
                  have HPt := Lib.hid (show (⟨⟨false, 0, 0, RB⟩, A6, c6⟩ : POp).Ok wt from by
                    obtain ⟨a1, a2, ha, hk1, hk2⟩ := own_slice HO6.out
                    injection ha with _ e2 e3
                    subst e3
                    exact ⟨⟨by simp only; omega, by simp only; omega⟩, ⟨by simp only; omega, by simp only; omega⟩, by simp only [HKt.out]; exact hk1, by unfold maxLen at hk2; simp only; omega, Lies.of_own HRo.out⟩)
                  have HPo := Lib.hid (show ∀ ad, (⟨⟨false, 0, 0, RB⟩, A6, c6⟩ : POp).B = some ad → ad.block < wt.heap.size ∧ Value.ownBlock (.slice Av LQ cv) ≠ some ad.block ∧ w6.heap.size ≤ ad.block from fun ad hA => by
                    have hob : Value.ownBlock (.slice A6 K c6) = some ad.block := by rw [show A6 = some ad from hA]; rfl
                    have h1 := World.ownsRow.lt HRo.out ad.block hob
                    have h2 := HF9.out.size
                    have h3 := HF.out.size
                    refine ⟨h1.2, fun e => ?_, by omega⟩
                    have := (World.ownsRow.lt HM.out.own _ e).2
                    omega)
                  clear HXX HOk hKf hTT
                  (
                    have hw9 : IntKind.i64.wrap (laid + (f1 : Int)) = laid + (f1 : Int) := by rw [IntKind.wrap_i64]; omega
                    obtain ⟨s0, s1, s2⟩ := HWt.out.three
                    obtain ⟨t0, t1, t2, t3⟩ := HOt.out.four
                    by_cases hls : left < (f1 : Int)
                    · have HD3 := Lib.hid (show R = ((0, 0, []), 3) from by rw [HRD.out, ← HIt.out, if_pos hls, if_neg (by simp)])
                      have hgt : (N1 : Int) < laid + (f1 : Int) := by omega
                      (
                        obtain ⟨e0, e1, e2⟩ := HZt.out.three
                        have z0 := HZt.out.frozen 0
                        have z1 := HZt.out.frozen 1
                        have z2 := HZt.out.frozen 2)
                      go_wp2_with fail
                      have HWr := HZt
                      (
                        refine bodyPost_ret (v := .tuple #[.agg #[.int .i64 0, .int .i64 0, .slice none 0 0], .int .i64 3]) (results_cell_slot (p := 2) (u := 3) rfl _ _ _ _ _ _ rfl (setScr_whole HWr.out) Tryz.underlying94 rfl (by kernel_rfl)) rfl ?_)
                      exact HFin.out wt 3 HFwt.out HD3.out
                    · have hgt : ¬ (N1 : Int) < laid + (f1 : Int) := by omega
                      have HI2 := Lib.hid (show restD bs F1 P (left - (f1 : Int)) (opsO qs ++ [⟨false, 0, 0, RB⟩]) = D from by rw [← HIt.out, if_neg hls])
                      have HSrc : Hid (∀ w : World, Src Tryz.prog 4 92 (.slice (some ⟨w.heap.size, 0, none⟩) 1 1) 1 [.bool false, .int .i64 0, .int .i64 0, .slice A6 K c6] (w.alloc (.cells #[.bool false, .int .i64 0, .int .i64 0, .slice A6 K c6] 142))) := Lib.hid (fun w => by
                        have := src_op w 92 142 Tryz.underlying92 ⟨⟨false, 0, 0, RB⟩, A6, c6⟩
                        simpa only [POp.cells, HKt.out] using this)
                      have hLQ4 : LQ ≤ 4000 := by omega
                      obtain ⟨xp, hxp⟩ : ∃ xp, flatP qs = xp := ⟨_, rfl⟩
                      have HXp := Lib.hid hxp
                      have HMo9 := Lib.hid (show wt.ownsRow w6.heap.size 142 4 (.slice Av LQ cv) LQ xp from by have := HMt.out.own; rwa [HLQ.out, hxp] at this)
                      clear hxp
                      go_wp2_with (first
                        | (at_builtin; refine wpList_append_row _ rfl (.tmp 104) (.tmp 106) 92 92 rfl w6.heap.size 142 i1 (.agg zeroO) 4 48 Tryz.underlying92 gi gz0 gz1 gz2 rfl _ LQ xp rfl (HMo9.out.alloc _) _ 1 _ rfl (HSrc.out _) (by unfold maxLen; omega) (by omega) (by have := HFt.out.size; simp; omega) ?_
                           intro v10 w10 o10 g10 at10
                           have HO10 := Lib.hid o10
                           have HF10 := Lib.hid (show Fr (fun j => Value.ownBlock (.slice Av LQ cv) = some j) wt w10 from ((Fr.refl _ wt).alloc _).grown g10 (fun j hj _ => hj))
                           have HA10 := Lib.hid (show v10.ownBlock = Value.ownBlock (.slice Av LQ cv) ∨ ∃ j, v10.ownBlock = some j ∧ wt.heap.size ≤ j from at10.imp id (fun e => ⟨_, e, by simp⟩))
                           obtain ⟨A10, k10, hv10, _, _⟩ := own_slice o10
                           subst hv10
                           have HW10 := Lib.hid (HWt.out.fr HF10.out (fun e => by have := (World.ownsRow.lt HMo9.out _ e).1; have := HHb.out; omega))
                           have e10 : w10.cell? ⟨sb, 2, none⟩ = some (.slice Av LQ cv) := by rw [HW10.out.cell]; rfl
                           have z10 : w10.frozen? ⟨sb, 2, none⟩ = false := HW10.out.frozen 2
                           clear o10 g10 at10))
                      go_roundw
                      case rel =>
                        have fset : Fr (fun j => j = sb) w10 (w10.setCell ⟨sb, 2, none⟩ (.slice A10 (LQ + 1) k10)) := Fr.setCell (S := fun j => j = sb) (p := ⟨sb, 2, none⟩) (Fr.refl _ w10) (fun _ => rfl) _
                        have hM10 : Mq w6 w10 (.slice A10 (LQ + 1) k10) (qs ++ [⟨⟨false, 0, 0, RB⟩, A6, c6⟩]) := by
                          refine Mq.push HMt.out HPt.out HPo.out (by rw [HLQ.out, HXp.out]; simpa only [POp.cells, HKt.out] using HO10.out) HF10.out HA10.out
                        have hQd : Qd (w10.setCell ⟨sb, 2, none⟩ (.slice A10 (LQ + 1) k10)) h A c bs P 0 := (HQt.out.fr HF10.out (fun e => by have := (World.ownsRow.lt HMo9.out _ e).1; have := HHb.out; omega) (HAl6.out (fun j => Value.ownBlock (.slice Av LQ cv) = some j) (fun j e => by have := (World.ownsRow.lt HMo9.out _ e).1; have := HHb.out; omega))).fr fset (fun e => by have := HHb.out; omega) (HAl6.out (fun j => j = sb) (fun j e => by have := HHb.out; omega))
                        refine ⟨P, _, qs ++ [⟨⟨false, 0, 0, RB⟩, A6, c6⟩], left - (f1 : Int), laid + (f1 : Int), rfl, by omega, by omega, by omega, ?_, Lib.hid hQd, Lib.hid (HW10.out.set 2 _), Lib.hid (hM10.frS fset (fun j e => by have := HHb.out; omega)), Lib.hid (by rw [opsO_append]; exact HI2.out), Lib.hid ?_⟩
                        · rw [List.length_append, HLQ.out]; simp; omega
                        · refine (HFt.out.trans HF10.out (fun i hi e => .inr (.inr (World.ownsRow.lt HMo9.out _ e).1))).trans fset (fun i hi e => .inr (.inl e))
                      case measure => simp [intOf]; omega)
                · have hE1 : (E != 0) = true := by simp; exact hE0
                  have HDE := Lib.hid (show R = ((0, 0, []), E) from by
                    have h1 := HXX.out
                    rw [show tkN bs (f1, f2, 0) = (zD, 0, E) from by rw [HTk.out, if_pos hE0], if_pos hE0] at h1
                    rw [HRD.out, ← h1, if_neg hE0])
                  clear HXX HOk
                  go_upto_region 25 with fail
                  (
                    have HQc := Lib.hid (show ∀ w', Fr (fun j => j = w.heap.size) wt w' → w'.cell? ⟨h, 2, none⟩ = some (.int .i64 E) from fun w' f => f.cell (HQE.out.c2) (fun e => HHe.out e))
                    refine wp_region_held (S := fun w' => Fr (fun j => j = w.heap.size) wt w') (by kernel_rfl) ?_
                    have HSq := Lib.hid (show Fr (fun j => j = w.heap.size) wt (World.drew wt) from (Fr.refl _ wt).drew)
                    (
                      refine wpAnyH_takeM (i := 0) (v := .agg #[.int .i64 0, .int .i64 0, .slice none 0 0]) 90 rfl rfl (by kernel_rfl) (by kernel_rfl) (by kernel_rfl) (fun _ _ _ h => h) (.inl ⟨by kernel_rfl, ?_⟩) HSq.out ?_
                      · intro xw xf
                        go_simp)
                    (
                      refine wpAnyH_takeM (i := 1) (v := .pointer (some ⟨h, 0, none⟩)) 91 rfl rfl (by kernel_rfl) (by kernel_rfl) (by kernel_rfl) (fun _ _ _ h => h) (.inl ⟨by kernel_rfl, ?_⟩) HSq.out ?_
                      · intro xw xf
                        go_simp)
                    (
                      refine wpAnyH_takeM (i := 2) (v := .pointer (some ⟨h, 0, none⟩)) 92 rfl rfl (by kernel_rfl) (by kernel_rfl) (by kernel_rfl) (fun _ _ _ h => h) (.inl ⟨by kernel_rfl, ?_⟩) HSq.out ?_
                      · intro xw xf
                        go_simp)
                    (
                      refine wpAnyH_takeM (i := 3) (v := .pointer (some ⟨h, 2, none⟩)) 93 rfl rfl (by kernel_rfl) (by kernel_rfl) (by kernel_rfl) (fun _ _ _ h => h) (.inl ⟨by kernel_rfl, ?_⟩) HSq.out ?_
                      · intro xw xf
                        go_simp)
                    (
                      refine wpAnyH_takeM (i := 4) (v := .int .i64 E) 94 rfl rfl (by kernel_rfl) (by kernel_rfl) (by kernel_rfl) (fun _ _ _ h => h) (.inl ⟨by kernel_rfl, ?_⟩) HSq.out ?_
                      · intro xw xf
                        have xc := HQc.out xw xf
                        go_simp)
                    change wpAnyH _ _ _ _ _ _ _ _ (World.drew wt)
                    have HFd := Lib.hid (show Fr (fun _ => False) wt (World.drew wt) from (Fr.refl _ wt).drew)
                    obtain ⟨wd, hwd⟩ : ∃ wd, World.drew wt = wd := ⟨_, rfl⟩
                    rw [hwd]
                    rw [hwd] at HFd
                    clear hwd HSq
                    have HWr := Lib.hid (HZt.out.fr HFd.out (fun e => e))
                    obtain ⟨e0, e1, e2⟩ := HWr.out.three
                    have z0 := HWr.out.frozen 0
                    have z1 := HWr.out.frozen 1
                    have z2 := HWr.out.frozen 2
                    have HSs := Lib.hid (show Fr (fun j => j = w.heap.size) wt (((wd.setCell ⟨w.heap.size, 0, none⟩ (.int .i64 0)).setCell ⟨w.heap.size, 1, none⟩ (.int .i64 0)).setCell ⟨w.heap.size, 2, none⟩ (.slice none 0 0)) from (HFd.out.mono (fun _ _ e => e.elim)).trans (setScr_fr wd w.heap.size _ _ _) (fun _ _ e => e))
                    (
                      try simp only [List.setIfInBounds_toArray, List.set_cons_succ, List.set_cons_zero]
                      refine wpAnyH_all (rs := [5]) (by kernel_rfl) (by simp) ?_
                      intro i hi
                      simp only [List.mem_cons, List.not_mem_nil, or_false] at hi
                      subst hi)
                    refine wpOp_step rfl (fun K hK => ?_)
                    go_simp
                    refine hK _ _ ⟨HSs.out, ?_⟩
                    clear hK K
                    (
                      try simp only [List.setIfInBounds_toArray, List.set_cons_succ, List.set_cons_zero]
                      refine wpAnyH_all (rs := [6]) (by kernel_rfl) (by simp) ?_
                      intro i hi
                      simp only [List.mem_cons, List.not_mem_nil, or_false] at hi
                      subst hi)
                    refine wpOp_step rfl (fun K hK => ?_)
                    go_simp
                    refine hK _ _ ⟨HSs.out, ?_⟩
                    clear hK K
                    refine wpAnyH_done (by kernel_rfl) ?_ _
                    go_wp2_with fail)
                  (
                    refine bodyPost_ret (v := .tuple #[.agg #[.int .i64 0, .int .i64 0, .slice none 0 0], .int .i64 E]) (results_cell_slot (p := 2) (u := 3) rfl _ _ _ _ _ _ rfl (setScr_whole HWr.out) Tryz.underlying94 rfl (by kernel_rfl)) rfl ?_)
                  exact HFin.out wd E (HFwt.out.trans HFd.out (fun _ _ e => e.elim)) HDE.out
            · have hn30 : (f3 != 0) = true := by simp; exact hf3
              have HDE := Lib.hid (show R = ((0, 0, []), f3) from by
                have h1 := HXX.out
                have hE0 := HEr.out.1 hf3
                rw [show tkN bs (f1, f2, f3) = (zD, 0, f3) from by rw [HTk.out, hE0, if_pos hf3], if_pos hf3] at h1
                rw [HRD.out, ← h1, if_neg hf3])
              clear HXX HOk
              go_upto_region 16 with fail
              (
                have HQc := Lib.hid (show ∀ w', Fr (fun j => j = w.heap.size) w9 w' → w'.cell? ⟨h, 2, none⟩ = some (.int .i64 f3) from fun w' f => f.cell (HQ9.out.c2) (fun e => HHe.out e))
                refine wp_region_held (S := fun w' => Fr (fun j => j = w.heap.size) w9 w') (by kernel_rfl) ?_
                have HSq := Lib.hid (show Fr (fun j => j = w.heap.size) w9 (World.drew w9) from (Fr.refl _ w9).drew)
                (
                  refine wpAnyH_takeM (i := 0) (v := .agg #[.int .i64 0, .int .i64 0, .slice none 0 0]) 61 rfl rfl (by kernel_rfl) (by kernel_rfl) (by kernel_rfl) (fun _ _ _ h => h) (.inl ⟨by kernel_rfl, ?_⟩) HSq.out ?_
                  · intro xw xf
                    go_simp)
                (
                  refine wpAnyH_takeM (i := 1) (v := .pointer (some ⟨h, 0, none⟩)) 62 rfl rfl (by kernel_rfl) (by kernel_rfl) (by kernel_rfl) (fun _ _ _ h => h) (.inl ⟨by kernel_rfl, ?_⟩) HSq.out ?_
                  · intro xw xf
                    go_simp)
                (
                  refine wpAnyH_takeM (i := 2) (v := .pointer (some ⟨h, 0, none⟩)) 63 rfl rfl (by kernel_rfl) (by kernel_rfl) (by kernel_rfl) (fun _ _ _ h => h) (.inl ⟨by kernel_rfl, ?_⟩) HSq.out ?_
                  · intro xw xf
                    go_simp)
                (
                  refine wpAnyH_takeM (i := 3) (v := .pointer (some ⟨h, 2, none⟩)) 64 rfl rfl (by kernel_rfl) (by kernel_rfl) (by kernel_rfl) (fun _ _ _ h => h) (.inl ⟨by kernel_rfl, ?_⟩) HSq.out ?_
                  · intro xw xf
                    go_simp)
                (
                  refine wpAnyH_takeM (i := 4) (v := .int .i64 f3) 65 rfl rfl (by kernel_rfl) (by kernel_rfl) (by kernel_rfl) (fun _ _ _ h => h) (.inl ⟨by kernel_rfl, ?_⟩) HSq.out ?_
                  · intro xw xf
                    have xc := HQc.out xw xf
                    go_simp)
                change wpAnyH _ _ _ _ _ _ _ _ (World.drew w9)
                have HFd := Lib.hid (show Fr (fun _ => False) w9 (World.drew w9) from (Fr.refl _ w9).drew)
                obtain ⟨wd, hwd⟩ : ∃ wd, World.drew w9 = wd := ⟨_, rfl⟩
                rw [hwd]
                rw [hwd] at HFd
                clear hwd HSq
                have HWr := Lib.hid (HZ9.out.fr HFd.out (fun e => e))
                obtain ⟨e0, e1, e2⟩ := HWr.out.three
                have z0 := HWr.out.frozen 0
                have z1 := HWr.out.frozen 1
                have z2 := HWr.out.frozen 2
                have HSs := Lib.hid (show Fr (fun j => j = w.heap.size) w9 (((wd.setCell ⟨w.heap.size, 0, none⟩ (.int .i64 0)).setCell ⟨w.heap.size, 1, none⟩ (.int .i64 0)).setCell ⟨w.heap.size, 2, none⟩ (.slice none 0 0)) from (HFd.out.mono (fun _ _ e => e.elim)).trans (setScr_fr wd w.heap.size _ _ _) (fun _ _ e => e))
                (
                  try simp only [List.setIfInBounds_toArray, List.set_cons_succ, List.set_cons_zero]
                  refine wpAnyH_all (rs := [5]) (by kernel_rfl) (by simp) ?_
                  intro i hi
                  simp only [List.mem_cons, List.not_mem_nil, or_false] at hi
                  subst hi)
                refine wpOp_step rfl (fun K hK => ?_)
                go_simp
                refine hK _ _ ⟨HSs.out, ?_⟩
                clear hK K
                (
                  try simp only [List.setIfInBounds_toArray, List.set_cons_succ, List.set_cons_zero]
                  refine wpAnyH_all (rs := [6]) (by kernel_rfl) (by simp) ?_
                  intro i hi
                  simp only [List.mem_cons, List.not_mem_nil, or_false] at hi
                  subst hi)
                refine wpOp_step rfl (fun K hK => ?_)
                go_simp
                refine hK _ _ ⟨HSs.out, ?_⟩
                clear hK K
                refine wpAnyH_done (by kernel_rfl) ?_ _
                go_wp2_with fail)
              (
                refine bodyPost_ret (v := .tuple #[.agg #[.int .i64 0, .int .i64 0, .slice none 0 0], .int .i64 f3]) (results_cell_slot (p := 2) (u := 3) rfl _ _ _ _ _ _ rfl (setScr_whole HWr.out) Tryz.underlying94 rfl (by kernel_rfl)) rfl ?_)
              exact HFin.out wd f3 (HFw9.out.trans HFd.out (fun _ _ e => e.elim)) HDE.out
          · rw [if_neg hu0] at hT
            rw [hT, if_pos (by simp)] at hX
            have HD19 := Lib.hid (show R = ((0, 0, []), 19) from by rw [HRD.out, ← hX, if_neg (by simp)])
            have hu2 : (1 : Int) < u := by omega
            clear hX hok hT HX
            go_wp2_with (go_at_call 60; refine HBg.out.mono ?_; rintro e w7 ⟨rfl, r7, f7⟩; have HF7 := Lib.hid (show Fr (fun k => k = h) wr w7 from f7); have HZ7 := Lib.hid (HWq.out.fr HF7.out (fun e => by have := HHb.out; omega)); obtain ⟨e0, e1, e2⟩ := HZ7.out.three; have z0 := HZ7.out.frozen 0; have z1 := HZ7.out.frozen 1; have z2 := HZ7.out.frozen 2; clear r7 f7)
            have HWr := HZ7
            (
              refine bodyPost_ret (v := .tuple #[.agg #[.int .i64 0, .int .i64 0, .slice none 0 0], .int .i64 19]) (results_cell_slot (p := 2) (u := 3) rfl _ _ _ _ _ _ rfl (setScr_whole HWr.out) Tryz.underlying94 rfl (by kernel_rfl)) rfl ?_)
            exact HFin.out w7 19 (HFw.out.trans HF7.out (fun i hi e => by have := HHb.out; omega)) HD19.out
      · obtain rfl : L = p := by omega
        have hX := HX.out
        rw [restD_end (by rw [HL.out]; omega)] at hX
        have HDl := Lib.hid hX
        clear hX HX
        obtain ⟨s0, s1, s2⟩ := HW.out.three
        (
          obtain ⟨e0, e1, e2⟩ := HWq.out.three
          have z0 := HWq.out.frozen 0
          have z1 := HWq.out.frozen 1
          have z2 := HWq.out.frozen 2)
        by_cases hl : 0 < left
        · have hl' : laid < (N1 : Int) := by omega
          have HD10 := Lib.hid (show R = ((0, 0, []), 10) from by rw [HRD.out, ← HDl.out, if_pos hl, if_neg (by simp)])
          go_wp2_with fail
          have HWr := HWq
          (
            refine bodyPost_ret (v := .tuple #[.agg #[.int .i64 0, .int .i64 0, .slice none 0 0], .int .i64 10]) (results_cell_slot (p := 2) (u := 3) rfl _ _ _ _ _ _ rfl (setScr_whole HWr.out) Tryz.underlying94 rfl (by kernel_rfl)) rfl ?_)
          exact HFin.out wr 10 HFw.out HD10.out
        · have hl' : ¬ laid < (N1 : Int) := by omega
          have HD0 := Lib.hid (show R = (((F1 : Int), (N1 : Int), opsO qs), 0) from by rw [HRD.out, ← HDl.out, if_neg hl, if_pos rfl])
          go_wp2_with fail
          have HWr := HWq
          (
            refine bodyPost_ret (v := .tuple #[.agg #[.int .i64 F1, .int .i64 N1, .slice Av LQ cv], .int .i64 0]) (results_cell_slot (p := 2) (u := 3) rfl _ _ _ _ _ _ rfl (setScr_whole HWr.out) Tryz.underlying94 rfl (by kernel_rfl)) rfl ?_)
          have hD := HD0.out
          subst hD
          obtain ⟨A9, c9, hv9, sc9, -⟩ := (HM.out.frS (setScr_fr wr w.heap.size (.int .i64 F1) (.int .i64 N1) (.slice Av LQ cv)) (fun j e => by have := HHb.out; omega)).slice
          injection hv9 with e1 e2 e3
          subst e1; subst e3
          refine ⟨Av, cv, qs, by rw [HLQ.out], sc9, rfl, (HFw.out.trans (setScr_fr wr w.heap.size _ _ _) (fun i hi e => by omega)).below (fun i hi e => by omega)⟩
  · have hN30 : (N3 != 0) = true := by simp; exact hN3
    go_upto_region 5 with fail
    (
      have HQc := Lib.hid (show ∀ w', Fr (fun j => j = w.heap.size) w6 w' → w'.cell? ⟨h, 2, none⟩ = some (.int .i64 N3) from fun w' f => f.cell (HQ6.out.c2) (fun e => HHe.out e))
      refine wp_region_held (S := fun w' => Fr (fun j => j = w.heap.size) w6 w') (by kernel_rfl) ?_
      have HSq := Lib.hid (show Fr (fun j => j = w.heap.size) w6 (World.drew w6) from (Fr.refl _ w6).drew)
      (
        refine wpAnyH_takeM (i := 0) (v := .agg #[.int .i64 0, .int .i64 0, .slice none 0 0]) 26 rfl rfl (by kernel_rfl) (by kernel_rfl) (by kernel_rfl) (fun _ _ _ h => h) (.inl ⟨by kernel_rfl, ?_⟩) HSq.out ?_
        · intro xw xf
          go_simp)
      (
        refine wpAnyH_takeM (i := 1) (v := .pointer (some ⟨h, 0, none⟩)) 27 rfl rfl (by kernel_rfl) (by kernel_rfl) (by kernel_rfl) (fun _ _ _ h => h) (.inl ⟨by kernel_rfl, ?_⟩) HSq.out ?_
        · intro xw xf
          go_simp)
      (
        refine wpAnyH_takeM (i := 2) (v := .pointer (some ⟨h, 0, none⟩)) 28 rfl rfl (by kernel_rfl) (by kernel_rfl) (by kernel_rfl) (fun _ _ _ h => h) (.inl ⟨by kernel_rfl, ?_⟩) HSq.out ?_
        · intro xw xf
          go_simp)
      (
        refine wpAnyH_takeM (i := 3) (v := .pointer (some ⟨h, 2, none⟩)) 29 rfl rfl (by kernel_rfl) (by kernel_rfl) (by kernel_rfl) (fun _ _ _ h => h) (.inl ⟨by kernel_rfl, ?_⟩) HSq.out ?_
        · intro xw xf
          go_simp)
      (
        refine wpAnyH_takeM (i := 4) (v := .int .i64 N3) 30 rfl rfl (by kernel_rfl) (by kernel_rfl) (by kernel_rfl) (fun _ _ _ h => h) (.inl ⟨by kernel_rfl, ?_⟩) HSq.out ?_
        · intro xw xf
          have xc := HQc.out xw xf
          go_simp)
      change wpAnyH _ _ _ _ _ _ _ _ (World.drew w6)
      have HFd := Lib.hid (show Fr (fun _ => False) w6 (World.drew w6) from (Fr.refl _ w6).drew)
      obtain ⟨wd, hwd⟩ : ∃ wd, World.drew w6 = wd := ⟨_, rfl⟩
      rw [hwd]
      rw [hwd] at HFd
      clear hwd HSq
      have HWr := Lib.hid (HWr.out.fr HFd.out (fun e => e))
      obtain ⟨e0, e1, e2⟩ := HWr.out.three
      have z0 := HWr.out.frozen 0
      have z1 := HWr.out.frozen 1
      have z2 := HWr.out.frozen 2
      have HSs := Lib.hid (show Fr (fun j => j = w.heap.size) w6 (((wd.setCell ⟨w.heap.size, 0, none⟩ (.int .i64 0)).setCell ⟨w.heap.size, 1, none⟩ (.int .i64 0)).setCell ⟨w.heap.size, 2, none⟩ (.slice none 0 0)) from (HFd.out.mono (fun _ _ e => e.elim)).trans (setScr_fr wd w.heap.size _ _ _) (fun _ _ e => e))
      (
        try simp only [List.setIfInBounds_toArray, List.set_cons_succ, List.set_cons_zero]
        refine wpAnyH_all (rs := [5]) (by kernel_rfl) (by simp) ?_
        intro i hi
        simp only [List.mem_cons, List.not_mem_nil, or_false] at hi
        subst hi)
      refine wpOp_step rfl (fun K hK => ?_)
      go_simp
      refine hK _ _ ⟨HSs.out, ?_⟩
      clear hK K
      (
        try simp only [List.setIfInBounds_toArray, List.set_cons_succ, List.set_cons_zero]
        refine wpAnyH_all (rs := [6]) (by kernel_rfl) (by simp) ?_
        intro i hi
        simp only [List.mem_cons, List.not_mem_nil, or_false] at hi
        subst hi)
      refine wpOp_step rfl (fun K hK => ?_)
      go_simp
      refine hK _ _ ⟨HSs.out, ?_⟩
      clear hK K
      refine wpAnyH_done (by kernel_rfl) ?_ _
      go_wp2_with fail)
    (
      refine bodyPost_ret (v := .tuple #[.agg #[.int .i64 0, .int .i64 0, .slice none 0 0], .int .i64 N3]) (results_cell_slot (p := 2) (u := 3) rfl _ _ _ _ _ _ rfl (setScr_whole HWr.out) Tryz.underlying94 rfl (by kernel_rfl)) rfl ?_)
    exact HFin.out wd N3 (HFe.out.trans HFd.out (fun _ _ e => e.elim)) (by rw [HR.out]; unfold readT; rw [if_pos hN3])
end Go.Proofs.YtkaeoflgnnlbeaaGreatDoor

/- What is proved: a script in memory of its own, as the law makes it. Conditions: the ops' cells are there; at most 400 ops; no row of bytes is longer than any machine's. -/
import Derived.Test.YthjfkeploofblaaDef
import Derived.Test.YthjfkeploofblaaDem
import Derived.OrdersHeld
import Derived.Test.YthjfkeploofblaaDf
namespace Go.Proofs.Ythjfkeploofblaa
open Go.RowKit
set_option linter.unusedVariables false

/-- Ops in a row of the call's own; their bytes too. -/
structure Ml (w0 w : World) (v : Value) (ps : List POp) : Prop where
  own : w.ownsRow w0.heap.size 57 4 v ps.length (flatP ps)
  ok : ∀ p ∈ ps, p.Ok w
  old : ∀ p ∈ ps, ∀ ad, p.B = some ad → ad.block < w.heap.size ∧ v.ownBlock ≠ some ad.block ∧ w0.heap.size ≤ ad.block
theorem Ml.nil (w : World) : Ml w w (.slice none 0 0) [] := ⟨World.ownsRow_nil _ _ _ _, by simp, by simp⟩
theorem Ml.frS {S : Nat → Prop} {w0 w w' : World} {v : Value} {ps : List POp} (h : Ml w0 w v ps) (f : Fr S w w') (hS : ∀ j, S j → j < w0.heap.size) : Ml w0 w' v ps := by
  refine ⟨own_fr h.own f (fun k hk hs => ?_), fun p hp => ?_, fun p hp ad hA => ⟨Nat.lt_of_lt_of_le (h.old p hp ad hA).1 f.size, (h.old p hp ad hA).2⟩⟩
  · have h1 := (World.ownsRow.lt h.own k hk).1
    have h2 := hS k hs
    omega
  · have h0 := h.ok p hp
    exact ⟨h0.f, h0.n, h0.le, h0.cap, h0.lies.fr f (fun ad hA hs => by
      have h1 := (h.old p hp ad hA).2.2
      have h2 := hS _ hs
      omega)⟩
theorem Ml.fr {w0 w w' : World} {v : Value} {ps : List POp} (h : Ml w0 w v ps) (f : Fr (fun _ => False) w w') : Ml w0 w' v ps := h.frS f (fun _ e => e.elim)
theorem Ml.push {w0 w w6 : World} {v v6 : Value} {ps : List POp} {p : POp} (h : Ml w0 w v ps) (hp : p.Ok w) (hpo : ∀ ad, p.B = some ad → ad.block < w.heap.size ∧ v.ownBlock ≠ some ad.block ∧ w0.heap.size ≤ ad.block)
    (o6 : w6.ownsRow w0.heap.size 57 4 v6 (ps.length + 1) (flatP ps ++ p.cells)) (f6 : Fr (fun j => v.ownBlock = some j) w w6)
    (hat : v6.ownBlock = v.ownBlock ∨ ∃ j, v6.ownBlock = some j ∧ w.heap.size ≤ j) : Ml w0 w6 v6 (ps ++ [p]) := by
  have hall : ∀ q ∈ ps ++ [p], q.Ok w ∧ ∀ ad, q.B = some ad → ad.block < w.heap.size ∧ v.ownBlock ≠ some ad.block ∧ w0.heap.size ≤ ad.block := fun q hq => by
    rcases List.mem_append.1 hq with h1 | h1
    · exact ⟨h.ok q h1, h.old q h1⟩
    · rw [List.mem_singleton.1 h1]; exact ⟨hp, hpo⟩
  refine ⟨by rw [List.length_append, flatP_append, flatP_one]; exact o6, fun q hq => ?_, fun q hq ad hA => ?_⟩
  · obtain ⟨h0, h1⟩ := hall q hq
    exact ⟨h0.f, h0.n, h0.le, h0.cap, h0.lies.fr f6 (fun ad hA => (h1 ad hA).2.1)⟩
  · obtain ⟨h2, h3, h33⟩ := (hall q hq).2 ad hA
    refine ⟨Nat.lt_of_lt_of_le h2 f6.size, ?_, h33⟩
    rcases hat with h4 | ⟨j, h4, h5⟩
    · rw [h4]; exact h3
    · rw [h4]; intro e; injection e with e; omega
theorem Ml.slice {w0 w : World} {v : Value} {ps : List POp} (h : Ml w0 w v ps) : ∃ A c, v = .slice A ps.length c ∧ Scr w A c ps ∧ ∀ ad, A = some ad → w0.heap.size ≤ ad.block := OwnP.scr h.own h.ok

set_option maxHeartbeats 12800000 in
set_option maxRecDepth 100000 in
theorem own9_any (b t : Int) (A : Option Addr) (c : Nat) (ps : List POp) (hl : ps.length ≤ 400) (hbs : ∀ p ∈ ps, p.o.b.length ≤ 140737488351232) (w : World) (h : Scr w A c ps) :
    Calls Try.prog 22 #[.agg #[.int .i64 b, .int .i64 t, .slice A ps.length c]] w fun e w' => ∃ A' c' qs, e = .returned (.agg #[.int .i64 b, .int .i64 t, .slice A' ps.length c']) ∧ Scr w' A' c' qs ∧ opsO qs = opsO ps ∧ Below w.heap.size w w' := by
  obtain ⟨L, hL⟩ : ∃ L, ps.length = L := ⟨_, rfl⟩
  have HL := Lib.hid hL
  have hLc : L ≤ 400 := by omega
  rw [hL]
  obtain ⟨w1, hw1⟩ : ∃ w1, w.alloc (.cells #[.int .i64 b, .int .i64 t, .slice A L c] 34) = w1 := ⟨_, rfl⟩
  obtain ⟨w2, hw2⟩ : ∃ w2, w1.alloc (.cells #[.int .i64 0, .int .i64 0, .slice none 0 0] 24) = w2 := ⟨_, rfl⟩
  obtain ⟨w3, hw3⟩ : ∃ w3, w2.alloc (.cells #[.int .i64 b, .int .i64 t, .slice none 0 0] 24) = w3 := ⟨_, rfl⟩
  have F1 : Fr (fun _ => False) w w1 := by subst hw1; exact (Fr.refl _ _).alloc _
  have F2 : Fr (fun _ => False) w1 w2 := by subst hw2; exact (Fr.refl _ _).alloc _
  have F3 : Fr (fun _ => False) w2 w3 := by subst hw3; exact (Fr.refl _ _).alloc _
  have hs1 : w1.heap.size = w.heap.size + 1 := by subst hw1; simp
  have hs2 : w2.heap.size = w1.heap.size + 1 := by subst hw2; simp
  have hs3 : w3.heap.size = w2.heap.size + 1 := by subst hw3; simp
  have S1 : SAt w1 w.heap.size 34 b t (.slice A L c) := by subst hw1; exact SAt.new w 34 b t _
  have W3 : Whole w3 w2.heap.size 24 #[.int .i64 b, .int .i64 t, .slice none 0 0] := by subst hw3; exact Whole.new _ _ _
  have W2 : Whole w3 w1.heap.size 24 #[.int .i64 0, .int .i64 0, .slice none 0 0] := Whole.fr (by subst hw2; exact Whole.new _ _ _) F3 (fun e => e)
  have F03 : Fr (fun _ => False) w w3 := (F1.trans F2 (fun _ _ e => e)).trans F3 (fun _ _ e => e)
  have S3 : SAt w3 w.heap.size 34 b t (.slice A L c) := (S1.fr F2).fr F3
  obtain ⟨a0, a1, a2⟩ := (S1.fr F2).cells
  have HS3 := Lib.hid S3
  have HW2 := Lib.hid W2
  have HF03 := Lib.hid F03
  have HSc := Lib.hid h
  have HS123 := Lib.hid (show w.heap.size < w2.heap.size ∧ w1.heap.size < w2.heap.size ∧ w2.heap.size < w3.heap.size ∧ w.heap.size < w1.heap.size from ⟨by omega, by omega, by omega, by omega⟩)
  obtain ⟨i0, hi, hz0, hz1, hz2⟩ := info_parts infoDO
  obtain ⟨i1, gi, gz0, gz1, gz2⟩ := info_parts info_u8
  have HBs := Lib.hid hbs
  clear F1 F2 F3 hs1 hs2 hs3 S1 S3 F03 h hL W2 hbs
  have HH3 := Lib.hid hw3
  clear hw3
  go_enter Try.func22, Try.ntmps22
  go_wp2_with fail
  rw [HH3.out]
  go_loopw [4] (fun i wr => ∃ (k : Nat) (v : Value) (qs : List POp), k ≤ L ∧ i = .int .i64 k ∧ Hid (Whole wr w2.heap.size 24 #[.int .i64 b, .int .i64 t, v]) ∧ Hid (Ml w3 wr v qs) ∧ Hid (opsO qs = (opsO ps).take k) ∧ Hid (Fr (fun k => k = w2.heap.size ∨ w3.heap.size ≤ k) w3 wr)) (fun i _ => L - (intOf i).toNat)
  case atStart => exact ⟨0, .slice none 0 0, [], by omega, rfl, Lib.hid W3, Lib.hid (Ml.nil w3), Lib.hid rfl, Lib.hid (Fr.refl _ _)⟩
  case round =>
    obtain ⟨k, v, qs, hk, rfl, HW, HM, HQ, HF⟩ := hrel
    have hk1 : (0 : Int) ≤ k := by omega
    have hS : SAt wr w.heap.size 34 b t (.slice A L c) := ⟨HS3.out.whole.fr HF.out (fun e => by have := HS123.out; omega)⟩
    have HSr := Lib.hid hS
    obtain ⟨s0, s1, s2⟩ := hS.cells
    clear hS
    have hql : qs.length = k := by
      have h1 := congrArg List.length HQ.out
      have h2 := HL.out
      simp [opsO] at h1
      omega
    have HQl := Lib.hid hql
    by_cases hlt : k < L
    · have hk2 : (k : Int) < L := by omega
      obtain ⟨p, hp⟩ : ∃ p, ps[k]? = some p := ⟨ps[k]'(by rw [HL.out]; exact hlt), List.getElem?_eq_getElem (by rw [HL.out]; exact hlt)⟩
      obtain ⟨ab, ao, rfl⟩ := HSc.out.addr (k := k) (by rw [HL.out]; exact hlt)
      have hab : ab < w.heap.size := World.block_lt_of_cell? _ _ (HSc.out.cells hp).1
      have tr : ∀ {B j : Nat} {u : Value}, B < w.heap.size → w.cell? ⟨B, j, none⟩ = some u → wr.cell? ⟨B, j, none⟩ = some u := fun hB hc => HF.out.cell (HF03.out.cell hc (fun e => e)) (fun e => by have := HS123.out; simp at e; omega)
      have d0 := tr hab (HSc.out.cells hp).1
      have d1 := tr hab (HSc.out.cells hp).2.1
      have d2 := tr hab (HSc.out.cells hp).2.2.1
      have d3 := tr hab (HSc.out.cells hp).2.2.2
      have hok := HSc.out.at_ok hp
      have hlies : Lies wr p.B (bytesV p.o.b) := by
        rcases hok.lies with h0 | ⟨b', o', hB', hcl⟩
        · exact .inl h0
        · by_cases hb0 : p.o.b = []
          · rw [hb0]; exact .inl rfl
          · obtain ⟨q, l, hql⟩ := List.exists_cons_of_ne_nil hb0
            have hbk : b' < w.heap.size := World.block_lt_of_cell? w ⟨b', o' + 0, none⟩ (hcl 0 (byteV q) (by rw [hql]; rfl))
            exact .inr ⟨b', o', hB', fun j u hu => tr hbk (hcl j u hu)⟩
      have hbl := HBs.out p (List.mem_of_getElem? hp)
      have HTk := Lib.hid (show (opsO ps).take (k + 1) = (opsO ps).take k ++ [p.o] from by
        have hk' : k < (opsO ps).length := by simp [opsO]; have := (List.getElem?_eq_some_iff.1 hp).1; exact this
        rw [List.take_succ_eq_append_getElem hk']
        have := (List.getElem?_eq_some_iff.1 hp).2
        simp [opsO, this])
      have HNum := Lib.hid (And.intro hok.f hok.n)
      clear tr hp hok hql
      obtain ⟨⟨cp, f, n, bs⟩, B, pc⟩ := p
      obtain ⟨BL, hBL⟩ : ∃ BL, bs.length = BL := ⟨_, rfl⟩
      have HBL := Lib.hid hBL
      simp only [hBL] at d0 d1 d2 d3 hbl hlies
      obtain ⟨w4, hw4⟩ : ∃ w4, wr.alloc (.cells #[.bool cp, .int .i64 f, .int .i64 n, .slice B BL pc] 66) = w4 := ⟨_, rfl⟩
      have HF4 := Lib.hid (show Fr (fun _ => False) wr w4 by subst hw4; exact (Fr.refl _ _).alloc _)
      have W4 : Whole w4 wr.heap.size 66 #[.bool cp, .int .i64 f, .int .i64 n, .slice B BL pc] := by subst hw4; exact Whole.new _ _ _
      have HW4 := Lib.hid (HW.out.fr HF4.out (fun e => e))
      have HM4 := Lib.hid (HM.out.fr HF4.out)
      have HLi := Lib.hid (hlies.fr HF4.out (fun _ _ e => e))
      obtain ⟨Av, cv, hv, -⟩ := Ml.slice HM.out
      subst hv
      rw [HQl.out] at HW4 HM4 HM HW
      have hgn : wr.heap.size ≠ w2.heap.size := by have := HW.out.lt; omega
      have hgo : Value.ownBlock (.slice Av k cv) ≠ some w2.heap.size := fun e => by
        have h1 := HM.out.own
        rw [HQl.out] at h1
        have := (World.ownsRow.lt h1 _ e).1
        have := HS123.out
        omega
      have hgw : Value.ownBlock (.slice Av k cv) ≠ some wr.heap.size := fun e => by
        have h1 := HM.out.own
        rw [HQl.out] at h1
        have := (World.ownsRow.lt h1 _ e).2
        omega
      have HG := Lib.hid (And.intro hgn (And.intro hgo hgw))
      obtain ⟨SS, hSS⟩ : ∃ SS : Nat → Prop, SS = fun j => Value.ownBlock (.slice Av k cv) = some j ∨ j = w2.heap.size := ⟨_, rfl⟩
      have HSn : Hid (¬ SS wr.heap.size) := Lib.hid (fun e => by
        rw [hSS] at e
        rcases e with e | e
        · exact HG.out.2.2 e
        · exact HG.out.1 e)
      have HSd : Hid (∀ j, SS j ↔ (Value.ownBlock (.slice Av k cv) = some j ∨ j = w2.heap.size)) := Lib.hid (fun j => by rw [hSS])
      have q0 : ∀ w', Fr SS w4 w' → w'.cell? ⟨wr.heap.size, 0, none⟩ = some (.bool cp) := fun w' f => by rw [(W4.fr f HSn.out).cell]; rfl
      have q1 : ∀ w', Fr SS w4 w' → w'.cell? ⟨wr.heap.size, 1, none⟩ = some (.int .i64 f) := fun w' f' => by rw [(W4.fr f' HSn.out).cell]; rfl
      have q2 : ∀ w', Fr SS w4 w' → w'.cell? ⟨wr.heap.size, 2, none⟩ = some (.int .i64 n) := fun w' f => by rw [(W4.fr f HSn.out).cell]; rfl
      have q3 : ∀ w', Fr SS w4 w' → w'.cell? ⟨wr.heap.size, 3, none⟩ = some (.slice B BL pc) := fun w' f => by rw [(W4.fr f HSn.out).cell]; rfl
      have Hq0 := Lib.hid q0
      have Hq1 := Lib.hid q1
      have Hq2 := Lib.hid q2
      have Hq3 := Lib.hid q3
      have HSb := Lib.hid (show w3.heap.size ≤ wr.heap.size from HF.out.size)
      clear W4 hBL hlies q0 q1 q2 q3 hSS hgn hgo hgw
      go_upto_region 6 with fail
      refine wp_region_held (S := fun w' => Fr SS w4 w') (by kernel_rfl) ?_
      have HSq := Lib.hid (show Fr SS w4 w4.drew from (Fr.refl _ w4).drew)
      (
        refine wpAnyH_takeM (i := 0) (v := .pointer (some ⟨w2.heap.size, 2, none⟩)) 23 rfl rfl (by kernel_rfl) (by kernel_rfl) (by kernel_rfl) (fun _ _ _ h => h) (.inl ⟨by rfl, ?_⟩) HSq.out ?_
        · intro xw xf
          go_simp)
      (
        refine wpAnyH_takeM (i := 2) (v := .pointer (some ⟨wr.heap.size, 0, none⟩)) 25 rfl rfl (by kernel_rfl) (by kernel_rfl) (by kernel_rfl) (fun _ _ _ h => h) (.inl ⟨by rfl, ?_⟩) HSq.out ?_
        · intro xw xf
          go_simp)
      (
        refine wpAnyH_takeM (i := 4) (v := .pointer (some ⟨wr.heap.size, 1, none⟩)) 27 rfl rfl (by kernel_rfl) (by kernel_rfl) (by kernel_rfl) (fun _ _ _ h => h) (.inl ⟨by rfl, ?_⟩) HSq.out ?_
        · intro xw xf
          go_simp)
      (
        refine wpAnyH_takeM (i := 6) (v := .pointer (some ⟨wr.heap.size, 2, none⟩)) 29 rfl rfl (by kernel_rfl) (by kernel_rfl) (by kernel_rfl) (fun _ _ _ h => h) (.inl ⟨by rfl, ?_⟩) HSq.out ?_
        · intro xw xf
          go_simp)
      (
        refine wpAnyH_takeM (i := 9) (v := .pointer (some ⟨wr.heap.size, 3, none⟩)) 32 rfl rfl (by kernel_rfl) (by kernel_rfl) (by kernel_rfl) (fun _ _ _ h => h) (.inl ⟨by rfl, ?_⟩) HSq.out ?_
        · intro xw xf
          go_simp)
      (
        refine wpAnyH_takeM (i := 3) (v := .bool cp) 26 rfl rfl (by kernel_rfl) (by kernel_rfl) (by kernel_rfl) (fun _ _ _ h => h) (.inl ⟨by rfl, ?_⟩) HSq.out ?_
        · intro xw xf
          have xc := Hq0.out xw xf
          go_simp)
      (
        refine wpAnyH_takeM (i := 5) (v := .int .i64 f) 28 rfl rfl (by kernel_rfl) (by kernel_rfl) (by kernel_rfl) (fun _ _ _ h => h) (.inl ⟨by rfl, ?_⟩) HSq.out ?_
        · intro xw xf
          have xc := Hq1.out xw xf
          go_simp)
      (
        refine wpAnyH_takeM (i := 7) (v := .int .i64 n) 30 rfl rfl (by kernel_rfl) (by kernel_rfl) (by kernel_rfl) (fun _ _ _ h => h) (.inl ⟨by rfl, ?_⟩) HSq.out ?_
        · intro xw xf
          have xc := Hq2.out xw xf
          go_simp)
      (
        refine wpAnyH_takeM (i := 10) (v := .slice B BL pc) 33 rfl rfl (by kernel_rfl) (by kernel_rfl) (by kernel_rfl) (fun _ _ _ h => h) (.inl ⟨by rfl, ?_⟩) HSq.out ?_
        · intro xw xf
          have xc := Hq3.out xw xf
          go_simp)
      try simp only [List.setIfInBounds_toArray, List.set_cons_succ, List.set_cons_zero]
      change wpAnyH _ _ _ _ _ _ _ _ (World.drew w4)
      have HFd := Lib.hid (show Fr (fun _ => False) w4 w4.drew from (Fr.refl _ w4).drew)
      obtain ⟨wd, hwd⟩ : ∃ wd, w4.drew = wd := ⟨_, rfl⟩
      rw [hwd]
      rw [hwd] at HFd
      clear hwd HSq Hq0 Hq1 Hq2 Hq3
      have cd : wd.cell? ⟨w2.heap.size, 2, none⟩ = some (.slice Av k cv) := by rw [(HW4.out.fr HFd.out (fun e => e)).cell]; rfl
      refine wpAnyH_all (rs := [1, 8]) (by kernel_rfl) (by simp) ?_
      intro i hi
      simp only [List.mem_cons, List.not_mem_nil, or_false] at hi
      rcases hi with rfl | rfl
      · (
        refine wpOp_step rfl (fun K hK => ?_)
        go_simp
        refine hK _ _ ⟨HFd.out.mono (fun _ _ e => e.elim), ?_⟩
        clear hK K)
        (
          try simp only [List.setIfInBounds_toArray, List.set_cons_succ, List.set_cons_zero]
          refine wpAnyH_all (rs := [8]) (by kernel_rfl) (by simp) ?_
          intro i hi
          simp only [List.mem_cons, List.not_mem_nil, or_false] at hi
          subst hi)
        (
          refine wpOp_step rfl (fun K hK => ?_)
          obtain ⟨wa, hwa⟩ : ∃ wa, wd.alloc (.cells #[] 5) = wa := ⟨_, rfl⟩
          have hda : Fr (fun _ => False) wd wa := by rw [← hwa]; exact (Fr.refl _ wd).alloc _
          have hoa : wa.ownsRow w3.heap.size 5 1 (.slice (some ⟨wd.heap.size, 0, none⟩) 0 0) 0 [] := by
            rw [← hwa]
            have := World.ownsRow_lit (base := w3.heap.size) (e := 5) (size := 1) wd #[] 0 (by have := HSb.out; have := HF4.out.size; have := HFd.out.size; omega) (by unfold maxLen; omega) rfl
            exact this
          have hsz : w4.heap.size ≤ wd.heap.size := HFd.out.size
          obtain ⟨aa, haa⟩ : ∃ aa, wd.heap.size = aa := ⟨_, rfl⟩
          rw [haa] at hoa hsz
          have HOa := Lib.hid hoa
          have HAa := Lib.hid hsz
          have HFa := Lib.hid (HFd.out.trans hda (fun _ _ e => e))
          have ca : wa.cell? ⟨w2.heap.size, 2, none⟩ = some (.slice Av k cv) := by rw [(HW4.out.fr HFa.out (fun e => e)).cell]; rfl
          have HSr := Lib.hid (show Src Try.prog 1 26 (.slice B BL pc) BL (bytesV bs) wa from by
            have h1 := HLi.out.fr HFa.out (fun _ _ e => e)
            have h2 := h1.src Try.underlying26 (bytesV_one bs) pc
            rwa [bytesV_length, HBL.out] at h2)
          clear hda hoa hsz
          go_simp
          refine hK _ _ ⟨HFa.out.mono (fun _ _ e => e.elim), ?_⟩
          clear hK K hwa haa)
        (
          try simp only [List.setIfInBounds_toArray, List.set_cons_succ, List.set_cons_zero]
          refine wpAnyH_all (rs := [11]) (by kernel_rfl) (by simp) ?_
          intro i hi
          simp only [List.mem_cons, List.not_mem_nil, or_false] at hi
          subst hi)
        (
          refine wpOp_step rfl (fun K hK => ?_)
          refine step_append_row _ (by rfl) (.tmp 31) (.tmp 33) 26 26 (by rfl) w3.heap.size 5 i1 (.int .u8 0) 1 1 Try.underlying26 gi gz0 gz1 gz2 (by rfl) (.slice (some ⟨aa, 0, none⟩) 0 0) 0 [] (by rfl) HOa.out (.slice B BL pc) BL (bytesV bs) (by rfl) HSr.out (by unfold maxLen; omega) (by omega) (by have := HSb.out; have := HF4.out.size; have := HFa.out.size; omega) ?_
          intro v5 w5 o5 g5 at5
          rw [Nat.zero_add, List.nil_append] at o5
          have hf5 : Fr (fun _ => False) w4 w5 := HFa.out.trans ((Fr.refl (fun j => j = aa) wa).grown g5 (fun j hj _ => (show aa = j by simpa [Value.ownBlock] using hj).symm)) (fun i hi e => by have := HAa.out; omega)
          have HF5 := Lib.hid hf5
          obtain ⟨A5, k5, hv5, hk5, hk5m⟩ := own_slice o5
          subst hv5
          have HO5 := Lib.hid o5
          have HK5 := Lib.hid (And.intro hk5 hk5m)
          have HA5 := Lib.hid (show ∀ ad, A5 = some ad → w4.heap.size ≤ ad.block ∧ ad.block < w5.heap.size from fun ad hA => by
            have hob : Value.ownBlock (.slice A5 BL k5) = some ad.block := by rw [hA]; rfl
            refine ⟨?_, (World.ownsRow.lt o5 _ hob).2⟩
            rcases at5 with e | e
            · rw [hob] at e
              have h2 := HAa.out
              simp [Value.ownBlock] at e
              omega
            · rw [hob] at e
              injection e with e
              have := HFa.out.size
              omega)
          have c5 : w5.cell? ⟨w2.heap.size, 2, none⟩ = some (.slice Av k cv) := by rw [(HW4.out.fr HF5.out (fun e => e)).cell]; rfl
          clear o5 g5 at5 hf5 hk5 hk5m
          go_simp
          refine hK _ _ ⟨HF5.out.mono (fun _ _ e => e.elim), ?_⟩
          clear hK K
          have HSq := Lib.hid (show Fr SS w4 w5 from HF5.out.mono (fun _ _ e => e.elim))
          try simp only [List.setIfInBounds_toArray, List.set_cons_succ, List.set_cons_zero]
          (
            refine wpAnyH_takeM (i := 12) (v := .agg #[.bool cp, .int .i64 f, .int .i64 n, .slice A5 BL k5]) 35 rfl rfl (by kernel_rfl) (by kernel_rfl) (by kernel_rfl) (fun _ _ _ h => h) (.inl ⟨by rfl, ?_⟩) HSq.out ?_
            · intro xw xf
              go_simp)
          clear HSq)
        (
          try simp only [List.setIfInBounds_toArray, List.set_cons_succ, List.set_cons_zero]
          refine wpAnyH_all (rs := [13]) (by kernel_rfl) (by simp) ?_
          intro i hi
          simp only [List.mem_cons, List.not_mem_nil, or_false] at hi
          subst hi)
        (
          refine wpOp_step rfl (fun K hK => ?_)
          obtain ⟨wb, hwb⟩ : ∃ wb, w5.alloc (.cells #[.bool cp, .int .i64 f, .int .i64 n, .slice A5 BL k5] 57) = wb := ⟨_, rfl⟩
          have hdb : Fr (fun _ => False) w5 wb := by rw [← hwb]; exact (Fr.refl _ w5).alloc _
          have hsr : Src Try.prog 4 22 (.slice (some ⟨w5.heap.size, 0, none⟩) 1 1) 1 [.bool cp, .int .i64 f, .int .i64 n, .slice A5 BL k5] wb := by
            rw [← hwb]
            have := src_op w5 22 57 Try.underlying22 ⟨⟨cp, f, n, bs⟩, A5, k5⟩
            simpa only [POp.cells, HBL.out] using this
          obtain ⟨rr, hrr⟩ : ∃ rr, w5.heap.size = rr := ⟨_, rfl⟩
          rw [hrr] at hsr
          have HRs := Lib.hid hsr
          have HFb5 := Lib.hid hdb
          have HFb := Lib.hid (HF5.out.trans hdb (fun _ _ e => e))
          have cb : wb.cell? ⟨w2.heap.size, 2, none⟩ = some (.slice Av k cv) := by rw [(HW4.out.fr HFb.out (fun e => e)).cell]; rfl
          clear hsr hdb
          go_simp
          refine hK _ _ ⟨HFb.out.mono (fun _ _ e => e.elim), ?_⟩
          clear hK K hwb hrr)
        (
          (
            try simp only [List.setIfInBounds_toArray, List.set_cons_succ, List.set_cons_zero]
            refine wpAnyH_all (rs := [14]) (by kernel_rfl) (by simp) ?_
            intro i hi
            simp only [List.mem_cons, List.not_mem_nil, or_false] at hi
            subst hi)
          refine wpOp_step rfl (fun K hK => ?_)
          have HMb := Lib.hid (HM4.out.fr HFb.out)
          have HOv := Lib.hid (show wb.ownsRow w3.heap.size 57 4 (.slice Av k cv) k (flatP qs) from by have := HMb.out.own; rwa [HQl.out] at this)
          refine step_append_row _ (by rfl) (.tmp 24) (.tmp 36) 22 22 (by rfl) w3.heap.size 57 i0 (.agg zeroO) 4 48 Try.underlying22 hi hz0 hz1 hz2 (by rfl) (.slice Av k cv) k (flatP qs) (by rfl) HOv.out (.slice (some ⟨rr, 0, none⟩) 1 1) 1 _ (by rfl) HRs.out (by unfold maxLen; omega) (by omega) (by have := HSb.out; have := HF4.out.size; have := HFb.out.size; omega) ?_
          intro v6 w6 o6 g6 at6
          have hf6 : Fr (fun j => Value.ownBlock (.slice Av k cv) = some j) wb w6 := (Fr.refl _ wb).grown g6 (fun j hj _ => hj)
          have HFs6 := Lib.hid (show Fr SS w4 w6 from (HFb.out.mono (T := SS) (fun _ _ e => e.elim)).trans hf6 (fun i hi e => (HSd.out i).2 (.inl e)))
          have HW6 := Lib.hid ((HW4.out.fr HFb.out (fun e => e)).fr hf6 HG.out.2.1)
          have hM6 : Ml w3 w6 v6 (qs ++ [⟨⟨cp, f, n, bs⟩, A5, k5⟩]) := by
            refine Ml.push HMb.out ⟨HNum.out.1, HNum.out.2, by simp only [HBL.out]; exact HK5.out.1, HK5.out.2, ?_⟩ (fun ad hA => ?_) (by rw [HQl.out]; simpa only [POp.cells, HBL.out] using o6) hf6 (at6.imp id (fun e => ⟨_, e, Nat.le_refl _⟩))
            · exact (Lies.of_own HO5.out).fr HFb5.out (fun _ _ e => e)
            · obtain ⟨h1, h2⟩ := HA5.out ad hA
              refine ⟨Nat.lt_of_lt_of_le h2 HFb5.out.size, fun e => ?_, ?_⟩
              · have := (World.ownsRow.lt HM4.out.own _ e).2
                omega
              · have := HSb.out
                have := HF4.out.size
                omega
          obtain ⟨A6, k6, hv6, -⟩ := Ml.slice hM6
          subst hv6
          have hql6 : (qs ++ [(⟨⟨cp, f, n, bs⟩, A5, k5⟩ : POp)]).length = k + 1 := by simp [HQl.out]
          rw [hql6] at hM6 ⊢
          have HM6 := Lib.hid hM6
          have e6 : w6.cell? ⟨w2.heap.size, 2, none⟩ = some (.slice Av k cv) := by rw [HW6.out.cell]; rfl
          have z6 := HW6.out.frozen 2
          have HF36 := Lib.hid (show Fr (fun k => k = w2.heap.size ∨ w3.heap.size ≤ k) w3 w6 from ((HF.out.trans HF4.out (fun _ _ e => e.elim)).trans HFb.out (fun _ _ e => e.elim)).trans hf6 (fun i hi e => .inr (World.ownsRow.lt HOv.out i e).1))
          clear o6 g6 at6 hM6 hf6 hql6
          go_simp
          refine hK _ _ ⟨HFs6.out, ?_⟩
          clear hK K
          have HSq := HFs6
          try simp only [List.setIfInBounds_toArray, List.set_cons_succ, List.set_cons_zero]
          (
            refine wpAnyH_takeM (i := 15) (v := .pointer (some ⟨w2.heap.size, 2, none⟩)) 38 rfl rfl (by kernel_rfl) (by kernel_rfl) (by kernel_rfl) (fun _ _ _ h => h) (.inl ⟨by rfl, ?_⟩) HSq.out ?_
            · intro xw xf
              go_simp)
          (
            try simp only [List.setIfInBounds_toArray, List.set_cons_succ, List.set_cons_zero]
            refine wpAnyH_all (rs := [16]) (by kernel_rfl) (by simp) ?_
            intro i hi
            simp only [List.mem_cons, List.not_mem_nil, or_false] at hi
            subst hi)
          refine wpOp_step rfl (fun K hK => ?_)
          have HSet := Lib.hid (show Fr (fun j => j = w2.heap.size) w6 (w6.setCell ⟨w2.heap.size, 2, none⟩ (.slice A6 (k + 1) k6)) from Fr.setCell (S := fun j => j = w2.heap.size) (p := ⟨w2.heap.size, 2, none⟩) (Fr.refl _ w6) (fun _ => rfl) _)
          go_simp
          refine hK _ _ ⟨HFs6.out.trans HSet.out (fun i hi e => (HSd.out i).2 (.inr e)), ?_⟩
          clear hK K
          refine wpAnyH_done (by kernel_rfl) ?_ _
          go_wp2_with fail
          go_roundw
          case rel =>
            refine ⟨k + 1, _, qs ++ [⟨⟨cp, f, n, bs⟩, A5, k5⟩], by omega, by go_num, Lib.hid (HW6.out.set 2 _), Lib.hid (HM6.out.frS HSet.out (fun j e => by have := HS123.out; omega)), Lib.hid (by rw [opsO_append, HQ.out, HTk.out]; rfl), Lib.hid (HF36.out.trans HSet.out (fun i hi e => .inl e))⟩
          case measure => simp [intOf]; omega)
      · (
        refine wpOp_step rfl (fun K hK => ?_)
        obtain ⟨wa, hwa⟩ : ∃ wa, wd.alloc (.cells #[] 5) = wa := ⟨_, rfl⟩
        have hda : Fr (fun _ => False) wd wa := by rw [← hwa]; exact (Fr.refl _ wd).alloc _
        have hoa : wa.ownsRow w3.heap.size 5 1 (.slice (some ⟨wd.heap.size, 0, none⟩) 0 0) 0 [] := by
          rw [← hwa]
          have := World.ownsRow_lit (base := w3.heap.size) (e := 5) (size := 1) wd #[] 0 (by have := HSb.out; have := HF4.out.size; have := HFd.out.size; omega) (by unfold maxLen; omega) rfl
          exact this
        have hsz : w4.heap.size ≤ wd.heap.size := HFd.out.size
        obtain ⟨aa, haa⟩ : ∃ aa, wd.heap.size = aa := ⟨_, rfl⟩
        rw [haa] at hoa hsz
        have HOa := Lib.hid hoa
        have HAa := Lib.hid hsz
        have HFa := Lib.hid (HFd.out.trans hda (fun _ _ e => e))
        have ca : wa.cell? ⟨w2.heap.size, 2, none⟩ = some (.slice Av k cv) := by rw [(HW4.out.fr HFa.out (fun e => e)).cell]; rfl
        have HSr := Lib.hid (show Src Try.prog 1 26 (.slice B BL pc) BL (bytesV bs) wa from by
          have h1 := HLi.out.fr HFa.out (fun _ _ e => e)
          have h2 := h1.src Try.underlying26 (bytesV_one bs) pc
          rwa [bytesV_length, HBL.out] at h2)
        clear hda hoa hsz
        go_simp
        refine hK _ _ ⟨HFa.out.mono (fun _ _ e => e.elim), ?_⟩
        clear hK K hwa haa)
        try simp only [List.setIfInBounds_toArray, List.set_cons_succ, List.set_cons_zero]
        refine wpAnyH_all (rs := [1, 11]) (by kernel_rfl) (by simp) ?_
        intro i hi
        simp only [List.mem_cons, List.not_mem_nil, or_false] at hi
        rcases hi with rfl | rfl
        · (
          refine wpOp_step rfl (fun K hK => ?_)
          go_simp
          refine hK _ _ ⟨HFa.out.mono (fun _ _ e => e.elim), ?_⟩
          clear hK K)
          (
            try simp only [List.setIfInBounds_toArray, List.set_cons_succ, List.set_cons_zero]
            refine wpAnyH_all (rs := [11]) (by kernel_rfl) (by simp) ?_
            intro i hi
            simp only [List.mem_cons, List.not_mem_nil, or_false] at hi
            subst hi)
          (
            refine wpOp_step rfl (fun K hK => ?_)
            refine step_append_row _ (by rfl) (.tmp 31) (.tmp 33) 26 26 (by rfl) w3.heap.size 5 i1 (.int .u8 0) 1 1 Try.underlying26 gi gz0 gz1 gz2 (by rfl) (.slice (some ⟨aa, 0, none⟩) 0 0) 0 [] (by rfl) HOa.out (.slice B BL pc) BL (bytesV bs) (by rfl) HSr.out (by unfold maxLen; omega) (by omega) (by have := HSb.out; have := HF4.out.size; have := HFa.out.size; omega) ?_
            intro v5 w5 o5 g5 at5
            rw [Nat.zero_add, List.nil_append] at o5
            have hf5 : Fr (fun _ => False) w4 w5 := HFa.out.trans ((Fr.refl (fun j => j = aa) wa).grown g5 (fun j hj _ => (show aa = j by simpa [Value.ownBlock] using hj).symm)) (fun i hi e => by have := HAa.out; omega)
            have HF5 := Lib.hid hf5
            obtain ⟨A5, k5, hv5, hk5, hk5m⟩ := own_slice o5
            subst hv5
            have HO5 := Lib.hid o5
            have HK5 := Lib.hid (And.intro hk5 hk5m)
            have HA5 := Lib.hid (show ∀ ad, A5 = some ad → w4.heap.size ≤ ad.block ∧ ad.block < w5.heap.size from fun ad hA => by
              have hob : Value.ownBlock (.slice A5 BL k5) = some ad.block := by rw [hA]; rfl
              refine ⟨?_, (World.ownsRow.lt o5 _ hob).2⟩
              rcases at5 with e | e
              · rw [hob] at e
                have h2 := HAa.out
                simp [Value.ownBlock] at e
                omega
              · rw [hob] at e
                injection e with e
                have := HFa.out.size
                omega)
            have c5 : w5.cell? ⟨w2.heap.size, 2, none⟩ = some (.slice Av k cv) := by rw [(HW4.out.fr HF5.out (fun e => e)).cell]; rfl
            clear o5 g5 at5 hf5 hk5 hk5m
            go_simp
            refine hK _ _ ⟨HF5.out.mono (fun _ _ e => e.elim), ?_⟩
            clear hK K
            have HSq := Lib.hid (show Fr SS w4 w5 from HF5.out.mono (fun _ _ e => e.elim))
            try simp only [List.setIfInBounds_toArray, List.set_cons_succ, List.set_cons_zero]
            (
              refine wpAnyH_takeM (i := 12) (v := .agg #[.bool cp, .int .i64 f, .int .i64 n, .slice A5 BL k5]) 35 rfl rfl (by kernel_rfl) (by kernel_rfl) (by kernel_rfl) (fun _ _ _ h => h) (.inl ⟨by rfl, ?_⟩) HSq.out ?_
              · intro xw xf
                go_simp)
            clear HSq)
          (
            try simp only [List.setIfInBounds_toArray, List.set_cons_succ, List.set_cons_zero]
            refine wpAnyH_all (rs := [13]) (by kernel_rfl) (by simp) ?_
            intro i hi
            simp only [List.mem_cons, List.not_mem_nil, or_false] at hi
            subst hi)
          (
            refine wpOp_step rfl (fun K hK => ?_)
            obtain ⟨wb, hwb⟩ : ∃ wb, w5.alloc (.cells #[.bool cp, .int .i64 f, .int .i64 n, .slice A5 BL k5] 57) = wb := ⟨_, rfl⟩
            have hdb : Fr (fun _ => False) w5 wb := by rw [← hwb]; exact (Fr.refl _ w5).alloc _
            have hsr : Src Try.prog 4 22 (.slice (some ⟨w5.heap.size, 0, none⟩) 1 1) 1 [.bool cp, .int .i64 f, .int .i64 n, .slice A5 BL k5] wb := by
              rw [← hwb]
              have := src_op w5 22 57 Try.underlying22 ⟨⟨cp, f, n, bs⟩, A5, k5⟩
              simpa only [POp.cells, HBL.out] using this
            obtain ⟨rr, hrr⟩ : ∃ rr, w5.heap.size = rr := ⟨_, rfl⟩
            rw [hrr] at hsr
            have HRs := Lib.hid hsr
            have HFb5 := Lib.hid hdb
            have HFb := Lib.hid (HF5.out.trans hdb (fun _ _ e => e))
            have cb : wb.cell? ⟨w2.heap.size, 2, none⟩ = some (.slice Av k cv) := by rw [(HW4.out.fr HFb.out (fun e => e)).cell]; rfl
            clear hsr hdb
            go_simp
            refine hK _ _ ⟨HFb.out.mono (fun _ _ e => e.elim), ?_⟩
            clear hK K hwb hrr)
          (
            (
              try simp only [List.setIfInBounds_toArray, List.set_cons_succ, List.set_cons_zero]
              refine wpAnyH_all (rs := [14]) (by kernel_rfl) (by simp) ?_
              intro i hi
              simp only [List.mem_cons, List.not_mem_nil, or_false] at hi
              subst hi)
            refine wpOp_step rfl (fun K hK => ?_)
            have HMb := Lib.hid (HM4.out.fr HFb.out)
            have HOv := Lib.hid (show wb.ownsRow w3.heap.size 57 4 (.slice Av k cv) k (flatP qs) from by have := HMb.out.own; rwa [HQl.out] at this)
            refine step_append_row _ (by rfl) (.tmp 24) (.tmp 36) 22 22 (by rfl) w3.heap.size 57 i0 (.agg zeroO) 4 48 Try.underlying22 hi hz0 hz1 hz2 (by rfl) (.slice Av k cv) k (flatP qs) (by rfl) HOv.out (.slice (some ⟨rr, 0, none⟩) 1 1) 1 _ (by rfl) HRs.out (by unfold maxLen; omega) (by omega) (by have := HSb.out; have := HF4.out.size; have := HFb.out.size; omega) ?_
            intro v6 w6 o6 g6 at6
            have hf6 : Fr (fun j => Value.ownBlock (.slice Av k cv) = some j) wb w6 := (Fr.refl _ wb).grown g6 (fun j hj _ => hj)
            have HFs6 := Lib.hid (show Fr SS w4 w6 from (HFb.out.mono (T := SS) (fun _ _ e => e.elim)).trans hf6 (fun i hi e => (HSd.out i).2 (.inl e)))
            have HW6 := Lib.hid ((HW4.out.fr HFb.out (fun e => e)).fr hf6 HG.out.2.1)
            have hM6 : Ml w3 w6 v6 (qs ++ [⟨⟨cp, f, n, bs⟩, A5, k5⟩]) := by
              refine Ml.push HMb.out ⟨HNum.out.1, HNum.out.2, by simp only [HBL.out]; exact HK5.out.1, HK5.out.2, ?_⟩ (fun ad hA => ?_) (by rw [HQl.out]; simpa only [POp.cells, HBL.out] using o6) hf6 (at6.imp id (fun e => ⟨_, e, Nat.le_refl _⟩))
              · exact (Lies.of_own HO5.out).fr HFb5.out (fun _ _ e => e)
              · obtain ⟨h1, h2⟩ := HA5.out ad hA
                refine ⟨Nat.lt_of_lt_of_le h2 HFb5.out.size, fun e => ?_, ?_⟩
                · have := (World.ownsRow.lt HM4.out.own _ e).2
                  omega
                · have := HSb.out
                  have := HF4.out.size
                  omega
            obtain ⟨A6, k6, hv6, -⟩ := Ml.slice hM6
            subst hv6
            have hql6 : (qs ++ [(⟨⟨cp, f, n, bs⟩, A5, k5⟩ : POp)]).length = k + 1 := by simp [HQl.out]
            rw [hql6] at hM6 ⊢
            have HM6 := Lib.hid hM6
            have e6 : w6.cell? ⟨w2.heap.size, 2, none⟩ = some (.slice Av k cv) := by rw [HW6.out.cell]; rfl
            have z6 := HW6.out.frozen 2
            have HF36 := Lib.hid (show Fr (fun k => k = w2.heap.size ∨ w3.heap.size ≤ k) w3 w6 from ((HF.out.trans HF4.out (fun _ _ e => e.elim)).trans HFb.out (fun _ _ e => e.elim)).trans hf6 (fun i hi e => .inr (World.ownsRow.lt HOv.out i e).1))
            clear o6 g6 at6 hM6 hf6 hql6
            go_simp
            refine hK _ _ ⟨HFs6.out, ?_⟩
            clear hK K
            have HSq := HFs6
            try simp only [List.setIfInBounds_toArray, List.set_cons_succ, List.set_cons_zero]
            (
              refine wpAnyH_takeM (i := 15) (v := .pointer (some ⟨w2.heap.size, 2, none⟩)) 38 rfl rfl (by kernel_rfl) (by kernel_rfl) (by kernel_rfl) (fun _ _ _ h => h) (.inl ⟨by rfl, ?_⟩) HSq.out ?_
              · intro xw xf
                go_simp)
            (
              try simp only [List.setIfInBounds_toArray, List.set_cons_succ, List.set_cons_zero]
              refine wpAnyH_all (rs := [16]) (by kernel_rfl) (by simp) ?_
              intro i hi
              simp only [List.mem_cons, List.not_mem_nil, or_false] at hi
              subst hi)
            refine wpOp_step rfl (fun K hK => ?_)
            have HSet := Lib.hid (show Fr (fun j => j = w2.heap.size) w6 (w6.setCell ⟨w2.heap.size, 2, none⟩ (.slice A6 (k + 1) k6)) from Fr.setCell (S := fun j => j = w2.heap.size) (p := ⟨w2.heap.size, 2, none⟩) (Fr.refl _ w6) (fun _ => rfl) _)
            go_simp
            refine hK _ _ ⟨HFs6.out.trans HSet.out (fun i hi e => (HSd.out i).2 (.inr e)), ?_⟩
            clear hK K
            refine wpAnyH_done (by kernel_rfl) ?_ _
            go_wp2_with fail
            go_roundw
            case rel =>
              refine ⟨k + 1, _, qs ++ [⟨⟨cp, f, n, bs⟩, A5, k5⟩], by omega, by go_num, Lib.hid (HW6.out.set 2 _), Lib.hid (HM6.out.frS HSet.out (fun j e => by have := HS123.out; omega)), Lib.hid (by rw [opsO_append, HQ.out, HTk.out]; rfl), Lib.hid (HF36.out.trans HSet.out (fun i hi e => .inl e))⟩
            case measure => simp [intOf]; omega)
        · (
          refine wpOp_step rfl (fun K hK => ?_)
          refine step_append_row _ (by rfl) (.tmp 31) (.tmp 33) 26 26 (by rfl) w3.heap.size 5 i1 (.int .u8 0) 1 1 Try.underlying26 gi gz0 gz1 gz2 (by rfl) (.slice (some ⟨aa, 0, none⟩) 0 0) 0 [] (by rfl) HOa.out (.slice B BL pc) BL (bytesV bs) (by rfl) HSr.out (by unfold maxLen; omega) (by omega) (by have := HSb.out; have := HF4.out.size; have := HFa.out.size; omega) ?_
          intro v5 w5 o5 g5 at5
          rw [Nat.zero_add, List.nil_append] at o5
          have hf5 : Fr (fun _ => False) w4 w5 := HFa.out.trans ((Fr.refl (fun j => j = aa) wa).grown g5 (fun j hj _ => (show aa = j by simpa [Value.ownBlock] using hj).symm)) (fun i hi e => by have := HAa.out; omega)
          have HF5 := Lib.hid hf5
          obtain ⟨A5, k5, hv5, hk5, hk5m⟩ := own_slice o5
          subst hv5
          have HO5 := Lib.hid o5
          have HK5 := Lib.hid (And.intro hk5 hk5m)
          have HA5 := Lib.hid (show ∀ ad, A5 = some ad → w4.heap.size ≤ ad.block ∧ ad.block < w5.heap.size from fun ad hA => by
            have hob : Value.ownBlock (.slice A5 BL k5) = some ad.block := by rw [hA]; rfl
            refine ⟨?_, (World.ownsRow.lt o5 _ hob).2⟩
            rcases at5 with e | e
            · rw [hob] at e
              have h2 := HAa.out
              simp [Value.ownBlock] at e
              omega
            · rw [hob] at e
              injection e with e
              have := HFa.out.size
              omega)
          have c5 : w5.cell? ⟨w2.heap.size, 2, none⟩ = some (.slice Av k cv) := by rw [(HW4.out.fr HF5.out (fun e => e)).cell]; rfl
          clear o5 g5 at5 hf5 hk5 hk5m
          go_simp
          refine hK _ _ ⟨HF5.out.mono (fun _ _ e => e.elim), ?_⟩
          clear hK K
          have HSq := Lib.hid (show Fr SS w4 w5 from HF5.out.mono (fun _ _ e => e.elim))
          try simp only [List.setIfInBounds_toArray, List.set_cons_succ, List.set_cons_zero]
          (
            refine wpAnyH_takeM (i := 12) (v := .agg #[.bool cp, .int .i64 f, .int .i64 n, .slice A5 BL k5]) 35 rfl rfl (by kernel_rfl) (by kernel_rfl) (by kernel_rfl) (fun _ _ _ h => h) (.inl ⟨by rfl, ?_⟩) HSq.out ?_
            · intro xw xf
              go_simp)
          clear HSq)
          try simp only [List.setIfInBounds_toArray, List.set_cons_succ, List.set_cons_zero]
          refine wpAnyH_all (rs := [1, 13]) (by kernel_rfl) (by simp) ?_
          intro i hi
          simp only [List.mem_cons, List.not_mem_nil, or_false] at hi
          rcases hi with rfl | rfl
          · (
            refine wpOp_step rfl (fun K hK => ?_)
            go_simp
            refine hK _ _ ⟨HF5.out.mono (fun _ _ e => e.elim), ?_⟩
            clear hK K)
            (
              try simp only [List.setIfInBounds_toArray, List.set_cons_succ, List.set_cons_zero]
              refine wpAnyH_all (rs := [13]) (by kernel_rfl) (by simp) ?_
              intro i hi
              simp only [List.mem_cons, List.not_mem_nil, or_false] at hi
              subst hi)
            (
              refine wpOp_step rfl (fun K hK => ?_)
              obtain ⟨wb, hwb⟩ : ∃ wb, w5.alloc (.cells #[.bool cp, .int .i64 f, .int .i64 n, .slice A5 BL k5] 57) = wb := ⟨_, rfl⟩
              have hdb : Fr (fun _ => False) w5 wb := by rw [← hwb]; exact (Fr.refl _ w5).alloc _
              have hsr : Src Try.prog 4 22 (.slice (some ⟨w5.heap.size, 0, none⟩) 1 1) 1 [.bool cp, .int .i64 f, .int .i64 n, .slice A5 BL k5] wb := by
                rw [← hwb]
                have := src_op w5 22 57 Try.underlying22 ⟨⟨cp, f, n, bs⟩, A5, k5⟩
                simpa only [POp.cells, HBL.out] using this
              obtain ⟨rr, hrr⟩ : ∃ rr, w5.heap.size = rr := ⟨_, rfl⟩
              rw [hrr] at hsr
              have HRs := Lib.hid hsr
              have HFb5 := Lib.hid hdb
              have HFb := Lib.hid (HF5.out.trans hdb (fun _ _ e => e))
              have cb : wb.cell? ⟨w2.heap.size, 2, none⟩ = some (.slice Av k cv) := by rw [(HW4.out.fr HFb.out (fun e => e)).cell]; rfl
              clear hsr hdb
              go_simp
              refine hK _ _ ⟨HFb.out.mono (fun _ _ e => e.elim), ?_⟩
              clear hK K hwb hrr)
            (
              (
                try simp only [List.setIfInBounds_toArray, List.set_cons_succ, List.set_cons_zero]
                refine wpAnyH_all (rs := [14]) (by kernel_rfl) (by simp) ?_
                intro i hi
                simp only [List.mem_cons, List.not_mem_nil, or_false] at hi
                subst hi)
              refine wpOp_step rfl (fun K hK => ?_)
              have HMb := Lib.hid (HM4.out.fr HFb.out)
              have HOv := Lib.hid (show wb.ownsRow w3.heap.size 57 4 (.slice Av k cv) k (flatP qs) from by have := HMb.out.own; rwa [HQl.out] at this)
              refine step_append_row _ (by rfl) (.tmp 24) (.tmp 36) 22 22 (by rfl) w3.heap.size 57 i0 (.agg zeroO) 4 48 Try.underlying22 hi hz0 hz1 hz2 (by rfl) (.slice Av k cv) k (flatP qs) (by rfl) HOv.out (.slice (some ⟨rr, 0, none⟩) 1 1) 1 _ (by rfl) HRs.out (by unfold maxLen; omega) (by omega) (by have := HSb.out; have := HF4.out.size; have := HFb.out.size; omega) ?_
              intro v6 w6 o6 g6 at6
              have hf6 : Fr (fun j => Value.ownBlock (.slice Av k cv) = some j) wb w6 := (Fr.refl _ wb).grown g6 (fun j hj _ => hj)
              have HFs6 := Lib.hid (show Fr SS w4 w6 from (HFb.out.mono (T := SS) (fun _ _ e => e.elim)).trans hf6 (fun i hi e => (HSd.out i).2 (.inl e)))
              have HW6 := Lib.hid ((HW4.out.fr HFb.out (fun e => e)).fr hf6 HG.out.2.1)
              have hM6 : Ml w3 w6 v6 (qs ++ [⟨⟨cp, f, n, bs⟩, A5, k5⟩]) := by
                refine Ml.push HMb.out ⟨HNum.out.1, HNum.out.2, by simp only [HBL.out]; exact HK5.out.1, HK5.out.2, ?_⟩ (fun ad hA => ?_) (by rw [HQl.out]; simpa only [POp.cells, HBL.out] using o6) hf6 (at6.imp id (fun e => ⟨_, e, Nat.le_refl _⟩))
                · exact (Lies.of_own HO5.out).fr HFb5.out (fun _ _ e => e)
                · obtain ⟨h1, h2⟩ := HA5.out ad hA
                  refine ⟨Nat.lt_of_lt_of_le h2 HFb5.out.size, fun e => ?_, ?_⟩
                  · have := (World.ownsRow.lt HM4.out.own _ e).2
                    omega
                  · have := HSb.out
                    have := HF4.out.size
                    omega
              obtain ⟨A6, k6, hv6, -⟩ := Ml.slice hM6
              subst hv6
              have hql6 : (qs ++ [(⟨⟨cp, f, n, bs⟩, A5, k5⟩ : POp)]).length = k + 1 := by simp [HQl.out]
              rw [hql6] at hM6 ⊢
              have HM6 := Lib.hid hM6
              have e6 : w6.cell? ⟨w2.heap.size, 2, none⟩ = some (.slice Av k cv) := by rw [HW6.out.cell]; rfl
              have z6 := HW6.out.frozen 2
              have HF36 := Lib.hid (show Fr (fun k => k = w2.heap.size ∨ w3.heap.size ≤ k) w3 w6 from ((HF.out.trans HF4.out (fun _ _ e => e.elim)).trans HFb.out (fun _ _ e => e.elim)).trans hf6 (fun i hi e => .inr (World.ownsRow.lt HOv.out i e).1))
              clear o6 g6 at6 hM6 hf6 hql6
              go_simp
              refine hK _ _ ⟨HFs6.out, ?_⟩
              clear hK K
              have HSq := HFs6
              try simp only [List.setIfInBounds_toArray, List.set_cons_succ, List.set_cons_zero]
              (
                refine wpAnyH_takeM (i := 15) (v := .pointer (some ⟨w2.heap.size, 2, none⟩)) 38 rfl rfl (by kernel_rfl) (by kernel_rfl) (by kernel_rfl) (fun _ _ _ h => h) (.inl ⟨by rfl, ?_⟩) HSq.out ?_
                · intro xw xf
                  go_simp)
              (
                try simp only [List.setIfInBounds_toArray, List.set_cons_succ, List.set_cons_zero]
                refine wpAnyH_all (rs := [16]) (by kernel_rfl) (by simp) ?_
                intro i hi
                simp only [List.mem_cons, List.not_mem_nil, or_false] at hi
                subst hi)
              refine wpOp_step rfl (fun K hK => ?_)
              have HSet := Lib.hid (show Fr (fun j => j = w2.heap.size) w6 (w6.setCell ⟨w2.heap.size, 2, none⟩ (.slice A6 (k + 1) k6)) from Fr.setCell (S := fun j => j = w2.heap.size) (p := ⟨w2.heap.size, 2, none⟩) (Fr.refl _ w6) (fun _ => rfl) _)
              go_simp
              refine hK _ _ ⟨HFs6.out.trans HSet.out (fun i hi e => (HSd.out i).2 (.inr e)), ?_⟩
              clear hK K
              refine wpAnyH_done (by kernel_rfl) ?_ _
              go_wp2_with fail
              go_roundw
              case rel =>
                refine ⟨k + 1, _, qs ++ [⟨⟨cp, f, n, bs⟩, A5, k5⟩], by omega, by go_num, Lib.hid (HW6.out.set 2 _), Lib.hid (HM6.out.frS HSet.out (fun j e => by have := HS123.out; omega)), Lib.hid (by rw [opsO_append, HQ.out, HTk.out]; rfl), Lib.hid (HF36.out.trans HSet.out (fun i hi e => .inl e))⟩
              case measure => simp [intOf]; omega)
          · (
            refine wpOp_step rfl (fun K hK => ?_)
            obtain ⟨wb, hwb⟩ : ∃ wb, w5.alloc (.cells #[.bool cp, .int .i64 f, .int .i64 n, .slice A5 BL k5] 57) = wb := ⟨_, rfl⟩
            have hdb : Fr (fun _ => False) w5 wb := by rw [← hwb]; exact (Fr.refl _ w5).alloc _
            have hsr : Src Try.prog 4 22 (.slice (some ⟨w5.heap.size, 0, none⟩) 1 1) 1 [.bool cp, .int .i64 f, .int .i64 n, .slice A5 BL k5] wb := by
              rw [← hwb]
              have := src_op w5 22 57 Try.underlying22 ⟨⟨cp, f, n, bs⟩, A5, k5⟩
              simpa only [POp.cells, HBL.out] using this
            obtain ⟨rr, hrr⟩ : ∃ rr, w5.heap.size = rr := ⟨_, rfl⟩
            rw [hrr] at hsr
            have HRs := Lib.hid hsr
            have HFb5 := Lib.hid hdb
            have HFb := Lib.hid (HF5.out.trans hdb (fun _ _ e => e))
            have cb : wb.cell? ⟨w2.heap.size, 2, none⟩ = some (.slice Av k cv) := by rw [(HW4.out.fr HFb.out (fun e => e)).cell]; rfl
            clear hsr hdb
            go_simp
            refine hK _ _ ⟨HFb.out.mono (fun _ _ e => e.elim), ?_⟩
            clear hK K hwb hrr)
            (
              try simp only [List.setIfInBounds_toArray, List.set_cons_succ, List.set_cons_zero]
              refine wpAnyH_all (rs := [1]) (by kernel_rfl) (by simp) ?_
              intro i hi
              simp only [List.mem_cons, List.not_mem_nil, or_false] at hi
              subst hi)
            (
              refine wpOp_step rfl (fun K hK => ?_)
              go_simp
              refine hK _ _ ⟨HFb.out.mono (fun _ _ e => e.elim), ?_⟩
              clear hK K)
            (
              (
                try simp only [List.setIfInBounds_toArray, List.set_cons_succ, List.set_cons_zero]
                refine wpAnyH_all (rs := [14]) (by kernel_rfl) (by simp) ?_
                intro i hi
                simp only [List.mem_cons, List.not_mem_nil, or_false] at hi
                subst hi)
              refine wpOp_step rfl (fun K hK => ?_)
              have HMb := Lib.hid (HM4.out.fr HFb.out)
              have HOv := Lib.hid (show wb.ownsRow w3.heap.size 57 4 (.slice Av k cv) k (flatP qs) from by have := HMb.out.own; rwa [HQl.out] at this)
              refine step_append_row _ (by rfl) (.tmp 24) (.tmp 36) 22 22 (by rfl) w3.heap.size 57 i0 (.agg zeroO) 4 48 Try.underlying22 hi hz0 hz1 hz2 (by rfl) (.slice Av k cv) k (flatP qs) (by rfl) HOv.out (.slice (some ⟨rr, 0, none⟩) 1 1) 1 _ (by rfl) HRs.out (by unfold maxLen; omega) (by omega) (by have := HSb.out; have := HF4.out.size; have := HFb.out.size; omega) ?_
              intro v6 w6 o6 g6 at6
              have hf6 : Fr (fun j => Value.ownBlock (.slice Av k cv) = some j) wb w6 := (Fr.refl _ wb).grown g6 (fun j hj _ => hj)
              have HFs6 := Lib.hid (show Fr SS w4 w6 from (HFb.out.mono (T := SS) (fun _ _ e => e.elim)).trans hf6 (fun i hi e => (HSd.out i).2 (.inl e)))
              have HW6 := Lib.hid ((HW4.out.fr HFb.out (fun e => e)).fr hf6 HG.out.2.1)
              have hM6 : Ml w3 w6 v6 (qs ++ [⟨⟨cp, f, n, bs⟩, A5, k5⟩]) := by
                refine Ml.push HMb.out ⟨HNum.out.1, HNum.out.2, by simp only [HBL.out]; exact HK5.out.1, HK5.out.2, ?_⟩ (fun ad hA => ?_) (by rw [HQl.out]; simpa only [POp.cells, HBL.out] using o6) hf6 (at6.imp id (fun e => ⟨_, e, Nat.le_refl _⟩))
                · exact (Lies.of_own HO5.out).fr HFb5.out (fun _ _ e => e)
                · obtain ⟨h1, h2⟩ := HA5.out ad hA
                  refine ⟨Nat.lt_of_lt_of_le h2 HFb5.out.size, fun e => ?_, ?_⟩
                  · have := (World.ownsRow.lt HM4.out.own _ e).2
                    omega
                  · have := HSb.out
                    have := HF4.out.size
                    omega
              obtain ⟨A6, k6, hv6, -⟩ := Ml.slice hM6
              subst hv6
              have hql6 : (qs ++ [(⟨⟨cp, f, n, bs⟩, A5, k5⟩ : POp)]).length = k + 1 := by simp [HQl.out]
              rw [hql6] at hM6 ⊢
              have HM6 := Lib.hid hM6
              have e6 : w6.cell? ⟨w2.heap.size, 2, none⟩ = some (.slice Av k cv) := by rw [HW6.out.cell]; rfl
              have z6 := HW6.out.frozen 2
              have HF36 := Lib.hid (show Fr (fun k => k = w2.heap.size ∨ w3.heap.size ≤ k) w3 w6 from ((HF.out.trans HF4.out (fun _ _ e => e.elim)).trans HFb.out (fun _ _ e => e.elim)).trans hf6 (fun i hi e => .inr (World.ownsRow.lt HOv.out i e).1))
              clear o6 g6 at6 hM6 hf6 hql6
              go_simp
              refine hK _ _ ⟨HFs6.out, ?_⟩
              clear hK K
              have HSq := HFs6
              try simp only [List.setIfInBounds_toArray, List.set_cons_succ, List.set_cons_zero]
              (
                refine wpAnyH_takeM (i := 15) (v := .pointer (some ⟨w2.heap.size, 2, none⟩)) 38 rfl rfl (by kernel_rfl) (by kernel_rfl) (by kernel_rfl) (fun _ _ _ h => h) (.inl ⟨by rfl, ?_⟩) HSq.out ?_
                · intro xw xf
                  go_simp)
              (
                try simp only [List.setIfInBounds_toArray, List.set_cons_succ, List.set_cons_zero]
                refine wpAnyH_all (rs := [16]) (by kernel_rfl) (by simp) ?_
                intro i hi
                simp only [List.mem_cons, List.not_mem_nil, or_false] at hi
                subst hi)
              refine wpOp_step rfl (fun K hK => ?_)
              have HSet := Lib.hid (show Fr (fun j => j = w2.heap.size) w6 (w6.setCell ⟨w2.heap.size, 2, none⟩ (.slice A6 (k + 1) k6)) from Fr.setCell (S := fun j => j = w2.heap.size) (p := ⟨w2.heap.size, 2, none⟩) (Fr.refl _ w6) (fun _ => rfl) _)
              go_simp
              refine hK _ _ ⟨HFs6.out.trans HSet.out (fun i hi e => (HSd.out i).2 (.inr e)), ?_⟩
              clear hK K
              refine wpAnyH_done (by kernel_rfl) ?_ _
              go_wp2_with fail
              go_roundw
              case rel =>
                refine ⟨k + 1, _, qs ++ [⟨⟨cp, f, n, bs⟩, A5, k5⟩], by omega, by go_num, Lib.hid (HW6.out.set 2 _), Lib.hid (HM6.out.frS HSet.out (fun j e => by have := HS123.out; omega)), Lib.hid (by rw [opsO_append, HQ.out, HTk.out]; rfl), Lib.hid (HF36.out.trans HSet.out (fun i hi e => .inl e))⟩
              case measure => simp [intOf]; omega)
    · obtain rfl : k = L := by omega
      have HQf := Lib.hid (show opsO qs = opsO ps from by
        have h1 := HQ.out
        rwa [List.take_of_length_le (by simp [opsO, HL.out])] at h1)
      have HW2r := Lib.hid (HW2.out.fr HF.out (fun e => by have := HS123.out; omega))
      obtain ⟨Av, cv, hv, -⟩ := Ml.slice HM.out
      rw [HQl.out] at hv
      subst hv
      have c0 : wr.cell? ⟨w2.heap.size, 0, none⟩ = some (.int .i64 b) := by rw [HW.out.cell]; rfl
      have c1 : wr.cell? ⟨w2.heap.size, 1, none⟩ = some (.int .i64 t) := by rw [HW.out.cell]; rfl
      have c2 : wr.cell? ⟨w2.heap.size, 2, none⟩ = some (.slice Av k cv) := by rw [HW.out.cell]; rfl
      have e0 : wr.cell? ⟨w1.heap.size, 0, none⟩ = some (.int .i64 0) := by rw [HW2r.out.cell]; rfl
      have e1 : wr.cell? ⟨w1.heap.size, 1, none⟩ = some (.int .i64 0) := by rw [HW2r.out.cell]; rfl
      have e2 : wr.cell? ⟨w1.heap.size, 2, none⟩ = some (.slice none 0 0) := by rw [HW2r.out.cell]; rfl
      have z0 := HW2r.out.frozen 0
      have z1 := HW2r.out.frozen 1
      have z2 := HW2r.out.frozen 2
      go_wp2_with fail
      have hw9 : Whole (((wr.setCell ⟨w1.heap.size, 0, none⟩ (.int .i64 b)).setCell ⟨w1.heap.size, 1, none⟩ (.int .i64 t)).setCell ⟨w1.heap.size, 2, none⟩ (.slice Av k cv)) w1.heap.size 24 #[.int .i64 b, .int .i64 t, .slice Av k cv] := ((HW2r.out.set 0 (.int .i64 b)).set 1 (.int .i64 t)).set 2 (.slice Av k cv)
      refine bodyPost_ret (v := .agg #[.int .i64 b, .int .i64 t, .slice Av k cv]) (results_cell_row (p := 2) rfl _ _ _ _ _ _ _ rfl hw9 Try.underlying24 rfl (by kernel_rfl)) rfl ?_
      have fset : Fr (fun j => j = w1.heap.size) wr (((wr.setCell ⟨w1.heap.size, 0, none⟩ (.int .i64 b)).setCell ⟨w1.heap.size, 1, none⟩ (.int .i64 t)).setCell ⟨w1.heap.size, 2, none⟩ (.slice Av k cv)) := ((((Fr.refl (fun j => j = w1.heap.size) wr).setCell (p := ⟨w1.heap.size, 0, none⟩) (fun _ => rfl) _).setCell (p := ⟨w1.heap.size, 1, none⟩) (fun _ => rfl) _).setCell (p := ⟨w1.heap.size, 2, none⟩) (fun _ => rfl) _)
      have hsz := HS123.out
      have fall : Fr (fun _ => False) w (((wr.setCell ⟨w1.heap.size, 0, none⟩ (.int .i64 b)).setCell ⟨w1.heap.size, 1, none⟩ (.int .i64 t)).setCell ⟨w1.heap.size, 2, none⟩ (.slice Av k cv)) := (HF03.out.trans HF.out (fun i hi e => by omega)).trans fset (fun i hi e => by omega)
      obtain ⟨A9, c9, hv9, sc9, -⟩ := Ml.slice (HM.out.frS fset (fun j e => by omega))
      rw [HQl.out] at hv9
      injection hv9 with e1 e2 e3
      subst e1; subst e3
      exact ⟨Av, cv, qs, rfl, sc9, HQf.out, fall.below (fun _ _ e => e)⟩
end Go.Proofs.Ythjfkeploofblaa

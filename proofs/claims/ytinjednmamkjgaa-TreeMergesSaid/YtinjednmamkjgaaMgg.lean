/- What is proved: the rows of two lists are handed out, one after another, to whatever round keeps what is not its own. Conditions: the lists' cells are there. -/
import Derived.Test.YtinjednmamkjgaaMgf
import Derived.RangeFuncBox
import Derived.RangeFuncCalls
import Derived.Deep.Cut
namespace Go.Proofs.Ytinjednmamkjgaa
open Go.RowKit Go.Sort Go.Shelf
set_option linter.unusedVariables false

/-- How a round is asked for, and what it keeps. -/
def Rounds (l n1 : Nat) (J : Nat → List Rw → World → Prop) (N : Nat) : Prop :=
  ∀ n2 pre r W0 W1, n1 ≤ n2 → n2 ≤ W0.heap.size → J n2 pre W0 → Fr (fun k => n1 ≤ k ∧ k < n2) W0 W1 → pre.length < N →
    YieldAt Fence.wide 0 Try.prog l #[.agg (rwC r)] W1 fun e W' => e = .returned (.bool true) ∧ J n2 (pre ++ [r]) W' ∧ Fr (fun k => k < n1 ∨ (n2 ≤ k ∧ k < W0.heap.size)) W1 W'

/-- How the blocks lie: from n1 on, below n2. -/
structure Geo (n1 n2 gA gB BA BB C1 D1 C2 D2 : Nat) : Prop where
  c1 : n1 ≤ C1
  ba : C1 ≤ BA ∧ BA < D1
  d1 : D1 ≤ C2
  bb : C2 ≤ BB ∧ BB < D2
  d2 : D2 ≤ gA
  ab : gA < gB
  n2 : gB < n2
/-- What stands between two rounds. -/
structure Std (wr : World) (gA gB BA BB C1 D1 C2 D2 : Nat) (la lb : List Ent) : Prop where
  wa : Whole wr gA 27 (fndC la.head?)
  wb : Whole wr gB 27 (fndC lb.head?)
  pa : PullAt C1 D1 wr BA (restP la)
  pb : PullAt C2 D2 wr BB (restP lb)
section
variable {n1 n2 gA gB BA BB C1 D1 C2 D2 : Nat} {wr w' : World} {la lb : List Ent} {S : Nat → Prop}
theorem Std.fr (g : Geo n1 n2 gA gB BA BB C1 D1 C2 D2) (h : Std wr gA gB BA BB C1 D1 C2 D2 la lb) (f : Fr S wr w') (hS : ∀ k, n1 ≤ k → k < n2 → ¬ S k) : Std w' gA gB BA BB C1 D1 C2 D2 la lb := by
  have q1 := g.c1; have q2 := g.ba; have q3 := g.d1; have q4 := g.bb; have q5 := g.d2; have q6 := g.ab; have q7 := g.n2
  exact ⟨h.wa.fr f (hS _ (by omega) (by omega)), h.wb.fr f (hS _ (by omega) (by omega)), h.pa.fr f (fun k _ _ => hS k (by omega) (by omega)), h.pb.fr f (fun k _ _ => hS k (by omega) (by omega))⟩
end

theorem zero_both (w : World) : (zeroValue 35).run Try.prog w = .ok (.agg zeroB) w := by kernel_rfl
theorem zeroB_size : zeroB.size = 71 := rowV_size _ _ _ _ _ zeroE_size zeroE_size

theorem yieldsIf_load_cxM {ops : Array Oper} {S : World → Prop} {op : Oper} {a : Act} (hw : Region.wanted op (yielded ops a.tmps) = true) (x : Operand) (ho : op.op = .load 27 x)
    (b o : Nat) (hx : a.eval x = .pointer (some ⟨b, o, none⟩)) (cx : Array Value) (hs : cx.size = 34) (hS : ∀ w, S w → w.rangeAt b o cx.toList) : YieldsIf Try.prog ops S op (.agg cx) a := by
  have := yieldsIf_load_mid (P := Try.prog) (ops := ops) (S := S) hw 27 x ho b o hx cx.toList _ hS underE rfl (by rw [Array.length_toList, hs]; exact size_ent)
  rwa [Array.toArray_toList] at this
theorem wpListIn_load_midW {P : Program} {n : Nat} {ops : Array Oper} {rest : List Oper} {op : Oper} {a : Act} {w : World} {Q : Exit → Act → World → Prop} (hgd : op.guard = none) (ty : TypeId) (x : Operand) (ho : op.op = .load ty x)
    (b o : Nat) (hx : a.eval x = .pointer (some ⟨b, o, none⟩)) (cs : Array Value) (d : TypeDesc) (hc : w.rangeAt b o cs.toList)
    (hu : P.underlying ty = some d) (hd : d.isRow = true) (hi : (P.info? ty).map (·.size) = some cs.size)
    (h : wpListIn Fence.wide n P ops Q rest (a.put op.dst (.agg cs)) w) : wpListIn Fence.wide n P ops Q (op :: rest) a w :=
  wpListIn_plain hgd fun K hK => by
    refine ⟨fun _ _ => trivial, ?_⟩
    show op.uponIn _ _ _ a K Q ((op.semAt none a.eval).run P w)
    rw [Oper.semAt_none]
    unfold execOp
    simp only [ho, hx, Instr.loadAt, Instr.sureAddr, Sem.run_bind, Sem.run_pure, Result.andThen_ok, run_loadVar_mid w b o ty cs.toList d hc hu hd (by rw [Array.length_toList]; exact hi), Array.toArray_toList]
    exact hK _ _ h
theorem underB : ∃ d, Try.prog.underlying 35 = some d ∧ d.isRow = true := ⟨_, Try.underlying35, rfl⟩

set_option maxHeartbeats 6400000 in
set_option maxRecDepth 100000 in
theorem Trows1_any (l : Nat) (A B : Option Addr) (ca cb : Nat) (ea eb : List Ent) (hna : ea.length ≤ 1000) (hnb : eb.length ≤ 1000) (W : World) (Pa Pb : Nat)
    (hPa : W.cell? ⟨Pa, 0, none⟩ = some (.slice A ea.length ca)) (hPb : W.cell? ⟨Pb, 0, none⟩ = some (.slice B eb.length cb)) (hA : Lies W A (flatE ea)) (hB : Lies W B (flatE eb))
    (J : Nat → List Rw → World → Prop) (hJ0 : ∀ W2, Fr (fun _ => False) W W2 → J W2.heap.size [] W2) (hY : Rounds l W.heap.size J (rowsM ea eb).length) :
    Calls Try.prog 18 #[.func (.yield l) #[] #[], .pointer (some ⟨Pa, 0, none⟩), .pointer (some ⟨Pb, 0, none⟩)] W fun e W' => (∃ v, e = .returned v) ∧ ∃ n2 W0, J n2 (rowsM ea eb) W0 ∧ Fr (fun k => W.heap.size ≤ k ∧ k < n2) W0 W' := by
  have HPA := Lib.hid (fun w' (f : Fr (fun _ => False) W w') => Tpull_any A ca ea (by omega) w' (hA.fr f (fun _ _ e => e)))
  have HPB := Lib.hid (fun w' (f : Fr (fun _ => False) W w') => Tpull_any B cb eb (by omega) w' (hB.fr f (fun _ _ e => e)))
  have HcA := Lib.hid (fun q : Later W => q.fr.cell hPa (fun e => e))
  have HcB := Lib.hid (fun q : Later W => q.fr.cell hPb (fun e => e))
  have HRM := Lib.hid (show rowsM ea eb = mg (dd (srt nlt ea)) (dd (srt nlt eb)) from rfl)
  have HSA := Lib.hid (srt_len nlt ea)
  have HSB := Lib.hid (srt_len nlt eb)
  obtain ⟨ma, hma⟩ : ∃ m, srt nlt ea = m := ⟨_, rfl⟩
  obtain ⟨mb, hmb⟩ : ∃ m, srt nlt eb = m := ⟨_, rfl⟩
  obtain ⟨R, hR⟩ : ∃ R, rowsM ea eb = R := ⟨_, rfl⟩
  rw [hma] at HPA HRM HSA
  rw [hmb] at HPB HRM HSB
  rw [hR] at HRM hY ⊢
  obtain ⟨La, hLa⟩ : ∃ L, ea.length = L := ⟨_, rfl⟩
  obtain ⟨Lb, hLb⟩ : ∃ L, eb.length = L := ⟨_, rfl⟩
  rw [hLa] at HPA HcA HSA hna
  rw [hLb] at HPB HcB HSB hnb
  have HYY := Lib.hid hY
  have HJ0 := Lib.hid hJ0
  clear hPa hPb hA hB hma hmb hR hLa hLb hY hJ0
  go_enter Try.func18, Try.ntmps18
  go_upto_region 0 with fail
  refine wp_region_held (S := fun w' => ∃ q : Later W, w' = q.w') (by kernel_rfl) ?_
  have cA := HcA.out
  have cB := HcB.out
  refine wpAnyH_take (i := 0) (v := .slice A La ca) rfl (by kernel_rfl) (by kernel_rfl) (by kernel_rfl) (fun _ _ _ h => h) (.inl ⟨by rfl, ?_⟩) ⟨⟨_, (Fr.refl _ W).drew⟩, rfl⟩ ?_
  · rintro _ ⟨q, rfl⟩
    go_simp
  refine wpAnyH_take (i := 2) (v := .slice B Lb cb) rfl (by kernel_rfl) (by kernel_rfl) (by kernel_rfl) (fun _ _ _ h => h) (.inl ⟨by rfl, ?_⟩) ⟨⟨_, (Fr.refl _ W).drew⟩, rfl⟩ ?_
  · rintro _ ⟨q, rfl⟩
    go_simp
  clear cA cB
  (
    refine wpAnyH_all (rs := [1]) (by kernel_rfl) (by simp) ?_
    intro i hi
    simp only [List.mem_cons, List.not_mem_nil, or_false] at hi
    subst hi)
  refine wpOp_step rfl (fun K hK => ?_)
  go_simp
  refine (HPA.out _ (Fr.refl _ W).drew).mono ?_
  rintro e w1 ⟨BA, rfl, pA, fA⟩
  have HF1 := Lib.hid (show Fr (fun _ => False) W w1 from (Fr.refl _ W).drew.trans fA (fun _ _ e => e))
  have HpA := Lib.hid pA
  clear pA fA
  refine hK _ _ ⟨⟨⟨_, HF1.out⟩, rfl⟩, ?_⟩
  clear hK K
  (
    refine wpAnyH_all (rs := [3]) (by kernel_rfl) (by simp) ?_
    intro i hi
    simp only [List.mem_cons, List.not_mem_nil, or_false] at hi
    subst hi)
  refine wpOp_step rfl (fun K hK => ?_)
  go_simp
  refine (HPB.out _ HF1.out).mono ?_
  rintro e w2 ⟨BB, rfl, pB, fB⟩
  have HF12 := Lib.hid fB
  have HF2 := Lib.hid (show Fr (fun _ => False) W w2 from HF1.out.trans fB (fun _ _ e => e))
  have HpB := Lib.hid pB
  clear pB fB
  refine hK _ _ ⟨⟨⟨_, HF2.out⟩, rfl⟩, ?_⟩
  clear hK K
  (
    refine wpAnyH_all (rs := [4]) (by kernel_rfl) (by simp) ?_
    intro i hi
    simp only [List.mem_cons, List.not_mem_nil, or_false] at hi
    subst hi)
  refine wpOp_step rfl (fun K hK => ?_)
  go_simp
  refine hK _ _ ⟨⟨⟨_, HF2.out⟩, rfl⟩, ?_⟩
  clear hK K
  (
    refine wpAnyH_all (rs := [5]) (by kernel_rfl) (by simp) ?_
    intro i hi
    simp only [List.mem_cons, List.not_mem_nil, or_false] at hi
    subst hi)
  refine wpOp_step rfl (fun K hK => ?_)
  go_simp
  refine hK _ _ ⟨⟨⟨_, HF2.out⟩, rfl⟩, ?_⟩
  clear hK K
  refine wpAnyH_done (by kernel_rfl) ?_ _
  have HpA2 := Lib.hid (HpA.out.fr HF12.out (fun _ _ _ e => e))
  have hU1 := Tpull1_any _ _ BA ma (by rw [HSA.out]; omega) w2 HF12.out.size HpA2.out
  obtain ⟨fa, hfa⟩ : ∃ f, fndC ma.head? = f := ⟨_, rfl⟩
  obtain ⟨ba, hba⟩ : ∃ f, ma.head?.isSome = f := ⟨_, rfl⟩
  obtain ⟨fb, hfb⟩ : ∃ f, fndC mb.head? = f := ⟨_, rfl⟩
  obtain ⟨bb, hbb⟩ : ∃ f, mb.head?.isSome = f := ⟨_, rfl⟩
  have hfas : fa.size = 34 := by rw [← hfa]; exact fndC_size _
  have hfbs : fb.size = 34 := by rw [← hfb]; exact fndC_size _
  have HFAA := Lib.hid (show fa.all (·.oneCell') = true from by rw [← hfa]; exact fndC_all _)
  have HFBA := Lib.hid (show fb.all (·.oneCell') = true from by rw [← hfb]; exact fndC_all _)
  have HU2 := Lib.hid (fun w5 (h5 : w2.heap.size ≤ w5.heap.size) (p5 : PullAt w1.heap.size w2.heap.size w5 BB mb) => Tpull1_any _ _ BB mb (by rw [HSB.out]; omega) w5 h5 p5)
  rw [hfa, hba] at hU1
  rw [hfb, hbb] at HU2
  have HU1 := Lib.hid hU1
  have Hfa := Lib.hid hfa
  have Hba := Lib.hid hba
  have Hfb := Lib.hid hfb
  have Hbb := Lib.hid hbb
  clear hU1 hfa hba hfb hbb
  go_wp2_with (first
    | (have _ := M5
       refine wpList_store_at rfl 27 (.tmp 8) _ rfl w6.heap.size 0 27 zeroE fb rfl rfl HZ7.out (by rw [zeroE_size, hfbs]; exact Nat.le_refl _) (by rw [hfbs]; exact size_ent) HFBA.out ?_
       intro w8 hw8 hf8
       rw [laidAt_all _ _ (by rw [zeroE_size, hfbs])] at hw8
       have HW8 := Lib.hid hw8
       have HF78 := Lib.hid hf8
       clear hw8 hf8)
    | (have _ := M3
       go_at_call 26
       refine (HU2.out w5 HS25.out (HpB.out.fr HF25.out (fun k h1 h2 e => by have := HpA.out.1; omega))).mono ?_
       rintro e w6 ⟨rfl, p6, f6⟩
       have HP6 := Lib.hid p6
       have HF56 := Lib.hid f6
       have M5 := True.intro
       obtain ⟨w7, hw7⟩ : ∃ w7, w6.alloc (.cells zeroE 27) = w7 := ⟨_, rfl⟩
       have HZ7 := Lib.hid (show Whole w7 w6.heap.size 27 zeroE from by subst hw7; exact Whole.new w6 27 zeroE)
       have HF67 := Lib.hid (show Fr (fun _ => False) w6 w7 from by subst hw7; exact (Fr.refl _ w6).alloc _)
       have HS7 := Lib.hid (show w7.heap.size = w6.heap.size + 1 from by subst hw7; exact World.size_alloc _ _)
       unfold zeroE at hw7
       simp [List.replicate] at hw7
       clear p6 f6)
    | (refine wpList_store_at rfl 27 (.tmp 6) _ rfl w3.heap.size 0 27 zeroE fa rfl rfl HZ4.out (by rw [zeroE_size, hfas]; exact Nat.le_refl _) (by rw [hfas]; exact size_ent) HFAA.out ?_
       intro w5 hw5 hf5
       rw [laidAt_all _ _ (by rw [zeroE_size, hfas])] at hw5
       have HW5 := Lib.hid hw5
       have HF45 := Lib.hid hf5
       have HF25 := Lib.hid (show Fr (fun k => k = BA) w2 w5 from ((HF23.out.trans HF34.out (fun _ _ e => e.elim)).trans hf5 (fun i hi e => by have := HF23.out.size; omega)))
       have HS25 := Lib.hid HF25.out.size
       have M3 := True.intro
       clear hw5 hf5)
    | (go_at_call 26
       refine HU1.out.mono ?_
       rintro e w3 ⟨rfl, p3, f3⟩
       have HP3 := Lib.hid p3
       have HF23 := Lib.hid f3
       obtain ⟨w4, hw4⟩ : ∃ w4, w3.alloc (.cells zeroE 27) = w4 := ⟨_, rfl⟩
       have HZ4 := Lib.hid (show Whole w4 w3.heap.size 27 zeroE from by subst hw4; exact Whole.new w3 27 zeroE)
       have HF34 := Lib.hid (show Fr (fun _ => False) w3 w4 from by subst hw4; exact (Fr.refl _ w3).alloc _)
       have HS4 := Lib.hid (show w4.heap.size = w3.heap.size + 1 from by subst hw4; exact World.size_alloc _ _)
       unfold zeroE at hw4
       simp [List.replicate] at hw4
       clear p3 f3))
  have HSC := Lib.hid (show Std w8 w3.heap.size w6.heap.size BA BB W.heap.size w1.heap.size w1.heap.size w2.heap.size ma mb ∧ Geo W.heap.size w8.heap.size w3.heap.size w6.heap.size BA BB W.heap.size w1.heap.size w1.heap.size w2.heap.size ∧ Fr (fun _ => False) W w8 from by
    have q1 := HpA.out.1
    have q2 := HpB.out.1
    have q3 := HF23.out.size
    have q4 := HS4.out
    have q5 := HF45.out.size
    have q6 := HF56.out.size
    have q7 := HS7.out
    have q8 := HF78.out.size
    have q9 : W.drew.heap.size = W.heap.size := rfl
    have q10 := HF12.out.size
    have q11 := HF2.out.size
    refine ⟨⟨?_, ?_, ?_, ?_⟩, ⟨Nat.le_refl _, by omega, Nat.le_refl _, by omega, by omega, by omega, by omega⟩, ?_⟩
    · rw [Hfa.out]
      exact ((HW5.out.fr HF56.out (fun e => by omega)).fr HF67.out (fun e => e)).fr HF78.out (fun e => by omega)
    · rw [Hfb.out]; exact HW8.out
    · exact ((((HP3.out.fr HF34.out (fun _ _ _ e => e)).fr HF45.out (fun k h1 h2 e => by omega)).fr HF56.out (fun k h1 h2 e => by omega)).fr HF67.out (fun _ _ _ e => e)).fr HF78.out (fun k h1 h2 e => by omega)
    · exact (HP6.out.fr HF67.out (fun _ _ _ e => e)).fr HF78.out (fun k h1 h2 e => by omega)
    · exact (((HF2.out.trans HF25.out (fun i hi e => by omega)).trans HF56.out (fun i hi e => by omega)).trans HF67.out (fun _ _ e => e)).trans HF78.out (fun i hi e => by omega))
  obtain ⟨gA, hgA⟩ : ∃ g, w3.heap.size = g := ⟨_, rfl⟩
  obtain ⟨gB, hgB⟩ : ∃ g, w6.heap.size = g := ⟨_, rfl⟩
  obtain ⟨D1, hD1⟩ : ∃ g, w1.heap.size = g := ⟨_, rfl⟩
  obtain ⟨D2, hD2⟩ : ∃ g, w2.heap.size = g := ⟨_, rfl⟩
  obtain ⟨n1, hn1⟩ : ∃ g, W.heap.size = g := ⟨_, rfl⟩
  obtain ⟨n2, hn2⟩ : ∃ g, w8.heap.size = g := ⟨_, rfl⟩
  have HN2 := Lib.hid hn2
  rw [hgA, hgB, hD1, hD2, hn1, hn2] at HSC
  rw [hn1] at HYY
  rw [hgA, hgB]
  have HN1 := Lib.hid hn1
  have HG := Lib.hid HSC.out.2.1
  have HJ8 := Lib.hid (show J n2 [] w8 from by rw [← HN2.out]; exact HJ0.out w8 HSC.out.2.2)
  have HSd := Lib.hid HSC.out.1
  have hlen : ma.length + mb.length = La + Lb := by rw [HSA.out, HSB.out]
  have HLn := Lib.hid hlen
  rw [← Hba.out, ← Hbb.out]
  clear hw4 hw7 hgA hgB hD1 hD2 hn1 hn2 HpA HpB HpA2 HF12 HU1 HU2 HP3 HF23 HZ4 HF34 HS4 HW5 HF45 HF25 HS25 HP6 HF56 HZ7 HF67 HS7 HW8 HF78 HPA HPB HcA HcB HF1 HF2 HSC HJ0 hfas hfbs HFAA HFBA hlen
  go_loopg [7, 9] (La + Lb) (fun kx s7 s9 wr => ∃ (pre : List Rw) (la lb : List Ent) (W0 : World), s7 = .bool la.head?.isSome ∧ s9 = .bool lb.head?.isSome ∧ la.length ≤ 1000 ∧ lb.length ≤ 1000 ∧ la.length + lb.length ≤ kx ∧ Hid (pre ++ mg (dd la) (dd lb) = R) ∧ J n2 pre W0 ∧ n2 ≤ W0.heap.size ∧ Fr (fun k => n1 ≤ k ∧ k < n2) W0 wr ∧ Std wr gA gB BA BB n1 D1 D1 D2 la lb)
  case atStart => exact ⟨[], ma, mb, w8, rfl, rfl, by rw [HSA.out]; exact hna, by rw [HSB.out]; exact hnb, by rw [HLn.out]; exact Nat.le_refl _, Lib.hid HRM.out.symm, HJ8.out, by rw [HN2.out]; exact Nat.le_refl _, Fr.refl _ _, HSd.out⟩
  case round =>
    obtain ⟨pre, la, lb, W0, rfl, rfl, hla, hlb, hkx, HMG, hj, hn0, hf, hst⟩ := hrel
    obtain ⟨wo, rfl⟩ : ∃ wo, wo = wr := ⟨wr, rfl⟩
    have HJo := Lib.hid hj
    have HFo := Lib.hid hf
    have HSo := Lib.hid hst
    clear hj hf hst
    cases la with
    | nil =>
      cases lb with
      | nil =>
        have HR0 := Lib.hid (show pre = R from by have := HMG.out; rw [dd_nil, mg_nil, List.append_nil] at this; exact this)
        go_wp2_with fail
        go_end0
        exact ⟨⟨_, rfl⟩, n2, W0, by rw [← HR0.out]; exact HJo.out, by rw [HN1.out]; exact HFo.out⟩
      | cons y rb =>
        (
          have hzb := zero_both
          have hz34 := zeroE_size
          obtain ⟨zE, hzE⟩ : ∃ Z, zeroE = Z := ⟨_, rfl⟩
          obtain ⟨E, hE⟩ : ∃ E : ByteArray, { data := #[] } = E := ⟨_, rfl⟩
          have HZE := Lib.hid hzE
          obtain ⟨Zb, hZb⟩ : ∃ Z, zeroB = Z := ⟨_, rfl⟩
          have HZb := Lib.hid (show rowV E zE zE false false = Zb from by rw [← hE, ← hzE, ← hZb]; rfl)
          rw [hZb] at hzb
          rw [hzE] at hz34
          obtain ⟨wz, hwz⟩ : ∃ wz, wo.alloc (.cells Zb 35) = wz := ⟨_, rfl⟩
          have hg0 : ∃ g, wo.heap.size = g := ⟨_, rfl⟩
          obtain ⟨g, hg⟩ := hg0
          have HRz := Lib.hid (show Whole wz g 35 (rowV E zE zE false false) from by subst hwz; rw [HZb.out, ← hg]; exact Whole.new wo 35 Zb)
          have HFz := Lib.hid (show Fr (fun _ => False) wo wz from by subst hwz; exact (Fr.refl _ wo).alloc _)
          have HSz := Lib.hid (HSo.out.fr HG.out HFz.out (fun _ _ _ e => e))
          have HNz := Lib.hid (show n2 ≤ g ∧ W0.heap.size ≤ g ∧ wz.heap.size = g + 1 from by
            rw [← hg]; refine ⟨Nat.le_trans hn0 HFo.out.size, HFo.out.size, ?_⟩
            subst hwz; exact World.size_alloc _ _)
          clear hZb hE hzE)
        (
          obtain ⟨T, hT⟩ : ∃ S, strB y.name = S := ⟨_, rfl⟩
          have HTT := Lib.hid hT
          have HWb := Lib.hid (show Whole wz gB 27 (entV y).toArray from HSz.out.wb)
          have hcsb := entV_size y
          have HCAb := Lib.hid (entV_all y)
          have HCNb := Lib.hid (show (entV y).toArray[0]? = some (.string T) from by rw [← hT]; exact entV_name y)
          obtain ⟨cy, hcy⟩ : ∃ cx, (entV y).toArray = cx := ⟨_, rfl⟩
          have HCY := Lib.hid hcy
          rw [hcy] at HWb hcsb HCAb HCNb
          have hcB : wz.cell? ⟨gB, 0, none⟩ = some (.string T) := by rw [HWb.out.cell]; exact HCNb.out
          clear hT hcy)
        (
          have HWx := HWb
          have HCN := HCNb
          have HCA := HCAb
          clear HWb HCNb HCAb)
        go_upto_region 8 with fail
        (
          refine wp_region_held (S := fun w' => Fr (fun k => k = g) wz w') (by kernel_rfl) ?_
          have hSd : Fr (fun k => k = g) wz wz.drew := (Fr.refl _ wz).drew
          have HSd := Lib.hid hSd
          clear hSd
          refine wpAnyH_take (i := 2) (v := .agg cy) rfl (by kernel_rfl) (by kernel_rfl) (by kernel_rfl) (fun _ _ _ h => h) (yieldsIf_load_cxM (by kernel_rfl) (.tmp 8) rfl gB 0 (by kernel_rfl) cy hcsb (fun w' hS => (HWx.out.fr hS (fun e => by have := HNz.out; have := HG.out.ab; have := HG.out.n2; omega)).all_rangeM)) HSd.out ?_
          refine wpAnyH_take (i := 0) (v := .pointer (some ⟨gB, 0, none⟩)) rfl (by kernel_rfl) (by kernel_rfl) (by kernel_rfl) (fun _ _ _ h => h) (.inl ⟨by rfl, ?_⟩) HSd.out ?_
          · intro w' _
            go_simp
          refine wpAnyH_take (i := 1) (v := .string T) rfl (by kernel_rfl) (by kernel_rfl) (by kernel_rfl) (fun _ _ _ h => h) (.inl ⟨by rfl, ?_⟩) HSd.out ?_
          · intro w' hS
            have hc' : w'.cell? ⟨gB, 0, none⟩ = some (.string T) := by rw [(HWx.out.fr hS (fun e => by have := HNz.out; have := HG.out.ab; have := HG.out.n2; omega)).cell]; exact HCN.out
            clear hS
            go_simp
          (
            refine wpAnyH_all (rs := [3]) (by kernel_rfl) (by simp) ?_
            intro i hi
            simp only [List.mem_cons, List.not_mem_nil, or_false] at hi
            subst hi)
          refine wpOp_step rfl (fun K hK => ?_)
          go_simp
          refine hK _ _ ⟨HSd.out, ?_⟩
          clear hK K
          (
            refine wpAnyH_all (rs := [4]) (by kernel_rfl) (by simp) ?_
            intro i hi
            simp only [List.mem_cons, List.not_mem_nil, or_false] at hi
            subst hi)
          refine wpOp_step rfl (fun K hK => ?_)
          have HR0 := Lib.hid (show Whole wz.drew g 35 (rowV E zE zE false false) from HRz.out.fr ((Fr.refl (fun _ => False) _).drew) (fun e => e))
          have cz : wz.drew.cell? ⟨g, 0, none⟩ = some (.string E) := by rw [HR0.out.cell]; rfl
          have fz : wz.drew.frozen? ⟨g, 0, none⟩ = false := HR0.out.frozen 0
          go_simp
          clear cz fz
          obtain ⟨v1, hv1⟩ : ∃ v1, (wz.setCell ⟨g, 0, none⟩ (.string T)).drew = v1 := ⟨_, rfl⟩
          have HR1 := Lib.hid (show Whole v1 g 35 (rowV T zE zE false false) from by subst hv1; have := (HRz.out.set 0 (.string T)).fr ((Fr.refl (fun _ => False) _).drew) (fun e => e); rwa [rowV_name] at this)
          have HS1 := Lib.hid (show Fr (fun k => k = g) wz v1 from by subst hv1; exact (Fr.setCell (S := fun k => k = g) (p := ⟨g, 0, none⟩) (Fr.refl _ wz) (fun _ => rfl) _).drew)
          rw [hv1]
          clear hv1
          refine hK _ _ ⟨HS1.out, ?_⟩
          clear hK K
          (
            refine wpAnyH_all (rs := [5]) (by kernel_rfl) (by simp) ?_
            intro i hi
            simp only [List.mem_cons, List.not_mem_nil, or_false] at hi
            subst hi)
          refine wpOp_step rfl (fun K hK => ?_)
          go_simp
          refine hK _ _ ⟨HS1.out, ?_⟩
          clear hK K
          (
            refine wpAnyH_all (rs := [6]) (by kernel_rfl) (by simp) ?_
            intro i hi
            simp only [List.mem_cons, List.not_mem_nil, or_false] at hi
            subst hi)
          refine wpOp_step rfl (fun K hK => ?_)
          rw [if_pos (by kernel_rfl)]
          refine wp_store_at 27 (.tmp 63) (.tmp 61) rfl g 35 35 (rowV T zE zE false false) cy (by kernel_rfl) (by kernel_rfl) HR1.out (by rw [rowV_size _ _ _ _ _ hz34 hz34, hcsb]; decide) (by rw [hcsb]; exact size_ent) HCA.out ?_
          intro v2 hw2 hf2
          rw [rowV_b _ _ _ _ _ _ hz34 hz34 hcsb] at hw2
          have HR2 := Lib.hid hw2
          have HS2 := Lib.hid (show Fr (fun k => k = g) wz v2 from HS1.out.trans hf2 (fun _ _ e => e))
          clear hw2 hf2
          go_simp
          refine hK _ _ ⟨HS2.out, ?_⟩
          clear hK K
          (
            refine wpAnyH_all (rs := [7]) (by kernel_rfl) (by simp) ?_
            intro i hi
            simp only [List.mem_cons, List.not_mem_nil, or_false] at hi
            subst hi)
          refine wpOp_step rfl (fun K hK => ?_)
          go_simp
          refine hK _ _ ⟨HS2.out, ?_⟩
          clear hK K
          (
            refine wpAnyH_all (rs := [8]) (by kernel_rfl) (by simp) ?_
            intro i hi
            simp only [List.mem_cons, List.not_mem_nil, or_false] at hi
            subst hi)
          refine wpOp_step rfl (fun K hK => ?_)
          have cz : v2.cell? ⟨g, 70, none⟩ = some (.bool false) := by rw [HR2.out.cell]; exact rowV_at70 _ _ _ _ _ hz34 hcsb
          have fz : v2.frozen? ⟨g, 70, none⟩ = false := HR2.out.frozen 70
          go_simp
          clear cz fz
          obtain ⟨wy, hv3⟩ : ∃ v3, v2.setCell ⟨g, 70, none⟩ (.bool true) = v3 := ⟨_, rfl⟩
          have HRwy := Lib.hid (show Whole wy g 35 (rowV T zE cy false true) from by subst hv3; have := HR2.out.set 70 (.bool true); rwa [rowV_hb _ _ _ _ _ hz34 hcsb] at this)
          have HSwy := Lib.hid (show Fr (fun k => k = g) wz wy from by subst hv3; exact Fr.setCell (S := fun k => k = g) (p := ⟨g, 70, none⟩) HS2.out (fun _ => rfl) _)
          rw [hv3]
          clear hv3
          refine hK _ _ ⟨HSwy.out, ?_⟩
          clear hK K HR0 HR1 HR2 HS1 HS2 HSd
          refine wpAnyH_done (by kernel_rfl) ?_ _)
        have HMG2 := Lib.hid (show (pre ++ [⟨y.name, none, some y⟩]) ++ mg (dd []) (dd (restP (y :: rb))) = R from by rw [← HMG.out, restP_dd y rb, dd_nil, mg_b, List.append_assoc]; rfl)
        (
          have HSy := Lib.hid (show Std wy gA gB BA BB n1 D1 D1 D2 [] (y :: rb) from HSz.out.fr HG.out HSwy.out (fun k h1 h2 e => by have := HNz.out; omega))
          have HFy := Lib.hid (show Fr (fun k => n1 ≤ k ∧ k < n2) W0 wy from (HFo.out.trans HFz.out (fun _ _ e => e.elim)).trans HSwy.out (fun i hi e => by have := HNz.out; omega))
          have hyy := HYY.out n2 pre ⟨y.name, none, some y⟩ W0 wy (by have := HG.out.ba; have := HG.out.d1; have := HG.out.bb; have := HG.out.d2; have := HG.out.ab; have := HG.out.n2; omega) hn0 HJo.out HFy.out (by rw [← HMG2.out]; simp)
          have HRc := Lib.hid HRwy.out
          rw [show rowV T zE cy false true = rwC ⟨y.name, none, some y⟩ from by rw [← HTT.out, ← HCY.out, ← HZE.out]; rfl] at HRc
          obtain ⟨cr, hcr⟩ : ∃ c, rwC ⟨y.name, none, some y⟩ = c := ⟨_, rfl⟩
          have hcrs : cr.size = 71 := by rw [← hcr]; exact rwC_size _
          have HC69 := Lib.hid (show cr[69]? = some (.bool false) from by rw [← hcr]; exact rowV_at69 _ _ _ _ _ (fndC_size _) (fndC_size _))
          have HC70 := Lib.hid (show cr[70]? = some (.bool true) from by rw [← hcr]; exact rowV_at70 _ _ _ _ _ (fndC_size _) (fndC_size _))
          rw [hcr] at hyy HRc
          obtain ⟨fn, tm, asg, bdy, hy, hR⟩ := hyy
          have HRR := Lib.hid hR
          obtain ⟨dB, uB, rB⟩ := underB
          clear hR hcr
          go_upto_region 9 with fail
          refine (wpIn_wide (n := 0)).1 ?_
          refine wpIn_region_lit ?_
          refine wpListIn_plain rfl (fun K hK => ?_)
          go_simp
          refine hK _ _ ?_
          clear hK K
          refine wpListIn_load_midW rfl 35 (.tmp 10) rfl g 0 rfl cr dB HRc.out.all_rangeM uB rB (by rw [hcrs]; exact size_both) ?_
          refine wpListIn_plain rfl (fun K hK => ?_)
          go_simp
          refine ⟨rfl, HRR.out.mono ?_⟩
          rintro e W2 ⟨rfl, hJ2, hf2⟩
          have HJ2 := Lib.hid hJ2
          have HSt := Lib.hid (show Std W2 gA gB BA BB n1 D1 D1 D2 [] (y :: rb) from HSy.out.fr HG.out hf2 (fun k h1 h2 e => by omega))
          have HR2 := Lib.hid (HRc.out.fr hf2 (fun e => by have := HNz.out; have := HG.out.ba; have := HG.out.d1; have := HG.out.bb; have := HG.out.d2; have := HG.out.ab; have := HG.out.n2; omega))
          have HN2' := Lib.hid (show n2 ≤ W2.heap.size from by have := HFy.out.size; have := hf2.size; omega)
          have HGz := Lib.hid (show g < W2.heap.size from HR2.out.lt)
          have c69 : W2.cell? ⟨g, 69, none⟩ = some (.bool false) := by rw [HR2.out.cell]; exact HC69.out
          have c70 : W2.cell? ⟨g, 70, none⟩ = some (.bool true) := by rw [HR2.out.cell]; exact HC70.out
          refine hK _ _ ?_
          clear hK K hy hJ2 hf2 HRR uB rB HRwy HSwy
          refine wpListIn_plain rfl (fun K hK => ?_)
          go_simp
          refine hK _ _ ?_
          clear hK K
          refine wpListIn_nil ?_)
        (
          have HLB := Lib.hid (show (restP (y :: rb)).length ≤ 100000 from by have := restP_len (y :: rb); omega)
          have HUB := Lib.hid (fun w5 (h5 : D2 ≤ w5.heap.size) (p5 : PullAt D1 D2 w5 BB (restP (y :: rb))) => Tpull1_any D1 D2 BB (restP (y :: rb)) HLB.out w5 h5 p5)
          obtain ⟨fb2, hfb2⟩ : ∃ f, fndC (restP (y :: rb)).head? = f := ⟨_, rfl⟩
          obtain ⟨bb2, hbb2⟩ : ∃ f, (restP (y :: rb)).head?.isSome = f := ⟨_, rfl⟩
          have hfbs2 : fb2.size = 34 := by rw [← hfb2]; exact fndC_size _
          have HFBA2 := Lib.hid (show fb2.all (·.oneCell') = true from by rw [← hfb2]; exact fndC_all _)
          have HFb2 := Lib.hid hfb2
          have HBb2 := Lib.hid hbb2
          rw [hfb2, hbb2] at HUB
          clear hfb2 hbb2)
        have MA := True.intro
        go_wp2_with (
          (first
          | (have _ := MB
             refine wpList_store_at rfl 27 (.tmp 8) _ rfl gB 0 27 cy fb2 rfl rfl HWB5.out (by rw [hcsb, hfbs2]; exact Nat.le_refl _) (by rw [hfbs2]; exact size_ent) HFBA2.out ?_
             intro y6 hw6 hf6
             rw [laidAt_all _ _ (by rw [hcsb, hfbs2])] at hw6
             have HWB6 := Lib.hid hw6
             have HF56 := Lib.hid hf6
             clear hw6 hf6)
          | (have _ := MA
             go_at_call 26
             refine (HUB.out W2 (by have := HN2'.out; have := HG.out.d2; have := HG.out.ab; have := HG.out.n2; omega) HSt.out.pb).mono ?_
             rintro e y5 ⟨rfl, p5, f5⟩
             have HP5 := Lib.hid p5
             have HF45 := Lib.hid f5
             have MB := True.intro
             have HWB5 := Lib.hid (show Whole y5 gB 27 cy from by have := (HSt.out.wb).fr f5 (fun e => by have := HG.out.bb; have := HG.out.d2; have := HG.out.ab; omega); rwa [show fndC (List.head? (y :: rb)) = cy from HCY.out] at this)
             clear p5 f5)))
        have hsk := skip_len y rb
        go_roundg (([] : List Ent).length + (restP (y :: rb)).length)
        case measure => simp only [restP, List.length_cons, List.length_nil] at hkx ⊢; omega
        case rel =>
          refine ⟨_, [], restP (y :: rb), W2, rfl, by rw [HBb2.out], by simp, ?_, Nat.le_refl _, HMG2, HJ2.out, HN2'.out, ?_, ?_⟩
          · have := restP_len (y :: rb); omega
          · exact (HF45.out.mono (T := fun k => n1 ≤ k ∧ k < n2) (fun i hi e => by have := HG.out.ba; have := HG.out.d1; have := HG.out.bb; have := HG.out.d2; have := HG.out.ab; have := HG.out.n2; omega)).trans HF56.out (fun i hi e => by have := HG.out.ba; have := HG.out.d1; have := HG.out.bb; have := HG.out.d2; have := HG.out.ab; have := HG.out.n2; omega)
          · refine ⟨?_, ?_, ?_, ?_⟩
            · exact (HSt.out.wa.fr HF45.out (fun e => by have := HG.out.bb; have := HG.out.d2; omega)).fr HF56.out (fun e => by have := HG.out.ab; omega)
            · rw [HFb2.out]; exact HWB6.out
            · exact (HSt.out.pa.fr HF45.out (fun k h1 h2 e => by have := HG.out.bb; omega)).fr HF56.out (fun k h1 h2 e => by have := HG.out.d1; have := HG.out.bb; have := HG.out.d2; have := HG.out.ab; omega)
            · exact HP5.out.fr HF56.out (fun k h1 h2 e => by have := HG.out.d2; have := HG.out.ab; omega)
    | cons x ra =>
      cases lb with
      | nil =>
        (
          have hzb := zero_both
          have hz34 := zeroE_size
          obtain ⟨zE, hzE⟩ : ∃ Z, zeroE = Z := ⟨_, rfl⟩
          obtain ⟨E, hE⟩ : ∃ E : ByteArray, { data := #[] } = E := ⟨_, rfl⟩
          have HZE := Lib.hid hzE
          obtain ⟨Zb, hZb⟩ : ∃ Z, zeroB = Z := ⟨_, rfl⟩
          have HZb := Lib.hid (show rowV E zE zE false false = Zb from by rw [← hE, ← hzE, ← hZb]; rfl)
          rw [hZb] at hzb
          rw [hzE] at hz34
          obtain ⟨wz, hwz⟩ : ∃ wz, wo.alloc (.cells Zb 35) = wz := ⟨_, rfl⟩
          have hg0 : ∃ g, wo.heap.size = g := ⟨_, rfl⟩
          obtain ⟨g, hg⟩ := hg0
          have HRz := Lib.hid (show Whole wz g 35 (rowV E zE zE false false) from by subst hwz; rw [HZb.out, ← hg]; exact Whole.new wo 35 Zb)
          have HFz := Lib.hid (show Fr (fun _ => False) wo wz from by subst hwz; exact (Fr.refl _ wo).alloc _)
          have HSz := Lib.hid (HSo.out.fr HG.out HFz.out (fun _ _ _ e => e))
          have HNz := Lib.hid (show n2 ≤ g ∧ W0.heap.size ≤ g ∧ wz.heap.size = g + 1 from by
            rw [← hg]; refine ⟨Nat.le_trans hn0 HFo.out.size, HFo.out.size, ?_⟩
            subst hwz; exact World.size_alloc _ _)
          clear hZb hE hzE)
        (
          obtain ⟨S, hS⟩ : ∃ S, strB x.name = S := ⟨_, rfl⟩
          have HSS := Lib.hid hS
          have HWx := Lib.hid (show Whole wz gA 27 (entV x).toArray from HSz.out.wa)
          have hcs := entV_size x
          have HCA := Lib.hid (entV_all x)
          have HCN := Lib.hid (show (entV x).toArray[0]? = some (.string S) from by rw [← hS]; exact entV_name x)
          obtain ⟨cx, hcx⟩ : ∃ cx, (entV x).toArray = cx := ⟨_, rfl⟩
          have HCX := Lib.hid hcx
          rw [hcx] at HWx hcs HCA HCN
          have hcA : wz.cell? ⟨gA, 0, none⟩ = some (.string S) := by rw [HWx.out.cell]; exact HCN.out
          clear hS hcx)
        go_upto_region 6 with fail
        (
          refine wp_region_held (S := fun w' => Fr (fun k => k = g) wz w') (by kernel_rfl) ?_
          have hSd : Fr (fun k => k = g) wz wz.drew := (Fr.refl _ wz).drew
          have HSd := Lib.hid hSd
          clear hSd
          refine wpAnyH_take (i := 2) (v := .agg cx) rfl (by kernel_rfl) (by kernel_rfl) (by kernel_rfl) (fun _ _ _ h => h) (yieldsIf_load_cxM (by kernel_rfl) (.tmp 6) rfl gA 0 (by kernel_rfl) cx hcs (fun w' hS => (HWx.out.fr hS (fun e => by have := HNz.out; have := HG.out.ab; have := HG.out.n2; omega)).all_rangeM)) HSd.out ?_
          refine wpAnyH_take (i := 0) (v := .pointer (some ⟨gA, 0, none⟩)) rfl (by kernel_rfl) (by kernel_rfl) (by kernel_rfl) (fun _ _ _ h => h) (.inl ⟨by rfl, ?_⟩) HSd.out ?_
          · intro w' _
            go_simp
          refine wpAnyH_take (i := 1) (v := .string S) rfl (by kernel_rfl) (by kernel_rfl) (by kernel_rfl) (fun _ _ _ h => h) (.inl ⟨by rfl, ?_⟩) HSd.out ?_
          · intro w' hS
            have hc' : w'.cell? ⟨gA, 0, none⟩ = some (.string S) := by rw [(HWx.out.fr hS (fun e => by have := HNz.out; have := HG.out.ab; have := HG.out.n2; omega)).cell]; exact HCN.out
            clear hS
            go_simp
          (
            refine wpAnyH_all (rs := [3]) (by kernel_rfl) (by simp) ?_
            intro i hi
            simp only [List.mem_cons, List.not_mem_nil, or_false] at hi
            subst hi)
          refine wpOp_step rfl (fun K hK => ?_)
          go_simp
          refine hK _ _ ⟨HSd.out, ?_⟩
          clear hK K
          (
            refine wpAnyH_all (rs := [4]) (by kernel_rfl) (by simp) ?_
            intro i hi
            simp only [List.mem_cons, List.not_mem_nil, or_false] at hi
            subst hi)
          refine wpOp_step rfl (fun K hK => ?_)
          have HR0 := Lib.hid (show Whole wz.drew g 35 (rowV E zE zE false false) from HRz.out.fr ((Fr.refl (fun _ => False) _).drew) (fun e => e))
          have cz : wz.drew.cell? ⟨g, 0, none⟩ = some (.string E) := by rw [HR0.out.cell]; rfl
          have fz : wz.drew.frozen? ⟨g, 0, none⟩ = false := HR0.out.frozen 0
          go_simp
          clear cz fz
          obtain ⟨v1, hv1⟩ : ∃ v1, (wz.setCell ⟨g, 0, none⟩ (.string S)).drew = v1 := ⟨_, rfl⟩
          have HR1 := Lib.hid (show Whole v1 g 35 (rowV S zE zE false false) from by subst hv1; have := (HRz.out.set 0 (.string S)).fr ((Fr.refl (fun _ => False) _).drew) (fun e => e); rwa [rowV_name] at this)
          have HS1 := Lib.hid (show Fr (fun k => k = g) wz v1 from by subst hv1; exact (Fr.setCell (S := fun k => k = g) (p := ⟨g, 0, none⟩) (Fr.refl _ wz) (fun _ => rfl) _).drew)
          rw [hv1]
          clear hv1
          refine hK _ _ ⟨HS1.out, ?_⟩
          clear hK K
          (
            refine wpAnyH_all (rs := [5]) (by kernel_rfl) (by simp) ?_
            intro i hi
            simp only [List.mem_cons, List.not_mem_nil, or_false] at hi
            subst hi)
          refine wpOp_step rfl (fun K hK => ?_)
          go_simp
          refine hK _ _ ⟨HS1.out, ?_⟩
          clear hK K
          (
            refine wpAnyH_all (rs := [6]) (by kernel_rfl) (by simp) ?_
            intro i hi
            simp only [List.mem_cons, List.not_mem_nil, or_false] at hi
            subst hi)
          refine wpOp_step rfl (fun K hK => ?_)
          rw [if_pos (by kernel_rfl)]
          refine wp_store_at 27 (.tmp 45) (.tmp 43) rfl g 1 35 (rowV S zE zE false false) cx (by kernel_rfl) (by kernel_rfl) HR1.out (by rw [rowV_size _ _ _ _ _ hz34 hz34, hcs]; decide) (by rw [hcs]; exact size_ent) HCA.out ?_
          intro v2 hw2 hf2
          rw [rowV_a _ _ _ _ _ _ hz34 hcs] at hw2
          have HR2 := Lib.hid hw2
          have HS2 := Lib.hid (show Fr (fun k => k = g) wz v2 from HS1.out.trans hf2 (fun _ _ e => e))
          clear hw2 hf2
          go_simp
          refine hK _ _ ⟨HS2.out, ?_⟩
          clear hK K
          (
            refine wpAnyH_all (rs := [7]) (by kernel_rfl) (by simp) ?_
            intro i hi
            simp only [List.mem_cons, List.not_mem_nil, or_false] at hi
            subst hi)
          refine wpOp_step rfl (fun K hK => ?_)
          go_simp
          refine hK _ _ ⟨HS2.out, ?_⟩
          clear hK K
          (
            refine wpAnyH_all (rs := [8]) (by kernel_rfl) (by simp) ?_
            intro i hi
            simp only [List.mem_cons, List.not_mem_nil, or_false] at hi
            subst hi)
          refine wpOp_step rfl (fun K hK => ?_)
          have cz : v2.cell? ⟨g, 69, none⟩ = some (.bool false) := by rw [HR2.out.cell]; exact rowV_at69 _ _ _ _ _ hcs hz34
          have fz : v2.frozen? ⟨g, 69, none⟩ = false := HR2.out.frozen 69
          go_simp
          clear cz fz
          obtain ⟨wy, hv3⟩ : ∃ v3, v2.setCell ⟨g, 69, none⟩ (.bool true) = v3 := ⟨_, rfl⟩
          have HRwy := Lib.hid (show Whole wy g 35 (rowV S cx zE true false) from by subst hv3; have := HR2.out.set 69 (.bool true); rwa [rowV_ha _ _ _ _ _ hcs hz34] at this)
          have HSwy := Lib.hid (show Fr (fun k => k = g) wz wy from by subst hv3; exact Fr.setCell (S := fun k => k = g) (p := ⟨g, 69, none⟩) HS2.out (fun _ => rfl) _)
          rw [hv3]
          clear hv3
          refine hK _ _ ⟨HSwy.out, ?_⟩
          clear hK K HR0 HR1 HR2 HS1 HS2 HSd
          refine wpAnyH_done (by kernel_rfl) ?_ _)
        have HMG2 := Lib.hid (show (pre ++ [⟨x.name, some x, none⟩]) ++ mg (dd (restP (x :: ra))) (dd []) = R from by rw [← HMG.out, restP_dd x ra, dd_nil, mg_a, List.append_assoc]; rfl)
        (
          have HSy := Lib.hid (show Std wy gA gB BA BB n1 D1 D1 D2 (x :: ra) [] from HSz.out.fr HG.out HSwy.out (fun k h1 h2 e => by have := HNz.out; omega))
          have HFy := Lib.hid (show Fr (fun k => n1 ≤ k ∧ k < n2) W0 wy from (HFo.out.trans HFz.out (fun _ _ e => e.elim)).trans HSwy.out (fun i hi e => by have := HNz.out; omega))
          have hyy := HYY.out n2 pre ⟨x.name, some x, none⟩ W0 wy (by have := HG.out.ba; have := HG.out.d1; have := HG.out.bb; have := HG.out.d2; have := HG.out.ab; have := HG.out.n2; omega) hn0 HJo.out HFy.out (by rw [← HMG2.out]; simp)
          have HRc := Lib.hid HRwy.out
          rw [show rowV S cx zE true false = rwC ⟨x.name, some x, none⟩ from by rw [← HSS.out, ← HCX.out, ← HZE.out]; rfl] at HRc
          obtain ⟨cr, hcr⟩ : ∃ c, rwC ⟨x.name, some x, none⟩ = c := ⟨_, rfl⟩
          have hcrs : cr.size = 71 := by rw [← hcr]; exact rwC_size _
          have HC69 := Lib.hid (show cr[69]? = some (.bool true) from by rw [← hcr]; exact rowV_at69 _ _ _ _ _ (fndC_size _) (fndC_size _))
          have HC70 := Lib.hid (show cr[70]? = some (.bool false) from by rw [← hcr]; exact rowV_at70 _ _ _ _ _ (fndC_size _) (fndC_size _))
          rw [hcr] at hyy HRc
          obtain ⟨fn, tm, asg, bdy, hy, hR⟩ := hyy
          have HRR := Lib.hid hR
          obtain ⟨dB, uB, rB⟩ := underB
          clear hR hcr
          go_upto_region 9 with fail
          refine (wpIn_wide (n := 0)).1 ?_
          refine wpIn_region_lit ?_
          refine wpListIn_plain rfl (fun K hK => ?_)
          go_simp
          refine hK _ _ ?_
          clear hK K
          refine wpListIn_load_midW rfl 35 (.tmp 10) rfl g 0 rfl cr dB HRc.out.all_rangeM uB rB (by rw [hcrs]; exact size_both) ?_
          refine wpListIn_plain rfl (fun K hK => ?_)
          go_simp
          refine ⟨rfl, HRR.out.mono ?_⟩
          rintro e W2 ⟨rfl, hJ2, hf2⟩
          have HJ2 := Lib.hid hJ2
          have HSt := Lib.hid (show Std W2 gA gB BA BB n1 D1 D1 D2 (x :: ra) [] from HSy.out.fr HG.out hf2 (fun k h1 h2 e => by omega))
          have HR2 := Lib.hid (HRc.out.fr hf2 (fun e => by have := HNz.out; have := HG.out.ba; have := HG.out.d1; have := HG.out.bb; have := HG.out.d2; have := HG.out.ab; have := HG.out.n2; omega))
          have HN2' := Lib.hid (show n2 ≤ W2.heap.size from by have := HFy.out.size; have := hf2.size; omega)
          have HGz := Lib.hid (show g < W2.heap.size from HR2.out.lt)
          have c69 : W2.cell? ⟨g, 69, none⟩ = some (.bool true) := by rw [HR2.out.cell]; exact HC69.out
          have c70 : W2.cell? ⟨g, 70, none⟩ = some (.bool false) := by rw [HR2.out.cell]; exact HC70.out
          refine hK _ _ ?_
          clear hK K hy hJ2 hf2 HRR uB rB HRwy HSwy
          refine wpListIn_plain rfl (fun K hK => ?_)
          go_simp
          refine hK _ _ ?_
          clear hK K
          refine wpListIn_nil ?_)
        (
          have HLA := Lib.hid (show (restP (x :: ra)).length ≤ 100000 from by have := restP_len (x :: ra); omega)
          have hUA := Tpull1_any n1 D1 BA (restP (x :: ra)) HLA.out W2 (by have := HN2'.out; have := HG.out.d1; have := HG.out.bb; have := HG.out.d2; have := HG.out.ab; have := HG.out.n2; omega) HSt.out.pa
          obtain ⟨fa2, hfa2⟩ : ∃ f, fndC (restP (x :: ra)).head? = f := ⟨_, rfl⟩
          obtain ⟨ba2, hba2⟩ : ∃ f, (restP (x :: ra)).head?.isSome = f := ⟨_, rfl⟩
          have hfas2 : fa2.size = 34 := by rw [← hfa2]; exact fndC_size _
          have HFAA2 := Lib.hid (show fa2.all (·.oneCell') = true from by rw [← hfa2]; exact fndC_all _)
          have HFa2 := Lib.hid hfa2
          have HBa2 := Lib.hid hba2
          rw [hfa2, hba2] at hUA
          have HUA := Lib.hid hUA
          clear hUA hfa2 hba2)
        go_wp2_with (
          (first
          | (refine wpList_store_at rfl 27 (.tmp 6) _ rfl gA 0 27 cx fa2 rfl rfl HWA3.out (by rw [hcs, hfas2]; exact Nat.le_refl _) (by rw [hfas2]; exact size_ent) HFAA2.out ?_
             intro y4 hw4 hf4
             rw [laidAt_all _ _ (by rw [hcs, hfas2])] at hw4
             have HWA4 := Lib.hid hw4
             have HF34 := Lib.hid hf4
             have c70 : y4.cell? ⟨g, 70, none⟩ = some (.bool false) := by rw [((HR2.out.fr HF23.out (fun e => by have := HNz.out; have := HG.out.ba; have := HG.out.d1; have := HG.out.bb; have := HG.out.d2; have := HG.out.ab; have := HG.out.n2; omega)).fr hf4 (fun e => by have := HNz.out; have := HG.out.ab; have := HG.out.n2; omega)).cell]; exact HC70.out
             clear hw4 hf4)
          | (go_at_call 26
             refine HUA.out.mono ?_
             rintro e y3 ⟨rfl, p3, f3⟩
             have HP3 := Lib.hid p3
             have HF23 := Lib.hid f3
             have HWA3 := Lib.hid (show Whole y3 gA 27 cx from by have := HSt.out.wa.fr f3 (fun e => by have := HG.out.ba; have := HG.out.d1; have := HG.out.bb; have := HG.out.d2; omega); rwa [show fndC (List.head? (x :: ra)) = cx from HCX.out] at this)
             clear p3 f3 c70)))
        have hsk := skip_len x ra
        go_roundg ((restP (x :: ra)).length + ([] : List Ent).length)
        case measure => simp only [restP, List.length_cons, List.length_nil] at hkx ⊢; omega
        case rel =>
          refine ⟨_, restP (x :: ra), [], W2, by rw [HBa2.out], rfl, ?_, by simp, Nat.le_refl _, HMG2, HJ2.out, HN2'.out, ?_, ?_⟩
          · have := restP_len (x :: ra); omega
          · exact (HF23.out.mono (T := fun k => n1 ≤ k ∧ k < n2) (fun i hi e => by have := HG.out.ba; have := HG.out.d1; have := HG.out.bb; have := HG.out.d2; have := HG.out.ab; have := HG.out.n2; omega)).trans HF34.out (fun i hi e => by have := HG.out.ba; have := HG.out.d1; have := HG.out.bb; have := HG.out.d2; have := HG.out.ab; have := HG.out.n2; omega)
          · refine ⟨?_, ?_, ?_, ?_⟩
            · rw [HFa2.out]; exact HWA4.out
            · exact (HSt.out.wb.fr HF23.out (fun e => by have := HG.out.ba; have := HG.out.d1; have := HG.out.bb; have := HG.out.d2; have := HG.out.ab; omega)).fr HF34.out (fun e => by have := HG.out.ab; omega)
            · exact HP3.out.fr HF34.out (fun k h1 h2 e => by have := HG.out.d1; have := HG.out.bb; have := HG.out.d2; have := HG.out.ab; omega)
            · exact (HSt.out.pb.fr HF23.out (fun k h1 h2 e => by have := HG.out.ba; omega)).fr HF34.out (fun k h1 h2 e => by have := HG.out.d2; omega)
      | cons y rb =>
        (
          have hzb := zero_both
          have hz34 := zeroE_size
          obtain ⟨zE, hzE⟩ : ∃ Z, zeroE = Z := ⟨_, rfl⟩
          obtain ⟨E, hE⟩ : ∃ E : ByteArray, { data := #[] } = E := ⟨_, rfl⟩
          have HZE := Lib.hid hzE
          obtain ⟨Zb, hZb⟩ : ∃ Z, zeroB = Z := ⟨_, rfl⟩
          have HZb := Lib.hid (show rowV E zE zE false false = Zb from by rw [← hE, ← hzE, ← hZb]; rfl)
          rw [hZb] at hzb
          rw [hzE] at hz34
          obtain ⟨wz, hwz⟩ : ∃ wz, wo.alloc (.cells Zb 35) = wz := ⟨_, rfl⟩
          have hg0 : ∃ g, wo.heap.size = g := ⟨_, rfl⟩
          obtain ⟨g, hg⟩ := hg0
          have HRz := Lib.hid (show Whole wz g 35 (rowV E zE zE false false) from by subst hwz; rw [HZb.out, ← hg]; exact Whole.new wo 35 Zb)
          have HFz := Lib.hid (show Fr (fun _ => False) wo wz from by subst hwz; exact (Fr.refl _ wo).alloc _)
          have HSz := Lib.hid (HSo.out.fr HG.out HFz.out (fun _ _ _ e => e))
          have HNz := Lib.hid (show n2 ≤ g ∧ W0.heap.size ≤ g ∧ wz.heap.size = g + 1 from by
            rw [← hg]; refine ⟨Nat.le_trans hn0 HFo.out.size, HFo.out.size, ?_⟩
            subst hwz; exact World.size_alloc _ _)
          clear hZb hE hzE)
        (
          obtain ⟨S, hS⟩ : ∃ S, strB x.name = S := ⟨_, rfl⟩
          have HSS := Lib.hid hS
          have HWx := Lib.hid (show Whole wz gA 27 (entV x).toArray from HSz.out.wa)
          have hcs := entV_size x
          have HCA := Lib.hid (entV_all x)
          have HCN := Lib.hid (show (entV x).toArray[0]? = some (.string S) from by rw [← hS]; exact entV_name x)
          obtain ⟨cx, hcx⟩ : ∃ cx, (entV x).toArray = cx := ⟨_, rfl⟩
          have HCX := Lib.hid hcx
          rw [hcx] at HWx hcs HCA HCN
          have hcA : wz.cell? ⟨gA, 0, none⟩ = some (.string S) := by rw [HWx.out.cell]; exact HCN.out
          clear hS hcx)
        (
          obtain ⟨T, hT⟩ : ∃ S, strB y.name = S := ⟨_, rfl⟩
          have HTT := Lib.hid hT
          have HWb := Lib.hid (show Whole wz gB 27 (entV y).toArray from HSz.out.wb)
          have hcsb := entV_size y
          have HCAb := Lib.hid (entV_all y)
          have HCNb := Lib.hid (show (entV y).toArray[0]? = some (.string T) from by rw [← hT]; exact entV_name y)
          obtain ⟨cy, hcy⟩ : ∃ cx, (entV y).toArray = cx := ⟨_, rfl⟩
          have HCY := Lib.hid hcy
          rw [hcy] at HWb hcsb HCAb HCNb
          have hcB : wz.cell? ⟨gB, 0, none⟩ = some (.string T) := by rw [HWb.out.cell]; exact HCNb.out
          clear hT hcy)
        have hls1 := lt_str x.name y.name
        have hls2 := lt_str y.name x.name
        rw [HSS.out, HTT.out] at hls1 hls2
        cases h1 : ltB x.name y.name with
        | true =>
          rw [h1] at hls1
          rw [ltB_asymm _ _ h1] at hls2
          (
            have hne : ¬ x.name = y.name := fun e => by rw [e, ltB_irrefl] at h1; cases h1
            have hq1 : ¬ T.toList = S.toList := by rw [← HSS.out, ← HTT.out, strB_list, strB_list]; exact fun e => hne e.symm
            have hq2 : (T.toList == S.toList) = false := beq_eq_false_iff_ne.2 hq1
            clear hne)
          have HMG2 := Lib.hid (show (pre ++ [⟨x.name, some x, none⟩]) ++ mg (dd (restP (x :: ra))) (dd (y :: rb)) = R from by rw [← HMG.out, restP_dd x ra, restP_dd y rb, mg_ab, if_pos h1, List.append_assoc]; rfl)
          clear h1
          go_upto_region 6 with fail
          (
            refine wp_region_held (S := fun w' => Fr (fun k => k = g) wz w') (by kernel_rfl) ?_
            have hSd : Fr (fun k => k = g) wz wz.drew := (Fr.refl _ wz).drew
            have HSd := Lib.hid hSd
            clear hSd
            refine wpAnyH_take (i := 2) (v := .agg cx) rfl (by kernel_rfl) (by kernel_rfl) (by kernel_rfl) (fun _ _ _ h => h) (yieldsIf_load_cxM (by kernel_rfl) (.tmp 6) rfl gA 0 (by kernel_rfl) cx hcs (fun w' hS => (HWx.out.fr hS (fun e => by have := HNz.out; have := HG.out.ab; have := HG.out.n2; omega)).all_rangeM)) HSd.out ?_
            refine wpAnyH_take (i := 0) (v := .pointer (some ⟨gA, 0, none⟩)) rfl (by kernel_rfl) (by kernel_rfl) (by kernel_rfl) (fun _ _ _ h => h) (.inl ⟨by rfl, ?_⟩) HSd.out ?_
            · intro w' _
              go_simp
            refine wpAnyH_take (i := 1) (v := .string S) rfl (by kernel_rfl) (by kernel_rfl) (by kernel_rfl) (fun _ _ _ h => h) (.inl ⟨by rfl, ?_⟩) HSd.out ?_
            · intro w' hS
              have hc' : w'.cell? ⟨gA, 0, none⟩ = some (.string S) := by rw [(HWx.out.fr hS (fun e => by have := HNz.out; have := HG.out.ab; have := HG.out.n2; omega)).cell]; exact HCN.out
              clear hS
              go_simp
            (
              refine wpAnyH_all (rs := [3]) (by kernel_rfl) (by simp) ?_
              intro i hi
              simp only [List.mem_cons, List.not_mem_nil, or_false] at hi
              subst hi)
            refine wpOp_step rfl (fun K hK => ?_)
            go_simp
            refine hK _ _ ⟨HSd.out, ?_⟩
            clear hK K
            (
              refine wpAnyH_all (rs := [4]) (by kernel_rfl) (by simp) ?_
              intro i hi
              simp only [List.mem_cons, List.not_mem_nil, or_false] at hi
              subst hi)
            refine wpOp_step rfl (fun K hK => ?_)
            have HR0 := Lib.hid (show Whole wz.drew g 35 (rowV E zE zE false false) from HRz.out.fr ((Fr.refl (fun _ => False) _).drew) (fun e => e))
            have cz : wz.drew.cell? ⟨g, 0, none⟩ = some (.string E) := by rw [HR0.out.cell]; rfl
            have fz : wz.drew.frozen? ⟨g, 0, none⟩ = false := HR0.out.frozen 0
            go_simp
            clear cz fz
            obtain ⟨v1, hv1⟩ : ∃ v1, (wz.setCell ⟨g, 0, none⟩ (.string S)).drew = v1 := ⟨_, rfl⟩
            have HR1 := Lib.hid (show Whole v1 g 35 (rowV S zE zE false false) from by subst hv1; have := (HRz.out.set 0 (.string S)).fr ((Fr.refl (fun _ => False) _).drew) (fun e => e); rwa [rowV_name] at this)
            have HS1 := Lib.hid (show Fr (fun k => k = g) wz v1 from by subst hv1; exact (Fr.setCell (S := fun k => k = g) (p := ⟨g, 0, none⟩) (Fr.refl _ wz) (fun _ => rfl) _).drew)
            rw [hv1]
            clear hv1
            refine hK _ _ ⟨HS1.out, ?_⟩
            clear hK K
            (
              refine wpAnyH_all (rs := [5]) (by kernel_rfl) (by simp) ?_
              intro i hi
              simp only [List.mem_cons, List.not_mem_nil, or_false] at hi
              subst hi)
            refine wpOp_step rfl (fun K hK => ?_)
            go_simp
            refine hK _ _ ⟨HS1.out, ?_⟩
            clear hK K
            (
              refine wpAnyH_all (rs := [6]) (by kernel_rfl) (by simp) ?_
              intro i hi
              simp only [List.mem_cons, List.not_mem_nil, or_false] at hi
              subst hi)
            refine wpOp_step rfl (fun K hK => ?_)
            rw [if_pos (by kernel_rfl)]
            refine wp_store_at 27 (.tmp 45) (.tmp 43) rfl g 1 35 (rowV S zE zE false false) cx (by kernel_rfl) (by kernel_rfl) HR1.out (by rw [rowV_size _ _ _ _ _ hz34 hz34, hcs]; decide) (by rw [hcs]; exact size_ent) HCA.out ?_
            intro v2 hw2 hf2
            rw [rowV_a _ _ _ _ _ _ hz34 hcs] at hw2
            have HR2 := Lib.hid hw2
            have HS2 := Lib.hid (show Fr (fun k => k = g) wz v2 from HS1.out.trans hf2 (fun _ _ e => e))
            clear hw2 hf2
            go_simp
            refine hK _ _ ⟨HS2.out, ?_⟩
            clear hK K
            (
              refine wpAnyH_all (rs := [7]) (by kernel_rfl) (by simp) ?_
              intro i hi
              simp only [List.mem_cons, List.not_mem_nil, or_false] at hi
              subst hi)
            refine wpOp_step rfl (fun K hK => ?_)
            go_simp
            refine hK _ _ ⟨HS2.out, ?_⟩
            clear hK K
            (
              refine wpAnyH_all (rs := [8]) (by kernel_rfl) (by simp) ?_
              intro i hi
              simp only [List.mem_cons, List.not_mem_nil, or_false] at hi
              subst hi)
            refine wpOp_step rfl (fun K hK => ?_)
            have cz : v2.cell? ⟨g, 69, none⟩ = some (.bool false) := by rw [HR2.out.cell]; exact rowV_at69 _ _ _ _ _ hcs hz34
            have fz : v2.frozen? ⟨g, 69, none⟩ = false := HR2.out.frozen 69
            go_simp
            clear cz fz
            obtain ⟨wy, hv3⟩ : ∃ v3, v2.setCell ⟨g, 69, none⟩ (.bool true) = v3 := ⟨_, rfl⟩
            have HRwy := Lib.hid (show Whole wy g 35 (rowV S cx zE true false) from by subst hv3; have := HR2.out.set 69 (.bool true); rwa [rowV_ha _ _ _ _ _ hcs hz34] at this)
            have HSwy := Lib.hid (show Fr (fun k => k = g) wz wy from by subst hv3; exact Fr.setCell (S := fun k => k = g) (p := ⟨g, 69, none⟩) HS2.out (fun _ => rfl) _)
            rw [hv3]
            clear hv3
            refine hK _ _ ⟨HSwy.out, ?_⟩
            clear hK K HR0 HR1 HR2 HS1 HS2 HSd
            refine wpAnyH_done (by kernel_rfl) ?_ _)
          (
            have hcA : wy.cell? ⟨gA, 0, none⟩ = some (.string S) := by
              have := HWx.out.fr HSwy.out (fun e => by have := HNz.out; have := HG.out.ab; have := HG.out.n2; omega)
              rw [this.cell]; exact HCN.out
            have hcB : wy.cell? ⟨gB, 0, none⟩ = some (.string T) := by
              have := HWb.out.fr HSwy.out (fun e => by have := HNz.out; have := HG.out.ab; have := HG.out.n2; omega)
              rw [this.cell]; exact HCNb.out)
          (
            have HSy := Lib.hid (show Std wy gA gB BA BB n1 D1 D1 D2 (x :: ra) (y :: rb) from HSz.out.fr HG.out HSwy.out (fun k h1 h2 e => by have := HNz.out; omega))
            have HFy := Lib.hid (show Fr (fun k => n1 ≤ k ∧ k < n2) W0 wy from (HFo.out.trans HFz.out (fun _ _ e => e.elim)).trans HSwy.out (fun i hi e => by have := HNz.out; omega))
            have hyy := HYY.out n2 pre ⟨x.name, some x, none⟩ W0 wy (by have := HG.out.ba; have := HG.out.d1; have := HG.out.bb; have := HG.out.d2; have := HG.out.ab; have := HG.out.n2; omega) hn0 HJo.out HFy.out (by rw [← HMG2.out]; simp)
            have HRc := Lib.hid HRwy.out
            rw [show rowV S cx zE true false = rwC ⟨x.name, some x, none⟩ from by rw [← HSS.out, ← HCX.out, ← HZE.out]; rfl] at HRc
            obtain ⟨cr, hcr⟩ : ∃ c, rwC ⟨x.name, some x, none⟩ = c := ⟨_, rfl⟩
            have hcrs : cr.size = 71 := by rw [← hcr]; exact rwC_size _
            have HC69 := Lib.hid (show cr[69]? = some (.bool true) from by rw [← hcr]; exact rowV_at69 _ _ _ _ _ (fndC_size _) (fndC_size _))
            have HC70 := Lib.hid (show cr[70]? = some (.bool false) from by rw [← hcr]; exact rowV_at70 _ _ _ _ _ (fndC_size _) (fndC_size _))
            rw [hcr] at hyy HRc
            obtain ⟨fn, tm, asg, bdy, hy, hR⟩ := hyy
            have HRR := Lib.hid hR
            obtain ⟨dB, uB, rB⟩ := underB
            clear hR hcr
            go_upto_region 9 with fail
            refine (wpIn_wide (n := 0)).1 ?_
            refine wpIn_region_lit ?_
            refine wpListIn_plain rfl (fun K hK => ?_)
            go_simp
            refine hK _ _ ?_
            clear hK K
            refine wpListIn_load_midW rfl 35 (.tmp 10) rfl g 0 rfl cr dB HRc.out.all_rangeM uB rB (by rw [hcrs]; exact size_both) ?_
            refine wpListIn_plain rfl (fun K hK => ?_)
            go_simp
            refine ⟨rfl, HRR.out.mono ?_⟩
            rintro e W2 ⟨rfl, hJ2, hf2⟩
            have HJ2 := Lib.hid hJ2
            have HSt := Lib.hid (show Std W2 gA gB BA BB n1 D1 D1 D2 (x :: ra) (y :: rb) from HSy.out.fr HG.out hf2 (fun k h1 h2 e => by omega))
            have HR2 := Lib.hid (HRc.out.fr hf2 (fun e => by have := HNz.out; have := HG.out.ba; have := HG.out.d1; have := HG.out.bb; have := HG.out.d2; have := HG.out.ab; have := HG.out.n2; omega))
            have HN2' := Lib.hid (show n2 ≤ W2.heap.size from by have := HFy.out.size; have := hf2.size; omega)
            have HGz := Lib.hid (show g < W2.heap.size from HR2.out.lt)
            have c69 : W2.cell? ⟨g, 69, none⟩ = some (.bool true) := by rw [HR2.out.cell]; exact HC69.out
            have c70 : W2.cell? ⟨g, 70, none⟩ = some (.bool false) := by rw [HR2.out.cell]; exact HC70.out
            refine hK _ _ ?_
            clear hK K hy hJ2 hf2 HRR uB rB HRwy HSwy
            refine wpListIn_plain rfl (fun K hK => ?_)
            go_simp
            refine hK _ _ ?_
            clear hK K
            refine wpListIn_nil ?_)
          (
            have HLA := Lib.hid (show (restP (x :: ra)).length ≤ 100000 from by have := restP_len (x :: ra); omega)
            have hUA := Tpull1_any n1 D1 BA (restP (x :: ra)) HLA.out W2 (by have := HN2'.out; have := HG.out.d1; have := HG.out.bb; have := HG.out.d2; have := HG.out.ab; have := HG.out.n2; omega) HSt.out.pa
            obtain ⟨fa2, hfa2⟩ : ∃ f, fndC (restP (x :: ra)).head? = f := ⟨_, rfl⟩
            obtain ⟨ba2, hba2⟩ : ∃ f, (restP (x :: ra)).head?.isSome = f := ⟨_, rfl⟩
            have hfas2 : fa2.size = 34 := by rw [← hfa2]; exact fndC_size _
            have HFAA2 := Lib.hid (show fa2.all (·.oneCell') = true from by rw [← hfa2]; exact fndC_all _)
            have HFa2 := Lib.hid hfa2
            have HBa2 := Lib.hid hba2
            rw [hfa2, hba2] at hUA
            have HUA := Lib.hid hUA
            clear hUA hfa2 hba2)
          go_wp2_with (
            (first
            | (refine wpList_store_at rfl 27 (.tmp 6) _ rfl gA 0 27 cx fa2 rfl rfl HWA3.out (by rw [hcs, hfas2]; exact Nat.le_refl _) (by rw [hfas2]; exact size_ent) HFAA2.out ?_
               intro y4 hw4 hf4
               rw [laidAt_all _ _ (by rw [hcs, hfas2])] at hw4
               have HWA4 := Lib.hid hw4
               have HF34 := Lib.hid hf4
               have c70 : y4.cell? ⟨g, 70, none⟩ = some (.bool false) := by rw [((HR2.out.fr HF23.out (fun e => by have := HNz.out; have := HG.out.ba; have := HG.out.d1; have := HG.out.bb; have := HG.out.d2; have := HG.out.ab; have := HG.out.n2; omega)).fr hf4 (fun e => by have := HNz.out; have := HG.out.ab; have := HG.out.n2; omega)).cell]; exact HC70.out
               clear hw4 hf4)
            | (go_at_call 26
               refine HUA.out.mono ?_
               rintro e y3 ⟨rfl, p3, f3⟩
               have HP3 := Lib.hid p3
               have HF23 := Lib.hid f3
               have HWA3 := Lib.hid (show Whole y3 gA 27 cx from by have := HSt.out.wa.fr f3 (fun e => by have := HG.out.ba; have := HG.out.d1; have := HG.out.bb; have := HG.out.d2; omega); rwa [show fndC (List.head? (x :: ra)) = cx from HCX.out] at this)
               clear p3 f3 c70)))
          have hsk := skip_len x ra
          go_roundg ((restP (x :: ra)).length + (y :: rb).length)
          case measure => simp only [restP, List.length_cons] at hkx ⊢; omega
          case rel => exact ⟨_, restP (x :: ra), (y :: rb), W2, by rw [HBa2.out], rfl, by have := restP_len (x :: ra); omega, hlb, Nat.le_refl _, HMG2, HJ2.out, HN2'.out, (
            (HF23.out.mono (T := fun k => n1 ≤ k ∧ k < n2) (fun i hi e => by have := HG.out.ba; have := HG.out.d1; have := HG.out.bb; have := HG.out.d2; have := HG.out.ab; have := HG.out.n2; omega)).trans HF34.out (fun i hi e => by have := HG.out.ba; have := HG.out.d1; have := HG.out.bb; have := HG.out.d2; have := HG.out.ab; have := HG.out.n2; omega)), (
              ⟨(by rw [HFa2.out]; exact HWA4.out),
                (HSt.out.wb.fr HF23.out (fun e => by have := HG.out.ba; have := HG.out.d1; have := HG.out.bb; have := HG.out.d2; have := HG.out.ab; omega)).fr HF34.out (fun e => by have := HG.out.ab; omega),
                HP3.out.fr HF34.out (fun k h1 h2 e => by have := HG.out.d1; have := HG.out.bb; have := HG.out.d2; have := HG.out.ab; omega),
                (HSt.out.pb.fr HF23.out (fun k h1 h2 e => by have := HG.out.ba; omega)).fr HF34.out (fun k h1 h2 e => by have := HG.out.d2; omega)⟩)⟩
        | false =>
          rw [h1] at hls1
          cases h2 : ltB y.name x.name with
          | true =>
            rw [h2] at hls2
            (
              have hne : ¬ y.name = x.name := fun e => by rw [e, ltB_irrefl] at h2; cases h2
              have hq1 : ¬ S.toList = T.toList := by rw [← HSS.out, ← HTT.out, strB_list, strB_list]; exact fun e => hne e.symm
              have hq2 : (S.toList == T.toList) = false := beq_eq_false_iff_ne.2 hq1
              clear hne)
            have HMG2 := Lib.hid (show (pre ++ [⟨y.name, none, some y⟩]) ++ mg (dd (x :: ra)) (dd (restP (y :: rb))) = R from by rw [← HMG.out, restP_dd x ra, restP_dd y rb, mg_ab, if_neg (by rw [h1]; simp), if_pos h2, List.append_assoc]; rfl)
            clear h1 h2
            (
              have HWx := HWb
              have HCN := HCNb
              have HCA := HCAb
              clear HWb HCNb HCAb)
            go_upto_region 8 with fail
            (
              refine wp_region_held (S := fun w' => Fr (fun k => k = g) wz w') (by kernel_rfl) ?_
              have hSd : Fr (fun k => k = g) wz wz.drew := (Fr.refl _ wz).drew
              have HSd := Lib.hid hSd
              clear hSd
              refine wpAnyH_take (i := 2) (v := .agg cy) rfl (by kernel_rfl) (by kernel_rfl) (by kernel_rfl) (fun _ _ _ h => h) (yieldsIf_load_cxM (by kernel_rfl) (.tmp 8) rfl gB 0 (by kernel_rfl) cy hcsb (fun w' hS => (HWx.out.fr hS (fun e => by have := HNz.out; have := HG.out.ab; have := HG.out.n2; omega)).all_rangeM)) HSd.out ?_
              refine wpAnyH_take (i := 0) (v := .pointer (some ⟨gB, 0, none⟩)) rfl (by kernel_rfl) (by kernel_rfl) (by kernel_rfl) (fun _ _ _ h => h) (.inl ⟨by rfl, ?_⟩) HSd.out ?_
              · intro w' _
                go_simp
              refine wpAnyH_take (i := 1) (v := .string T) rfl (by kernel_rfl) (by kernel_rfl) (by kernel_rfl) (fun _ _ _ h => h) (.inl ⟨by rfl, ?_⟩) HSd.out ?_
              · intro w' hS
                have hc' : w'.cell? ⟨gB, 0, none⟩ = some (.string T) := by rw [(HWx.out.fr hS (fun e => by have := HNz.out; have := HG.out.ab; have := HG.out.n2; omega)).cell]; exact HCN.out
                clear hS
                go_simp
              (
                refine wpAnyH_all (rs := [3]) (by kernel_rfl) (by simp) ?_
                intro i hi
                simp only [List.mem_cons, List.not_mem_nil, or_false] at hi
                subst hi)
              refine wpOp_step rfl (fun K hK => ?_)
              go_simp
              refine hK _ _ ⟨HSd.out, ?_⟩
              clear hK K
              (
                refine wpAnyH_all (rs := [4]) (by kernel_rfl) (by simp) ?_
                intro i hi
                simp only [List.mem_cons, List.not_mem_nil, or_false] at hi
                subst hi)
              refine wpOp_step rfl (fun K hK => ?_)
              have HR0 := Lib.hid (show Whole wz.drew g 35 (rowV E zE zE false false) from HRz.out.fr ((Fr.refl (fun _ => False) _).drew) (fun e => e))
              have cz : wz.drew.cell? ⟨g, 0, none⟩ = some (.string E) := by rw [HR0.out.cell]; rfl
              have fz : wz.drew.frozen? ⟨g, 0, none⟩ = false := HR0.out.frozen 0
              go_simp
              clear cz fz
              obtain ⟨v1, hv1⟩ : ∃ v1, (wz.setCell ⟨g, 0, none⟩ (.string T)).drew = v1 := ⟨_, rfl⟩
              have HR1 := Lib.hid (show Whole v1 g 35 (rowV T zE zE false false) from by subst hv1; have := (HRz.out.set 0 (.string T)).fr ((Fr.refl (fun _ => False) _).drew) (fun e => e); rwa [rowV_name] at this)
              have HS1 := Lib.hid (show Fr (fun k => k = g) wz v1 from by subst hv1; exact (Fr.setCell (S := fun k => k = g) (p := ⟨g, 0, none⟩) (Fr.refl _ wz) (fun _ => rfl) _).drew)
              rw [hv1]
              clear hv1
              refine hK _ _ ⟨HS1.out, ?_⟩
              clear hK K
              (
                refine wpAnyH_all (rs := [5]) (by kernel_rfl) (by simp) ?_
                intro i hi
                simp only [List.mem_cons, List.not_mem_nil, or_false] at hi
                subst hi)
              refine wpOp_step rfl (fun K hK => ?_)
              go_simp
              refine hK _ _ ⟨HS1.out, ?_⟩
              clear hK K
              (
                refine wpAnyH_all (rs := [6]) (by kernel_rfl) (by simp) ?_
                intro i hi
                simp only [List.mem_cons, List.not_mem_nil, or_false] at hi
                subst hi)
              refine wpOp_step rfl (fun K hK => ?_)
              rw [if_pos (by kernel_rfl)]
              refine wp_store_at 27 (.tmp 63) (.tmp 61) rfl g 35 35 (rowV T zE zE false false) cy (by kernel_rfl) (by kernel_rfl) HR1.out (by rw [rowV_size _ _ _ _ _ hz34 hz34, hcsb]; decide) (by rw [hcsb]; exact size_ent) HCA.out ?_
              intro v2 hw2 hf2
              rw [rowV_b _ _ _ _ _ _ hz34 hz34 hcsb] at hw2
              have HR2 := Lib.hid hw2
              have HS2 := Lib.hid (show Fr (fun k => k = g) wz v2 from HS1.out.trans hf2 (fun _ _ e => e))
              clear hw2 hf2
              go_simp
              refine hK _ _ ⟨HS2.out, ?_⟩
              clear hK K
              (
                refine wpAnyH_all (rs := [7]) (by kernel_rfl) (by simp) ?_
                intro i hi
                simp only [List.mem_cons, List.not_mem_nil, or_false] at hi
                subst hi)
              refine wpOp_step rfl (fun K hK => ?_)
              go_simp
              refine hK _ _ ⟨HS2.out, ?_⟩
              clear hK K
              (
                refine wpAnyH_all (rs := [8]) (by kernel_rfl) (by simp) ?_
                intro i hi
                simp only [List.mem_cons, List.not_mem_nil, or_false] at hi
                subst hi)
              refine wpOp_step rfl (fun K hK => ?_)
              have cz : v2.cell? ⟨g, 70, none⟩ = some (.bool false) := by rw [HR2.out.cell]; exact rowV_at70 _ _ _ _ _ hz34 hcsb
              have fz : v2.frozen? ⟨g, 70, none⟩ = false := HR2.out.frozen 70
              go_simp
              clear cz fz
              obtain ⟨wy, hv3⟩ : ∃ v3, v2.setCell ⟨g, 70, none⟩ (.bool true) = v3 := ⟨_, rfl⟩
              have HRwy := Lib.hid (show Whole wy g 35 (rowV T zE cy false true) from by subst hv3; have := HR2.out.set 70 (.bool true); rwa [rowV_hb _ _ _ _ _ hz34 hcsb] at this)
              have HSwy := Lib.hid (show Fr (fun k => k = g) wz wy from by subst hv3; exact Fr.setCell (S := fun k => k = g) (p := ⟨g, 70, none⟩) HS2.out (fun _ => rfl) _)
              rw [hv3]
              clear hv3
              refine hK _ _ ⟨HSwy.out, ?_⟩
              clear hK K HR0 HR1 HR2 HS1 HS2 HSd
              refine wpAnyH_done (by kernel_rfl) ?_ _)
            (
              have HSy := Lib.hid (show Std wy gA gB BA BB n1 D1 D1 D2 (x :: ra) (y :: rb) from HSz.out.fr HG.out HSwy.out (fun k h1 h2 e => by have := HNz.out; omega))
              have HFy := Lib.hid (show Fr (fun k => n1 ≤ k ∧ k < n2) W0 wy from (HFo.out.trans HFz.out (fun _ _ e => e.elim)).trans HSwy.out (fun i hi e => by have := HNz.out; omega))
              have hyy := HYY.out n2 pre ⟨y.name, none, some y⟩ W0 wy (by have := HG.out.ba; have := HG.out.d1; have := HG.out.bb; have := HG.out.d2; have := HG.out.ab; have := HG.out.n2; omega) hn0 HJo.out HFy.out (by rw [← HMG2.out]; simp)
              have HRc := Lib.hid HRwy.out
              rw [show rowV T zE cy false true = rwC ⟨y.name, none, some y⟩ from by rw [← HTT.out, ← HCY.out, ← HZE.out]; rfl] at HRc
              obtain ⟨cr, hcr⟩ : ∃ c, rwC ⟨y.name, none, some y⟩ = c := ⟨_, rfl⟩
              have hcrs : cr.size = 71 := by rw [← hcr]; exact rwC_size _
              have HC69 := Lib.hid (show cr[69]? = some (.bool false) from by rw [← hcr]; exact rowV_at69 _ _ _ _ _ (fndC_size _) (fndC_size _))
              have HC70 := Lib.hid (show cr[70]? = some (.bool true) from by rw [← hcr]; exact rowV_at70 _ _ _ _ _ (fndC_size _) (fndC_size _))
              rw [hcr] at hyy HRc
              obtain ⟨fn, tm, asg, bdy, hy, hR⟩ := hyy
              have HRR := Lib.hid hR
              obtain ⟨dB, uB, rB⟩ := underB
              clear hR hcr
              go_upto_region 9 with fail
              refine (wpIn_wide (n := 0)).1 ?_
              refine wpIn_region_lit ?_
              refine wpListIn_plain rfl (fun K hK => ?_)
              go_simp
              refine hK _ _ ?_
              clear hK K
              refine wpListIn_load_midW rfl 35 (.tmp 10) rfl g 0 rfl cr dB HRc.out.all_rangeM uB rB (by rw [hcrs]; exact size_both) ?_
              refine wpListIn_plain rfl (fun K hK => ?_)
              go_simp
              refine ⟨rfl, HRR.out.mono ?_⟩
              rintro e W2 ⟨rfl, hJ2, hf2⟩
              have HJ2 := Lib.hid hJ2
              have HSt := Lib.hid (show Std W2 gA gB BA BB n1 D1 D1 D2 (x :: ra) (y :: rb) from HSy.out.fr HG.out hf2 (fun k h1 h2 e => by omega))
              have HR2 := Lib.hid (HRc.out.fr hf2 (fun e => by have := HNz.out; have := HG.out.ba; have := HG.out.d1; have := HG.out.bb; have := HG.out.d2; have := HG.out.ab; have := HG.out.n2; omega))
              have HN2' := Lib.hid (show n2 ≤ W2.heap.size from by have := HFy.out.size; have := hf2.size; omega)
              have HGz := Lib.hid (show g < W2.heap.size from HR2.out.lt)
              have c69 : W2.cell? ⟨g, 69, none⟩ = some (.bool false) := by rw [HR2.out.cell]; exact HC69.out
              have c70 : W2.cell? ⟨g, 70, none⟩ = some (.bool true) := by rw [HR2.out.cell]; exact HC70.out
              refine hK _ _ ?_
              clear hK K hy hJ2 hf2 HRR uB rB HRwy HSwy
              refine wpListIn_plain rfl (fun K hK => ?_)
              go_simp
              refine hK _ _ ?_
              clear hK K
              refine wpListIn_nil ?_)
            (
              have HLB := Lib.hid (show (restP (y :: rb)).length ≤ 100000 from by have := restP_len (y :: rb); omega)
              have HUB := Lib.hid (fun w5 (h5 : D2 ≤ w5.heap.size) (p5 : PullAt D1 D2 w5 BB (restP (y :: rb))) => Tpull1_any D1 D2 BB (restP (y :: rb)) HLB.out w5 h5 p5)
              obtain ⟨fb2, hfb2⟩ : ∃ f, fndC (restP (y :: rb)).head? = f := ⟨_, rfl⟩
              obtain ⟨bb2, hbb2⟩ : ∃ f, (restP (y :: rb)).head?.isSome = f := ⟨_, rfl⟩
              have hfbs2 : fb2.size = 34 := by rw [← hfb2]; exact fndC_size _
              have HFBA2 := Lib.hid (show fb2.all (·.oneCell') = true from by rw [← hfb2]; exact fndC_all _)
              have HFb2 := Lib.hid hfb2
              have HBb2 := Lib.hid hbb2
              rw [hfb2, hbb2] at HUB
              clear hfb2 hbb2)
            have MA := True.intro
            go_wp2_with (
              (first
              | (have _ := MB
                 refine wpList_store_at rfl 27 (.tmp 8) _ rfl gB 0 27 cy fb2 rfl rfl HWB5.out (by rw [hcsb, hfbs2]; exact Nat.le_refl _) (by rw [hfbs2]; exact size_ent) HFBA2.out ?_
                 intro y6 hw6 hf6
                 rw [laidAt_all _ _ (by rw [hcsb, hfbs2])] at hw6
                 have HWB6 := Lib.hid hw6
                 have HF56 := Lib.hid hf6
                 clear hw6 hf6)
              | (have _ := MA
                 go_at_call 26
                 refine (HUB.out W2 (by have := HN2'.out; have := HG.out.d2; have := HG.out.ab; have := HG.out.n2; omega) HSt.out.pb).mono ?_
                 rintro e y5 ⟨rfl, p5, f5⟩
                 have HP5 := Lib.hid p5
                 have HF45 := Lib.hid f5
                 have MB := True.intro
                 have HWB5 := Lib.hid (show Whole y5 gB 27 cy from by have := (HSt.out.wb).fr f5 (fun e => by have := HG.out.bb; have := HG.out.d2; have := HG.out.ab; omega); rwa [show fndC (List.head? (y :: rb)) = cy from HCY.out] at this)
                 clear p5 f5)))
            have hsk := skip_len y rb
            go_roundg ((x :: ra).length + (restP (y :: rb)).length)
            case measure => simp only [restP, List.length_cons] at hkx ⊢; omega
            case rel => exact ⟨_, (x :: ra), restP (y :: rb), W2, rfl, by rw [HBb2.out], hla, by have := restP_len (y :: rb); omega, Nat.le_refl _, HMG2, HJ2.out, HN2'.out, (
              (HF45.out.mono (T := fun k => n1 ≤ k ∧ k < n2) (fun i hi e => by have := HG.out.ba; have := HG.out.d1; have := HG.out.bb; have := HG.out.d2; have := HG.out.ab; have := HG.out.n2; omega)).trans HF56.out (fun i hi e => by have := HG.out.ba; have := HG.out.d1; have := HG.out.bb; have := HG.out.d2; have := HG.out.ab; have := HG.out.n2; omega)), (
                ⟨((HSt.out.wa.fr HF45.out (fun e => by have := HG.out.ba; have := HG.out.d1; have := HG.out.bb; have := HG.out.d2; have := HG.out.ab; have := HG.out.n2; omega)).fr HF56.out (fun e => by have := HG.out.ba; have := HG.out.d1; have := HG.out.bb; have := HG.out.d2; have := HG.out.ab; have := HG.out.n2; omega)),
                  (by rw [HFb2.out]; exact HWB6.out),
                  (HSt.out.pa.fr HF45.out (fun k h1 h2 e => by have := HG.out.ba; have := HG.out.d1; have := HG.out.bb; have := HG.out.d2; have := HG.out.ab; have := HG.out.n2; omega)).fr HF56.out (fun k h1 h2 e => by have := HG.out.ba; have := HG.out.d1; have := HG.out.bb; have := HG.out.d2; have := HG.out.ab; have := HG.out.n2; omega),
                  HP5.out.fr HF56.out (fun k h1 h2 e => by have := HG.out.ba; have := HG.out.d1; have := HG.out.bb; have := HG.out.d2; have := HG.out.ab; have := HG.out.n2; omega)⟩)⟩
          | false =>
            have hxy : x.name = y.name := ltB_total _ _ h1 h2
            rw [h2] at hls2
            have HMG2 := Lib.hid (show (pre ++ [⟨x.name, some x, some y⟩]) ++ mg (dd (restP (x :: ra))) (dd (restP (y :: rb))) = R from by rw [← HMG.out, restP_dd x ra, restP_dd y rb, mg_ab, if_neg (by rw [h1]; simp), if_neg (by rw [h2]; simp), List.append_assoc]; rfl)
            obtain rfl : T = S := by rw [← HSS.out, ← HTT.out, hxy]
            clear h1 h2 hxy hls2
            go_upto_region 6 with fail
            (
              refine wp_region_held (S := fun w' => Fr (fun k => k = g) wz w') (by kernel_rfl) ?_
              have hSd : Fr (fun k => k = g) wz wz.drew := (Fr.refl _ wz).drew
              have HSd := Lib.hid hSd
              clear hSd
              refine wpAnyH_take (i := 2) (v := .agg cx) rfl (by kernel_rfl) (by kernel_rfl) (by kernel_rfl) (fun _ _ _ h => h) (yieldsIf_load_cxM (by kernel_rfl) (.tmp 6) rfl gA 0 (by kernel_rfl) cx hcs (fun w' hS => (HWx.out.fr hS (fun e => by have := HNz.out; have := HG.out.ab; have := HG.out.n2; omega)).all_rangeM)) HSd.out ?_
              refine wpAnyH_take (i := 0) (v := .pointer (some ⟨gA, 0, none⟩)) rfl (by kernel_rfl) (by kernel_rfl) (by kernel_rfl) (fun _ _ _ h => h) (.inl ⟨by rfl, ?_⟩) HSd.out ?_
              · intro w' _
                go_simp
              refine wpAnyH_take (i := 1) (v := .string T) rfl (by kernel_rfl) (by kernel_rfl) (by kernel_rfl) (fun _ _ _ h => h) (.inl ⟨by rfl, ?_⟩) HSd.out ?_
              · intro w' hS
                have hc' : w'.cell? ⟨gA, 0, none⟩ = some (.string T) := by rw [(HWx.out.fr hS (fun e => by have := HNz.out; have := HG.out.ab; have := HG.out.n2; omega)).cell]; exact HCN.out
                clear hS
                go_simp
              (
                refine wpAnyH_all (rs := [3]) (by kernel_rfl) (by simp) ?_
                intro i hi
                simp only [List.mem_cons, List.not_mem_nil, or_false] at hi
                subst hi)
              refine wpOp_step rfl (fun K hK => ?_)
              go_simp
              refine hK _ _ ⟨HSd.out, ?_⟩
              clear hK K
              (
                refine wpAnyH_all (rs := [4]) (by kernel_rfl) (by simp) ?_
                intro i hi
                simp only [List.mem_cons, List.not_mem_nil, or_false] at hi
                subst hi)
              refine wpOp_step rfl (fun K hK => ?_)
              have HR0 := Lib.hid (show Whole wz.drew g 35 (rowV E zE zE false false) from HRz.out.fr ((Fr.refl (fun _ => False) _).drew) (fun e => e))
              have cz : wz.drew.cell? ⟨g, 0, none⟩ = some (.string E) := by rw [HR0.out.cell]; rfl
              have fz : wz.drew.frozen? ⟨g, 0, none⟩ = false := HR0.out.frozen 0
              go_simp
              clear cz fz
              obtain ⟨v1, hv1⟩ : ∃ v1, (wz.setCell ⟨g, 0, none⟩ (.string T)).drew = v1 := ⟨_, rfl⟩
              have HR1 := Lib.hid (show Whole v1 g 35 (rowV T zE zE false false) from by subst hv1; have := (HRz.out.set 0 (.string T)).fr ((Fr.refl (fun _ => False) _).drew) (fun e => e); rwa [rowV_name] at this)
              have HS1 := Lib.hid (show Fr (fun k => k = g) wz v1 from by subst hv1; exact (Fr.setCell (S := fun k => k = g) (p := ⟨g, 0, none⟩) (Fr.refl _ wz) (fun _ => rfl) _).drew)
              rw [hv1]
              clear hv1
              refine hK _ _ ⟨HS1.out, ?_⟩
              clear hK K
              (
                refine wpAnyH_all (rs := [5]) (by kernel_rfl) (by simp) ?_
                intro i hi
                simp only [List.mem_cons, List.not_mem_nil, or_false] at hi
                subst hi)
              refine wpOp_step rfl (fun K hK => ?_)
              go_simp
              refine hK _ _ ⟨HS1.out, ?_⟩
              clear hK K
              (
                refine wpAnyH_all (rs := [6]) (by kernel_rfl) (by simp) ?_
                intro i hi
                simp only [List.mem_cons, List.not_mem_nil, or_false] at hi
                subst hi)
              refine wpOp_step rfl (fun K hK => ?_)
              rw [if_pos (by kernel_rfl)]
              refine wp_store_at 27 (.tmp 45) (.tmp 43) rfl g 1 35 (rowV T zE zE false false) cx (by kernel_rfl) (by kernel_rfl) HR1.out (by rw [rowV_size _ _ _ _ _ hz34 hz34, hcs]; decide) (by rw [hcs]; exact size_ent) HCA.out ?_
              intro v2 hw2 hf2
              rw [rowV_a _ _ _ _ _ _ hz34 hcs] at hw2
              have HR2 := Lib.hid hw2
              have HS2 := Lib.hid (show Fr (fun k => k = g) wz v2 from HS1.out.trans hf2 (fun _ _ e => e))
              clear hw2 hf2
              go_simp
              refine hK _ _ ⟨HS2.out, ?_⟩
              clear hK K
              (
                refine wpAnyH_all (rs := [7]) (by kernel_rfl) (by simp) ?_
                intro i hi
                simp only [List.mem_cons, List.not_mem_nil, or_false] at hi
                subst hi)
              refine wpOp_step rfl (fun K hK => ?_)
              go_simp
              refine hK _ _ ⟨HS2.out, ?_⟩
              clear hK K
              (
                refine wpAnyH_all (rs := [8]) (by kernel_rfl) (by simp) ?_
                intro i hi
                simp only [List.mem_cons, List.not_mem_nil, or_false] at hi
                subst hi)
              refine wpOp_step rfl (fun K hK => ?_)
              have cz : v2.cell? ⟨g, 69, none⟩ = some (.bool false) := by rw [HR2.out.cell]; exact rowV_at69 _ _ _ _ _ hcs hz34
              have fz : v2.frozen? ⟨g, 69, none⟩ = false := HR2.out.frozen 69
              go_simp
              clear cz fz
              obtain ⟨wx, hv3⟩ : ∃ v3, v2.setCell ⟨g, 69, none⟩ (.bool true) = v3 := ⟨_, rfl⟩
              have HRwx := Lib.hid (show Whole wx g 35 (rowV T cx zE true false) from by subst hv3; have := HR2.out.set 69 (.bool true); rwa [rowV_ha _ _ _ _ _ hcs hz34] at this)
              have HSwx := Lib.hid (show Fr (fun k => k = g) wz wx from by subst hv3; exact Fr.setCell (S := fun k => k = g) (p := ⟨g, 69, none⟩) HS2.out (fun _ => rfl) _)
              rw [hv3]
              clear hv3
              refine hK _ _ ⟨HSwx.out, ?_⟩
              clear hK K HR0 HR1 HR2 HS1 HS2 HSd
              refine wpAnyH_done (by kernel_rfl) ?_ _)
            have HSwy := HSwx
            (
              have hcA : wx.cell? ⟨gA, 0, none⟩ = some (.string T) := by
                have := HWx.out.fr HSwy.out (fun e => by have := HNz.out; have := HG.out.ab; have := HG.out.n2; omega)
                rw [this.cell]; exact HCN.out
              have hcB : wx.cell? ⟨gB, 0, none⟩ = some (.string T) := by
                have := HWb.out.fr HSwy.out (fun e => by have := HNz.out; have := HG.out.ab; have := HG.out.n2; omega)
                rw [this.cell]; exact HCNb.out)
            have HWx := Lib.hid (HWb.out.fr HSwx.out (fun e => by have := HNz.out; have := HG.out.ab; have := HG.out.n2; omega))
            have HCN := HCNb
            have HCA := HCAb
            clear HWb HCNb HCAb HSwy
            go_upto_region 8 with fail
            (
              refine wp_region_held (S := fun w' => Fr (fun k => k = g) wx w') (by kernel_rfl) ?_
              have hSd : Fr (fun k => k = g) wx wx.drew := (Fr.refl _ wx).drew
              have HSd := Lib.hid hSd
              clear hSd
              refine wpAnyH_take (i := 2) (v := .agg cy) rfl (by kernel_rfl) (by kernel_rfl) (by kernel_rfl) (fun _ _ _ h => h) (yieldsIf_load_cxM (by kernel_rfl) (.tmp 8) rfl gB 0 (by kernel_rfl) cy hcsb (fun w' hS => (HWx.out.fr hS (fun e => by have := HNz.out; have := HG.out.ab; have := HG.out.n2; omega)).all_rangeM)) HSd.out ?_
              refine wpAnyH_take (i := 0) (v := .pointer (some ⟨gB, 0, none⟩)) rfl (by kernel_rfl) (by kernel_rfl) (by kernel_rfl) (fun _ _ _ h => h) (.inl ⟨by rfl, ?_⟩) HSd.out ?_
              · intro w' _
                go_simp
              refine wpAnyH_take (i := 1) (v := .string T) rfl (by kernel_rfl) (by kernel_rfl) (by kernel_rfl) (fun _ _ _ h => h) (.inl ⟨by rfl, ?_⟩) HSd.out ?_
              · intro w' hS
                have hc' : w'.cell? ⟨gB, 0, none⟩ = some (.string T) := by rw [(HWx.out.fr hS (fun e => by have := HNz.out; have := HG.out.ab; have := HG.out.n2; omega)).cell]; exact HCN.out
                clear hS
                go_simp
              (
                refine wpAnyH_all (rs := [3]) (by kernel_rfl) (by simp) ?_
                intro i hi
                simp only [List.mem_cons, List.not_mem_nil, or_false] at hi
                subst hi)
              refine wpOp_step rfl (fun K hK => ?_)
              go_simp
              refine hK _ _ ⟨HSd.out, ?_⟩
              clear hK K
              (
                refine wpAnyH_all (rs := [4]) (by kernel_rfl) (by simp) ?_
                intro i hi
                simp only [List.mem_cons, List.not_mem_nil, or_false] at hi
                subst hi)
              refine wpOp_step rfl (fun K hK => ?_)
              have HR0 := Lib.hid (show Whole wx.drew g 35 (rowV T cx zE true false) from HRwx.out.fr ((Fr.refl (fun _ => False) _).drew) (fun e => e))
              have cz : wx.drew.cell? ⟨g, 0, none⟩ = some (.string T) := by rw [HR0.out.cell]; rfl
              have fz : wx.drew.frozen? ⟨g, 0, none⟩ = false := HR0.out.frozen 0
              go_simp
              clear cz fz
              obtain ⟨v1, hv1⟩ : ∃ v1, (wx.setCell ⟨g, 0, none⟩ (.string T)).drew = v1 := ⟨_, rfl⟩
              have HR1 := Lib.hid (show Whole v1 g 35 (rowV T cx zE true false) from by subst hv1; have := (HRwx.out.set 0 (.string T)).fr ((Fr.refl (fun _ => False) _).drew) (fun e => e); rwa [rowV_name] at this)
              have HS1 := Lib.hid (show Fr (fun k => k = g) wx v1 from by subst hv1; exact (Fr.setCell (S := fun k => k = g) (p := ⟨g, 0, none⟩) (Fr.refl _ wx) (fun _ => rfl) _).drew)
              rw [hv1]
              clear hv1
              refine hK _ _ ⟨HS1.out, ?_⟩
              clear hK K
              (
                refine wpAnyH_all (rs := [5]) (by kernel_rfl) (by simp) ?_
                intro i hi
                simp only [List.mem_cons, List.not_mem_nil, or_false] at hi
                subst hi)
              refine wpOp_step rfl (fun K hK => ?_)
              go_simp
              refine hK _ _ ⟨HS1.out, ?_⟩
              clear hK K
              (
                refine wpAnyH_all (rs := [6]) (by kernel_rfl) (by simp) ?_
                intro i hi
                simp only [List.mem_cons, List.not_mem_nil, or_false] at hi
                subst hi)
              refine wpOp_step rfl (fun K hK => ?_)
              rw [if_pos (by kernel_rfl)]
              refine wp_store_at 27 (.tmp 63) (.tmp 61) rfl g 35 35 (rowV T cx zE true false) cy (by kernel_rfl) (by kernel_rfl) HR1.out (by rw [rowV_size _ _ _ _ _ hcs hz34, hcsb]; decide) (by rw [hcsb]; exact size_ent) HCA.out ?_
              intro v2 hw2 hf2
              rw [rowV_b _ _ _ _ _ _ hcs hz34 hcsb] at hw2
              have HR2 := Lib.hid hw2
              have HS2 := Lib.hid (show Fr (fun k => k = g) wx v2 from HS1.out.trans hf2 (fun _ _ e => e))
              clear hw2 hf2
              go_simp
              refine hK _ _ ⟨HS2.out, ?_⟩
              clear hK K
              (
                refine wpAnyH_all (rs := [7]) (by kernel_rfl) (by simp) ?_
                intro i hi
                simp only [List.mem_cons, List.not_mem_nil, or_false] at hi
                subst hi)
              refine wpOp_step rfl (fun K hK => ?_)
              go_simp
              refine hK _ _ ⟨HS2.out, ?_⟩
              clear hK K
              (
                refine wpAnyH_all (rs := [8]) (by kernel_rfl) (by simp) ?_
                intro i hi
                simp only [List.mem_cons, List.not_mem_nil, or_false] at hi
                subst hi)
              refine wpOp_step rfl (fun K hK => ?_)
              have cz : v2.cell? ⟨g, 70, none⟩ = some (.bool false) := by rw [HR2.out.cell]; exact rowV_at70 _ _ _ _ _ hcs hcsb
              have fz : v2.frozen? ⟨g, 70, none⟩ = false := HR2.out.frozen 70
              go_simp
              clear cz fz
              obtain ⟨wy, hv3⟩ : ∃ v3, v2.setCell ⟨g, 70, none⟩ (.bool true) = v3 := ⟨_, rfl⟩
              have HRwy := Lib.hid (show Whole wy g 35 (rowV T cx cy true true) from by subst hv3; have := HR2.out.set 70 (.bool true); rwa [rowV_hb _ _ _ _ _ hcs hcsb] at this)
              have HSwy := Lib.hid (show Fr (fun k => k = g) wx wy from by subst hv3; exact Fr.setCell (S := fun k => k = g) (p := ⟨g, 70, none⟩) HS2.out (fun _ => rfl) _)
              rw [hv3]
              clear hv3
              refine hK _ _ ⟨HSwy.out, ?_⟩
              clear hK K HR0 HR1 HR2 HS1 HS2 HSd
              refine wpAnyH_done (by kernel_rfl) ?_ _)
            have HSwy := Lib.hid (HSwx.out.trans HSwy.out (fun _ _ e => e))
            (
              have HSy := Lib.hid (show Std wy gA gB BA BB n1 D1 D1 D2 (x :: ra) (y :: rb) from HSz.out.fr HG.out HSwy.out (fun k h1 h2 e => by have := HNz.out; omega))
              have HFy := Lib.hid (show Fr (fun k => n1 ≤ k ∧ k < n2) W0 wy from (HFo.out.trans HFz.out (fun _ _ e => e.elim)).trans HSwy.out (fun i hi e => by have := HNz.out; omega))
              have hyy := HYY.out n2 pre ⟨x.name, some x, some y⟩ W0 wy (by have := HG.out.ba; have := HG.out.d1; have := HG.out.bb; have := HG.out.d2; have := HG.out.ab; have := HG.out.n2; omega) hn0 HJo.out HFy.out (by rw [← HMG2.out]; simp)
              have HRc := Lib.hid HRwy.out
              rw [show rowV T cx cy true true = rwC ⟨x.name, some x, some y⟩ from by rw [← HSS.out, ← HCX.out, ← HCY.out]; rfl] at HRc
              obtain ⟨cr, hcr⟩ : ∃ c, rwC ⟨x.name, some x, some y⟩ = c := ⟨_, rfl⟩
              have hcrs : cr.size = 71 := by rw [← hcr]; exact rwC_size _
              have HC69 := Lib.hid (show cr[69]? = some (.bool true) from by rw [← hcr]; exact rowV_at69 _ _ _ _ _ (fndC_size _) (fndC_size _))
              have HC70 := Lib.hid (show cr[70]? = some (.bool true) from by rw [← hcr]; exact rowV_at70 _ _ _ _ _ (fndC_size _) (fndC_size _))
              rw [hcr] at hyy HRc
              obtain ⟨fn, tm, asg, bdy, hy, hR⟩ := hyy
              have HRR := Lib.hid hR
              obtain ⟨dB, uB, rB⟩ := underB
              clear hR hcr
              go_upto_region 9 with fail
              refine (wpIn_wide (n := 0)).1 ?_
              refine wpIn_region_lit ?_
              refine wpListIn_plain rfl (fun K hK => ?_)
              go_simp
              refine hK _ _ ?_
              clear hK K
              refine wpListIn_load_midW rfl 35 (.tmp 10) rfl g 0 rfl cr dB HRc.out.all_rangeM uB rB (by rw [hcrs]; exact size_both) ?_
              refine wpListIn_plain rfl (fun K hK => ?_)
              go_simp
              refine ⟨rfl, HRR.out.mono ?_⟩
              rintro e W2 ⟨rfl, hJ2, hf2⟩
              have HJ2 := Lib.hid hJ2
              have HSt := Lib.hid (show Std W2 gA gB BA BB n1 D1 D1 D2 (x :: ra) (y :: rb) from HSy.out.fr HG.out hf2 (fun k h1 h2 e => by omega))
              have HR2 := Lib.hid (HRc.out.fr hf2 (fun e => by have := HNz.out; have := HG.out.ba; have := HG.out.d1; have := HG.out.bb; have := HG.out.d2; have := HG.out.ab; have := HG.out.n2; omega))
              have HN2' := Lib.hid (show n2 ≤ W2.heap.size from by have := HFy.out.size; have := hf2.size; omega)
              have HGz := Lib.hid (show g < W2.heap.size from HR2.out.lt)
              have c69 : W2.cell? ⟨g, 69, none⟩ = some (.bool true) := by rw [HR2.out.cell]; exact HC69.out
              have c70 : W2.cell? ⟨g, 70, none⟩ = some (.bool true) := by rw [HR2.out.cell]; exact HC70.out
              refine hK _ _ ?_
              clear hK K hy hJ2 hf2 HRR uB rB HRwy HSwy
              refine wpListIn_plain rfl (fun K hK => ?_)
              go_simp
              refine hK _ _ ?_
              clear hK K
              refine wpListIn_nil ?_)
            (
              have HLA := Lib.hid (show (restP (x :: ra)).length ≤ 100000 from by have := restP_len (x :: ra); omega)
              have hUA := Tpull1_any n1 D1 BA (restP (x :: ra)) HLA.out W2 (by have := HN2'.out; have := HG.out.d1; have := HG.out.bb; have := HG.out.d2; have := HG.out.ab; have := HG.out.n2; omega) HSt.out.pa
              obtain ⟨fa2, hfa2⟩ : ∃ f, fndC (restP (x :: ra)).head? = f := ⟨_, rfl⟩
              obtain ⟨ba2, hba2⟩ : ∃ f, (restP (x :: ra)).head?.isSome = f := ⟨_, rfl⟩
              have hfas2 : fa2.size = 34 := by rw [← hfa2]; exact fndC_size _
              have HFAA2 := Lib.hid (show fa2.all (·.oneCell') = true from by rw [← hfa2]; exact fndC_all _)
              have HFa2 := Lib.hid hfa2
              have HBa2 := Lib.hid hba2
              rw [hfa2, hba2] at hUA
              have HUA := Lib.hid hUA
              clear hUA hfa2 hba2)
            (
              have HLB := Lib.hid (show (restP (y :: rb)).length ≤ 100000 from by have := restP_len (y :: rb); omega)
              have HUB := Lib.hid (fun w5 (h5 : D2 ≤ w5.heap.size) (p5 : PullAt D1 D2 w5 BB (restP (y :: rb))) => Tpull1_any D1 D2 BB (restP (y :: rb)) HLB.out w5 h5 p5)
              obtain ⟨fb2, hfb2⟩ : ∃ f, fndC (restP (y :: rb)).head? = f := ⟨_, rfl⟩
              obtain ⟨bb2, hbb2⟩ : ∃ f, (restP (y :: rb)).head?.isSome = f := ⟨_, rfl⟩
              have hfbs2 : fb2.size = 34 := by rw [← hfb2]; exact fndC_size _
              have HFBA2 := Lib.hid (show fb2.all (·.oneCell') = true from by rw [← hfb2]; exact fndC_all _)
              have HFb2 := Lib.hid hfb2
              have HBb2 := Lib.hid hbb2
              rw [hfb2, hbb2] at HUB
              clear hfb2 hbb2)
            go_wp2_with (first
              | (
                (first
                | (have _ := MB
                   refine wpList_store_at rfl 27 (.tmp 8) _ rfl gB 0 27 cy fb2 rfl rfl HWB5.out (by rw [hcsb, hfbs2]; exact Nat.le_refl _) (by rw [hfbs2]; exact size_ent) HFBA2.out ?_
                   intro y6 hw6 hf6
                   rw [laidAt_all _ _ (by rw [hcsb, hfbs2])] at hw6
                   have HWB6 := Lib.hid hw6
                   have HF56 := Lib.hid hf6
                   clear hw6 hf6)
                | (have _ := HF34
                   go_at_call 26
                   refine (HUB.out y4 (by have := HN2'.out; have := HF23.out.size; have := HF34.out.size; have := HG.out.ba; have := HG.out.d1; have := HG.out.bb; have := HG.out.d2; have := HG.out.ab; have := HG.out.n2; omega) ((HSt.out.pb.fr HF23.out (fun k h1 h2 e => by have := HG.out.ba; have := HG.out.d1; have := HG.out.bb; have := HG.out.d2; have := HG.out.ab; have := HG.out.n2; omega)).fr HF34.out (fun k h1 h2 e => by have := HG.out.ba; have := HG.out.d1; have := HG.out.bb; have := HG.out.d2; have := HG.out.ab; have := HG.out.n2; omega))).mono ?_
                   rintro e y5 ⟨rfl, p5, f5⟩
                   have HP5 := Lib.hid p5
                   have HF45 := Lib.hid f5
                   have MB := True.intro
                   have HWB5 := Lib.hid (show Whole y5 gB 27 cy from by have := (((HSt.out.wb.fr HF23.out (fun e => by have := HG.out.ba; have := HG.out.d1; have := HG.out.bb; have := HG.out.d2; have := HG.out.ab; have := HG.out.n2; omega)).fr HF34.out (fun e => by have := HG.out.ba; have := HG.out.d1; have := HG.out.bb; have := HG.out.d2; have := HG.out.ab; have := HG.out.n2; omega))).fr f5 (fun e => by have := HG.out.bb; have := HG.out.d2; have := HG.out.ab; omega); rwa [show fndC (List.head? (y :: rb)) = cy from HCY.out] at this)
                   clear p5 f5)))
              | (
                (first
                | (refine wpList_store_at rfl 27 (.tmp 6) _ rfl gA 0 27 cx fa2 rfl rfl HWA3.out (by rw [hcs, hfas2]; exact Nat.le_refl _) (by rw [hfas2]; exact size_ent) HFAA2.out ?_
                   intro y4 hw4 hf4
                   rw [laidAt_all _ _ (by rw [hcs, hfas2])] at hw4
                   have HWA4 := Lib.hid hw4
                   have HF34 := Lib.hid hf4
                   have c70 : y4.cell? ⟨g, 70, none⟩ = some (.bool true) := by rw [((HR2.out.fr HF23.out (fun e => by have := HNz.out; have := HG.out.ba; have := HG.out.d1; have := HG.out.bb; have := HG.out.d2; have := HG.out.ab; have := HG.out.n2; omega)).fr hf4 (fun e => by have := HNz.out; have := HG.out.ab; have := HG.out.n2; omega)).cell]; exact HC70.out
                   clear hw4 hf4)
                | (go_at_call 26
                   refine HUA.out.mono ?_
                   rintro e y3 ⟨rfl, p3, f3⟩
                   have HP3 := Lib.hid p3
                   have HF23 := Lib.hid f3
                   have HWA3 := Lib.hid (show Whole y3 gA 27 cx from by have := HSt.out.wa.fr f3 (fun e => by have := HG.out.ba; have := HG.out.d1; have := HG.out.bb; have := HG.out.d2; omega); rwa [show fndC (List.head? (x :: ra)) = cx from HCX.out] at this)
                   clear p3 f3 c70))))
            have hsk := skip_len x ra
            have hskb := skip_len y rb
            go_roundg ((restP (x :: ra)).length + (restP (y :: rb)).length)
            case measure => simp only [restP, List.length_cons] at hkx ⊢; omega
            case rel =>
              refine ⟨_, restP (x :: ra), restP (y :: rb), W2, by rw [HBa2.out], by rw [HBb2.out], by have := restP_len (x :: ra); omega, by have := restP_len (y :: rb); omega, Nat.le_refl _, HMG2, HJ2.out, HN2'.out, ?_, ⟨?_, ?_, ?_, ?_⟩⟩
              · exact (((HF23.out.mono (T := fun k => n1 ≤ k ∧ k < n2) (fun i hi e => by have := HG.out.ba; have := HG.out.d1; have := HG.out.bb; have := HG.out.d2; have := HG.out.ab; have := HG.out.n2; omega)).trans HF34.out (fun i hi e => by have := HG.out.ba; have := HG.out.d1; have := HG.out.bb; have := HG.out.d2; have := HG.out.ab; have := HG.out.n2; omega)).trans HF45.out (fun i hi e => by have := HG.out.ba; have := HG.out.d1; have := HG.out.bb; have := HG.out.d2; have := HG.out.ab; have := HG.out.n2; omega)).trans HF56.out (fun i hi e => by have := HG.out.ba; have := HG.out.d1; have := HG.out.bb; have := HG.out.d2; have := HG.out.ab; have := HG.out.n2; omega)
              · rw [HFa2.out]; exact (HWA4.out.fr HF45.out (fun e => by have := HG.out.ba; have := HG.out.d1; have := HG.out.bb; have := HG.out.d2; have := HG.out.ab; have := HG.out.n2; omega)).fr HF56.out (fun e => by have := HG.out.ba; have := HG.out.d1; have := HG.out.bb; have := HG.out.d2; have := HG.out.ab; have := HG.out.n2; omega)
              · rw [HFb2.out]; exact HWB6.out
              · exact ((HP3.out.fr HF34.out (fun k h1 h2 e => by have := HG.out.ba; have := HG.out.d1; have := HG.out.bb; have := HG.out.d2; have := HG.out.ab; have := HG.out.n2; omega)).fr HF45.out (fun k h1 h2 e => by have := HG.out.ba; have := HG.out.d1; have := HG.out.bb; have := HG.out.d2; have := HG.out.ab; have := HG.out.n2; omega)).fr HF56.out (fun k h1 h2 e => by have := HG.out.ba; have := HG.out.d1; have := HG.out.bb; have := HG.out.d2; have := HG.out.ab; have := HG.out.n2; omega)
              · exact HP5.out.fr HF56.out (fun k h1 h2 e => by have := HG.out.ba; have := HG.out.d1; have := HG.out.bb; have := HG.out.d2; have := HG.out.ab; have := HG.out.n2; omega)
end Go.Proofs.Ytinjednmamkjgaa

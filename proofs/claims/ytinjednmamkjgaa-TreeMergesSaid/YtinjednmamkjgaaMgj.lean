/- What is proved: the walk of the law TreeMerges, for any two lists and any text. Conditions: the lists' cells are there. -/
import Derived.Test.YtinjednmamkjgaaMgi
namespace Go.Proofs.Ytinjednmamkjgaa
open Go.RowKit Go.Sort Go.Shelf
set_option linter.unusedVariables false

theorem guardEM : Try.prog.eqGuardType Try.prog.depth 27 = false := by kernel_rfl
def rwN (ea eb : List Ent) (n : List UInt8) : Rw := ⟨n, findE ea n, findE eb n⟩
theorem flatR_get (rs : List Rw) (i j : Nat) (r : Rw) (h : rs[i]? = some r) (hj : j < 71) : (flatR rs)[i * 71 + j]? = (rwC r).toList[j]? := by
  induction rs generalizing i with
  | nil => simp at h
  | cons m rs ih =>
    rw [show flatR (m :: rs) = (rwC m).toList ++ flatR rs from rfl]
    have hl : (rwC m).toList.length = 71 := by rw [Array.length_toList, rwC_size]
    cases i with
    | zero =>
      simp at h
      subst h
      rw [List.getElem?_append_left (by omega), Nat.zero_mul, Nat.zero_add]
    | succ i =>
      rw [List.getElem?_append_right (by omega), hl, show (i + 1) * 71 + j - 71 = i * 71 + j by omega]
      exact ih i (by simpa using h)
/-- Rows of the call's own lie somewhere, plainly. -/
theorem OwnR.lies {w0 w : World} {v : Value} {rs : List Rw} (h : OwnR w0 w v rs) : ∃ A c, v = .slice A rs.length c ∧ ∀ k r, rs[k]? = some r → ∃ b o, A = some ⟨b, o, none⟩ ∧ ∀ w', Fr (fun _ => False) w w' → w'.rangeAt b (o + k * 71) (rwC r).toList := by
  rcases own_shape h.1 with ⟨hv, h0, hx⟩ | ⟨g, cap, hv, h1, h2, _⟩
  · refine ⟨none, 0, by rw [h0]; exact hv, fun k r hk => ?_⟩
    have : rs = [] := List.eq_nil_of_length_eq_zero h0
    rw [this] at hk; simp at hk
  · refine ⟨some ⟨g, 0, none⟩, cap, hv, fun k r hk => ⟨g, 0, rfl, fun w' f j v' hv' => ?_⟩⟩
    subst hv
    have hj : j < 71 := by have := (List.getElem?_eq_some_iff.1 hv').1; rwa [Array.length_toList, rwC_size] at this
    have hg := flatR_get rs k j r hk hj
    rw [hv'] at hg
    rw [Nat.zero_add]
    refine f.cell ?_ (fun e => e)
    have hlt : k * 71 + j < rs.length * 71 := by
      have := (List.getElem?_eq_some_iff.1 hk).1
      omega
    have hc := World.ownsRow.cellAt h.1 (k * 71 + j) hlt
    rw [hc]
    exact hg
theorem yieldsIf_load_rw {ops : Array Oper} {S : World → Prop} {op : Oper} {a : Act} (hw : Region.wanted op (yielded ops a.tmps) = true) (x : Operand) (ho : op.op = .load 35 x)
    (b o : Nat) (hx : a.eval x = .pointer (some ⟨b, o, none⟩)) (cx : Array Value) (hs : cx.size = 71) (hS : ∀ w, S w → w.rangeAt b o cx.toList) : YieldsIf Try.prog ops S op (.agg cx) a := by
  have := yieldsIf_load_mid (P := Try.prog) (ops := ops) (S := S) hw 35 x ho b o hx cx.toList _ hS Try.underlying35 rfl (by rw [Array.length_toList, hs]; exact size_both)
  rwa [Array.toArray_toList] at this
theorem yieldsIf_buildM {P : Program} {ops : Array Oper} {S : World → Prop} {op : Oper} {a : Act} (hw : Region.wanted op (yielded ops a.tmps) = true) (t : TypeId) (parts : Array (Nat × Operand)) (ho : op.op = .build t parts)
    (vals : Array (Nat × Value)) (hvals : (parts.map fun (i, x) => (i, a.eval x)) = vals) (v : Value) (hv : ∀ w, (Instr.build t vals).run P w = .ok v w) : YieldsIf P ops S op v a :=
  .inl ⟨hw, fun w _ => by
    unfold execOp
    simp [ho, hvals, hv]⟩

theorem yieldsIf_neqB {ops : Array Oper} {S : World → Prop} {op : Oper} {a : Act} (hw : Region.wanted op (yielded ops a.tmps) = true) (x y : Operand) (ho : op.op = .binOp .neq 35 x y 35)
    (cr : Array Value) (hx : a.eval x = .agg cr) (hy : a.eval y = .agg cr) (heq : ∀ w, (Op.equalIn 10000 35 (.agg cr) (.agg cr)).run Try.prog w = .ok true w) : YieldsIf Try.prog ops S op (.bool false) a := by
  refine .inl ⟨hw, fun w _ => ?_⟩
  have hgi := guardB
  unfold execOp
  rw [ho]
  simp only [hx, hy]
  go_simp

theorem wpAnyH_takeM {P : Program} {ops : Array Oper} {Q : Exit → Act → World → Prop} {md : Region.Mode} {S : World → Prop} {i : Nat} {oi : Oper} {v : Value} {fuel : Nat} {listed : Array Bool} {t : Array Value} {df : List Deferred} {w : World} (d : Tmp) (hi : ops[i]? = some oi) (hd : oi.dst = some d)
    (hs : Region.noSelect ops = true) (hf : Region.free md ops listed i = true) (hr : (Region.ready md ops listed).contains i = true)
    (hQ : ∀ c a w, Q (.panic c) (a.put oi.dst v) w → Q (.panic c) a w) (hy : YieldsIf P ops S oi v { tmps := t, defers := df }) (hS : S w)
    (h : wpAnyH P md ops Q S fuel (listed.setIfInBounds i true) { tmps := t.setIfInBounds d v, defers := df } w) : wpAnyH P md ops Q S (fuel + 1) listed { tmps := t, defers := df } w :=
  wpAnyH_take hi hs hf hr hQ hy hS (by rw [hd]; exact h)

set_option maxHeartbeats 6400000 in
set_option maxRecDepth 100000 in
theorem merges_walk (A B : Option Addr) (ca cb : Nat) (ea eb : List Ent) (nm : List UInt8) (w : World) (hA : Lies w A (flatE ea)) (hB : Lies w B (flatE eb)) (hna : ea.length ≤ 9223372036854775807) (hnb : eb.length ≤ 9223372036854775807) :
    Calls Try.prog 3 #[.slice A ea.length ca, .slice B eb.length cb, .string (strB nm)] w fun e w' => e = .returned (.bool true) ∧ Below w.heap.size w w' := by
  obtain ⟨S0, hS0⟩ : ∃ S, strB nm = S := ⟨_, rfl⟩
  by_cases hbig : 60 < ea.length ∨ 60 < eb.length
  · obtain ⟨La, hLa⟩ : ∃ L, ea.length = L := ⟨_, rfl⟩
    obtain ⟨Lb, hLb⟩ : ∃ L, eb.length = L := ⟨_, rfl⟩
    rw [hLa, hLb] at hbig
    rw [hLa, hLb, hS0]
    clear hLa hLb hA hB hna hnb hS0
    by_cases h1 : 60 < La
    · have hgt : (60 : Int) < (La : Int) := by omega
      clear hbig
      go_enter Try.func3, Try.ntmps3
      go_wp2_with (go_at_call 4; refine (works6_any _).mono ?_; rintro e w2 ⟨rfl, b2⟩)
      go_ret
      exact ⟨rfl, b2⟩
    · have hgt : (60 : Int) < (Lb : Int) := by omega
      have hle : ¬ (60 : Int) < (La : Int) := by omega
      clear hbig
      go_enter Try.func3, Try.ntmps3
      go_wp2_with (go_at_call 4; refine (works6_any _).mono ?_; rintro e w2 ⟨rfl, b2⟩)
      go_ret
      exact ⟨rfl, b2⟩
  · have CF := Lib.hid (fun w' (f : Fr (fun _ => False) w w') => TFind_any A ca ea (by omega) nm w' (hA.fr f (fun _ _ e => e)))
    have CG := Lib.hid (fun n w' (f : Fr (fun _ => False) w w') => QtFind_any A ca ea (by omega) n w' (hA.fr f (fun _ _ e => e)))
    have CH := Lib.hid (fun n w' (f : Fr (fun _ => False) w w') => QtFind_any B cb eb (by omega) n w' (hB.fr f (fun _ _ e => e)))
    have CM := Lib.hid (fun w' (f : Fr (fun _ => False) w w') => TMerge_any A B ca cb ea eb (by omega) (by omega) w' (hA.fr f (fun _ _ e => e)) (hB.fr f (fun _ _ e => e)))
    have CN := Lib.hid (fun w' (f : Fr (fun _ => False) w w') => QtNames_any A B ca cb ea eb (by omega) (by omega) w' (hA.fr f (fun _ _ e => e)) (hB.fr f (fun _ _ e => e)))
    have CG0 := Lib.hid (CG.out nm)
    have heq := fun w => eq_ents ((findE ea nm).getD default) ((findE ea nm).getD default) 10000 (by decide) w
    rw [entEq_selfM] at heq
    have hgi := guardEM
    obtain ⟨fa, hfa⟩ : ∃ c, fndC (findE ea nm) = c := ⟨_, rfl⟩
    obtain ⟨ba, hba⟩ : ∃ c, (findE ea nm).isSome = c := ⟨_, rfl⟩
    have hfas : fa.size = 34 := by rw [← hfa]; exact fndC_size _
    have HFA := Lib.hid (show fa.all (·.oneCell') = true from by rw [← hfa]; exact fndC_all _)
    rw [show (entV ((findE ea nm).getD default)).toArray = fa from hfa] at heq
    rw [hfa, hba, hS0] at CF CG0
    have HRN := Lib.hid (rowsM_eq ea eb)
    have HRL := Lib.hid (rowsM_len (ea := ea) (eb := eb) (by omega) (by omega))
    obtain ⟨R, hR⟩ : ∃ R, rowsM ea eb = R := ⟨_, rfl⟩
    obtain ⟨ns, hns⟩ : ∃ R, nms (ea ++ eb) = R := ⟨_, rfl⟩
    rw [hR] at CM HRN HRL
    rw [hns] at CN HRN
    obtain ⟨La, hLa⟩ : ∃ L, ea.length = L := ⟨_, rfl⟩
    obtain ⟨Lb, hLb⟩ : ∃ L, eb.length = L := ⟨_, rfl⟩
    rw [hLa, hLb] at hbig CM CN
    rw [hLa] at CF CG CG0
    rw [hLb] at CH
    rw [hLa, hLb, hS0]
    obtain ⟨L, hL⟩ : ∃ L, R.length = L := ⟨_, rfl⟩
    have HLn := Lib.hid hL
    have HLs := Lib.hid (show ns.length = L from by rw [← hL, HRN.out, List.length_map])
    have hL2 : L ≤ 2000 := by have := HRL.out; omega
    have hle1 : ¬ (60 : Int) < (La : Int) := by omega
    have hle2 : ¬ (60 : Int) < (Lb : Int) := by omega
    clear hbig hA hB hna hnb hS0 hfa hba hR hns hLa hLb hL
    go_enter Try.func3, Try.ntmps3
    go_wp2_with (first
      | (refine wpList_load_cx rfl (.tmp 7) rfl w1.heap.size 0 rfl fa hfas HB7.out.all_rangeM ?_)
      | (refine wpList_load_cx rfl (.tmp 9) rfl w4.heap.size 0 rfl fa hfas HB9.out.all_rangeM ?_)
      | (go_at_call 8
         refine (CN.out w7 HF7.out).mono ?_
         rintro e w8 ⟨v8, rfl, h8⟩
         obtain ⟨A2, c2, hv8, _, _, _, hl8⟩ := h8.slice
         rw [HLs.out] at hv8
         subst hv8
         have HF8 := Lib.hid (show Fr (fun _ => False) w w8 from HF7.out.trans h8.2 (fun _ _ e => e))
         have HF78 := Lib.hid h8.2
         have HNL := Lib.hid hl8
         clear h8 hl8)
      | (go_at_call 7
         refine (CM.out w6 HF6.out).mono ?_
         rintro e w7 ⟨v7, rfl, h7⟩
         obtain ⟨A1, c1, hv7, hl7⟩ := h7.lies
         rw [HLn.out] at hv7
         subst hv7
         have HF7 := Lib.hid (show Fr (fun _ => False) w w7 from HF6.out.trans h7.2 (fun _ _ e => e))
         have HRL7 := Lib.hid hl7
         clear h7 hl7)
      | (refine wpList_store_at rfl 27 (.tmp 9) _ rfl w4.heap.size 0 27 zeroE fa rfl rfl HZw5.out (by rw [zeroE_size, hfas]; exact Nat.le_refl _) (by rw [hfas]; exact size_ent) HFA.out ?_
         intro w6 hw6 hf6
         rw [laidAt_all _ _ (by rw [zeroE_size, hfas])] at hw6
         have HB9 := Lib.hid hw6
         have HF6 := Lib.hid (show Fr (fun _ => False) w w6 from (HF4.out.trans HGw5.out (fun _ _ e => e)).trans hf6 (fun i hi e => by have := HF4.out.size; omega))
         have HB7 := Lib.hid (show Whole w6 w1.heap.size 27 fa from ((HW3.out.fr HF34.out (fun e => e)).fr HGw5.out (fun e => e)).fr hf6 (fun e => by have := HW3.out.lt; have := HF34.out.size; omega))
         clear hw6 hf6)
      | (go_at_call 6
         refine (CG0.out w3 HF3.out).mono ?_
         go_must (
          rintro e w4 ⟨rfl, f4⟩
          have HF34 := Lib.hid f4
          have HF4 := Lib.hid (show Fr (fun _ => False) w w4 from HF3.out.trans f4 (fun _ _ e => e))
          (
            obtain ⟨w5, hbx⟩ : ∃ xw, (w4).alloc (.cells zeroE 27) = xw := ⟨_, rfl⟩
            have HZw5 := Lib.hid (show Whole w5 (w4).heap.size 27 zeroE from by subst hbx; exact Whole.new _ 27 zeroE)
            have HGw5 := Lib.hid (show Fr (fun _ => False) w4 w5 from by subst hbx; exact (Fr.refl _ _).alloc _)
            unfold zeroE at hbx
            simp [List.replicate] at hbx)
          clear f4))
      | (refine wpList_store_at rfl 27 (.tmp 7) _ rfl w1.heap.size 0 27 zeroE fa rfl rfl HZw2.out (by rw [zeroE_size, hfas]; exact Nat.le_refl _) (by rw [hfas]; exact size_ent) HFA.out ?_
         intro w3 hw3 hf3
         rw [laidAt_all _ _ (by rw [zeroE_size, hfas])] at hw3
         have HW3 := Lib.hid hw3
         have HF3 := Lib.hid (show Fr (fun _ => False) w w3 from (HF1.out.trans HGw2.out (fun _ _ e => e)).trans hf3 (fun i hi e => by have := HF1.out.size; omega))
         clear hw3 hf3)
      | (go_at_call 5
         refine (CF.out w (Fr.refl _ w)).mono ?_
         rintro e w1 ⟨rfl, f1⟩
         have HF1 := Lib.hid f1
         (
           obtain ⟨w2, hbx⟩ : ∃ xw, (w1).alloc (.cells zeroE 27) = xw := ⟨_, rfl⟩
           have HZw2 := Lib.hid (show Whole w2 (w1).heap.size 27 zeroE from by subst hbx; exact Whole.new _ 27 zeroE)
           have HGw2 := Lib.hid (show Fr (fun _ => False) w1 w2 from by subst hbx; exact (Fr.refl _ _).alloc _)
           unfold zeroE at hbx
           simp [List.replicate] at hbx)
         clear f1))
    have heqB := fun r w => eq_row r 10000 (by decide) w
    have HEB := Lib.hid heqB
    clear heqB heq HB7 HB9 HZw5 HGw5 HZw2 HGw2 HW3 HF34 HF3 HF4 HF1 HF6 CF CG0 CM CN hbx
    go_loopg [13] L (fun kx s13 wr => ∃ k : Nat, k ≤ L ∧ s13 = .int .i64 k ∧ L - k ≤ kx ∧ Fr (fun _ => False) w8 wr)
    case atStart => exact ⟨0, by omega, rfl, by omega, Fr.refl _ _⟩
    case round =>
      obtain ⟨k, hk, rfl, hkx, hf⟩ := hrel
      obtain ⟨wo, rfl⟩ : ∃ wo, wo = wr := ⟨wr, rfl⟩
      have HFo := Lib.hid hf
      clear hf
      have wk := wrap_nat k (by omega)
      by_cases hlt : k < L
      · have hk0 : (k : Int) < L := by omega
        obtain ⟨n, hn⟩ : ∃ n, ns.getD k [] = n := ⟨_, rfl⟩
        obtain ⟨b2, o2, hA2, hc2⟩ := lies_nameM HNL.out HFo.out (by rw [HLs.out]; omega)
        subst hA2
        have c2k := hc2 k (by rw [HLs.out]; omega)
        rw [hn] at c2k
        have hRk : R[k]? = some (rwN ea eb n) := by
          rw [HRN.out, List.getElem?_map]
          have : ns[k]? = some n := by rw [← hn, List.getD_eq_getElem?_getD, List.getElem?_eq_getElem (by rw [HLs.out]; exact hlt)]; rfl
          rw [this]; rfl
        obtain ⟨b1, o1, hA1, hrow⟩ := HRL7.out k _ hRk
        subst hA1
        have HROW := Lib.hid hrow
        have C1 := Lib.hid (CG.out n)
        have C2 := Lib.hid (CH.out n)
        have heqr := fun w => HEB.out (rwN ea eb n) w
        have hcrs := rwC_size (rwN ea eb n)
        have hgs := fndC_size (findE ea n)
        have hgbs := fndC_size (findE eb n)
        have HGA := Lib.hid (fndC_all (findE ea n))
        have HGB := Lib.hid (fndC_all (findE eb n))
        have HBU := Lib.hid (fun w => build_both (strB n) (fndC (findE ea n)) (fndC (findE eb n)) (findE ea n).isSome (findE eb n).isSome hgs hgbs w)
        rw [show rowV (strB n) (fndC (findE ea n)) (fndC (findE eb n)) (findE ea n).isSome (findE eb n).isSome = rwC (rwN ea eb n) from rfl] at HBU
        obtain ⟨cr, hcr⟩ : ∃ c, rwC (rwN ea eb n) = c := ⟨_, rfl⟩
        obtain ⟨ga, hga⟩ : ∃ c, fndC (findE ea n) = c := ⟨_, rfl⟩
        obtain ⟨gb, hgb⟩ : ∃ c, fndC (findE eb n) = c := ⟨_, rfl⟩
        obtain ⟨pa, hpa⟩ : ∃ c, (findE ea n).isSome = c := ⟨_, rfl⟩
        obtain ⟨pb, hpb⟩ : ∃ c, (findE eb n).isSome = c := ⟨_, rfl⟩
        obtain ⟨S, hS⟩ : ∃ c, strB n = c := ⟨_, rfl⟩
        rw [hcr] at HROW heqr hcrs HBU
        rw [hS, hga, hgb, hpa, hpb] at HBU
        rw [hS, hga, hpa] at C1
        rw [hS, hgb, hpb] at C2
        rw [hga] at hgs HGA
        rw [hgb] at hgbs HGB
        rw [hS] at c2k
        have HCK := Lib.hid (fun w' (f : Fr (fun _ => False) wo w') => f.cell c2k (fun e => e))
        have HEQ := Lib.hid heqr
        clear heqr hn hc2 hRk hrow hcr hga hgb hpa hpb hS
        go_upto_region 16 with (first
          | (have _ := MB
             refine wpList_store_at rfl 27 (.tmp 16) _ rfl y4.heap.size 0 27 zeroE gb rfl rfl HZy5.out (by rw [zeroE_size, hgbs]; exact Nat.le_refl _) (by rw [hgbs]; exact size_ent) HGB.out ?_
             intro y6 hw6 hf6
             rw [laidAt_all _ _ (by rw [zeroE_size, hgbs])] at hw6
             have HB16 := Lib.hid hw6
             have HFy6 := Lib.hid (show Fr (fun _ => False) wo y6 from (HFy4.out.trans HGy5.out (fun _ _ e => e)).trans hf6 (fun i hi e => by have := HFy4.out.size; omega))
             have HB14 := Lib.hid (show Whole y6 y1.heap.size 27 ga from ((HWy3.out.fr HF34.out (fun e => e)).fr HGy5.out (fun e => e)).fr hf6 (fun e => by have := HWy3.out.lt; have := HF34.out.size; omega))
             clear hw6 hf6)
          | (have _ := MA
             go_at_call 6
             refine (C2.out y3 ((HF8.out.trans HFo.out (fun _ _ e => e)).trans HFy3.out (fun _ _ e => e))).mono ?_
             rintro e y4 ⟨rfl, f4⟩
             have HF34 := Lib.hid f4
             have HFy4 := Lib.hid (show Fr (fun _ => False) wo y4 from HFy3.out.trans f4 (fun _ _ e => e))
             (
               obtain ⟨y5, hbx⟩ : ∃ xw, (y4).alloc (.cells zeroE 27) = xw := ⟨_, rfl⟩
               have HZy5 := Lib.hid (show Whole y5 (y4).heap.size 27 zeroE from by subst hbx; exact Whole.new _ 27 zeroE)
               have HGy5 := Lib.hid (show Fr (fun _ => False) y4 y5 from by subst hbx; exact (Fr.refl _ _).alloc _)
               unfold zeroE at hbx
               simp [List.replicate] at hbx)
             have MB := True.intro
             clear f4)
          | (refine wpList_store_at rfl 27 (.tmp 14) _ rfl y1.heap.size 0 27 zeroE ga rfl rfl HZy2.out (by rw [zeroE_size, hgs]; exact Nat.le_refl _) (by rw [hgs]; exact size_ent) HGA.out ?_
             intro y3 hw3 hf3
             rw [laidAt_all _ _ (by rw [zeroE_size, hgs])] at hw3
             have HWy3 := Lib.hid hw3
             have HFy3 := Lib.hid (show Fr (fun _ => False) wo y3 from (HFy1.out.trans HGy2.out (fun _ _ e => e)).trans hf3 (fun i hi e => by have := HFy1.out.size; omega))
             have c2k := HCK.out y3 HFy3.out
             have MA := True.intro
             clear hw3 hf3)
          | (go_at_call 6
             refine (C1.out wo (HF8.out.trans HFo.out (fun _ _ e => e))).mono ?_
             rintro e y1 ⟨rfl, f1⟩
             have HFy1 := Lib.hid f1
             (
               obtain ⟨y2, hbx⟩ : ∃ xw, (y1).alloc (.cells zeroE 27) = xw := ⟨_, rfl⟩
               have HZy2 := Lib.hid (show Whole y2 (y1).heap.size 27 zeroE from by subst hbx; exact Whole.new _ 27 zeroE)
               have HGy2 := Lib.hid (show Fr (fun _ => False) y1 y2 from by subst hbx; exact (Fr.refl _ _).alloc _)
               unfold zeroE at hbx
               simp [List.replicate] at hbx)
             clear f1 c2k))
        have HSq := Lib.hid (show ∃ q : Later y6, y6.drew = q.w' from ⟨⟨_, (Fr.refl _ y6).drew⟩, rfl⟩)
        have HR6 := Lib.hid (fun w' (f : Fr (fun _ => False) y6 w') => HROW.out w' (((HF78.out.trans HFo.out (fun _ _ e => e)).trans HFy6.out (fun _ _ e => e)).trans f (fun _ _ e => e)))
        have HK6 := Lib.hid (fun w' (f : Fr (fun _ => False) y6 w') => HCK.out w' (HFy6.out.trans f (fun _ _ e => e)))
        refine wp_region_held (S := fun w' => ∃ q : Later y6, w' = q.w') (by kernel_rfl) ?_
        (
          refine wpAnyH_takeM (i := 0) (v := .slice (some ⟨b1, o1, none⟩) L c1) 82 rfl rfl (by kernel_rfl) (by kernel_rfl) (by kernel_rfl) (fun _ _ _ h => h) (.inl ⟨by rfl, ?_⟩) HSq.out ?_
          · rintro _ ⟨q, rfl⟩
            go_simp)
        (
          refine wpAnyH_takeM (i := 1) (v := .int .i64 k) 83 rfl rfl (by kernel_rfl) (by kernel_rfl) (by kernel_rfl) (fun _ _ _ h => h) (.inl ⟨by rfl, ?_⟩) HSq.out ?_
          · rintro _ ⟨q, rfl⟩
            go_simp)
        (
          refine wpAnyH_takeM (i := 2) (v := .pointer (some ⟨b1, o1 + k * 71, none⟩)) 84 rfl rfl (by kernel_rfl) (by kernel_rfl) (by kernel_rfl) (fun _ _ _ h => h) (.inl ⟨by rfl, ?_⟩) HSq.out ?_
          · rintro _ ⟨q, rfl⟩
            go_simp)
        refine wpAnyH_takeM (i := 3) (v := .agg cr) 85 rfl rfl (by kernel_rfl) (by kernel_rfl) (by kernel_rfl) (fun _ _ _ h => h) (yieldsIf_load_rw (by kernel_rfl) (.tmp 84) rfl b1 (o1 + k * 71) (by kernel_rfl) cr hcrs (by rintro _ ⟨q, rfl⟩; exact HR6.out _ q.fr)) HSq.out ?_
        (
          refine wpAnyH_takeM (i := 4) (v := .slice (some ⟨b2, o2, none⟩) L c2) 86 rfl rfl (by kernel_rfl) (by kernel_rfl) (by kernel_rfl) (fun _ _ _ h => h) (.inl ⟨by rfl, ?_⟩) HSq.out ?_
          · rintro _ ⟨q, rfl⟩
            go_simp)
        (
          refine wpAnyH_takeM (i := 5) (v := .int .i64 k) 87 rfl rfl (by kernel_rfl) (by kernel_rfl) (by kernel_rfl) (fun _ _ _ h => h) (.inl ⟨by rfl, ?_⟩) HSq.out ?_
          · rintro _ ⟨q, rfl⟩
            go_simp)
        (
          refine wpAnyH_takeM (i := 6) (v := .pointer (some ⟨b2, o2 + k, none⟩)) 88 rfl rfl (by kernel_rfl) (by kernel_rfl) (by kernel_rfl) (fun _ _ _ h => h) (.inl ⟨by rfl, ?_⟩) HSq.out ?_
          · rintro _ ⟨q, rfl⟩
            go_simp)
        refine wpAnyH_takeM (i := 7) (v := .string S) 89 rfl rfl (by kernel_rfl) (by kernel_rfl) (by kernel_rfl) (fun _ _ _ h => h) (.inl ⟨by rfl, ?_⟩) HSq.out ?_
        · rintro _ ⟨q, rfl⟩
          have cq := HK6.out _ q.fr
          go_simp
        refine wpAnyH_takeM (i := 8) (v := .agg ga) 90 rfl rfl (by kernel_rfl) (by kernel_rfl) (by kernel_rfl) (fun _ _ _ h => h) (yieldsIf_load_cxM (by kernel_rfl) (.tmp 14) rfl y1.heap.size 0 (by kernel_rfl) ga hgs (by rintro _ ⟨q, rfl⟩; exact (HB14.out.fr q.fr (fun e => e)).all_rangeM)) HSq.out ?_
        refine wpAnyH_takeM (i := 9) (v := .agg gb) 91 rfl rfl (by kernel_rfl) (by kernel_rfl) (by kernel_rfl) (fun _ _ _ h => h) (yieldsIf_load_cxM (by kernel_rfl) (.tmp 16) rfl y4.heap.size 0 (by kernel_rfl) gb hgbs (by rintro _ ⟨q, rfl⟩; exact (HB16.out.fr q.fr (fun e => e)).all_rangeM)) HSq.out ?_
        (
          refine wpAnyH_takeM (i := 10) (v := .bool pa) 92 rfl rfl (by kernel_rfl) (by kernel_rfl) (by kernel_rfl) (fun _ _ _ h => h) (.inl ⟨by rfl, ?_⟩) HSq.out ?_
          · rintro _ ⟨q, rfl⟩
            go_simp)
        (
          refine wpAnyH_takeM (i := 11) (v := .bool pb) 93 rfl rfl (by kernel_rfl) (by kernel_rfl) (by kernel_rfl) (fun _ _ _ h => h) (.inl ⟨by rfl, ?_⟩) HSq.out ?_
          · rintro _ ⟨q, rfl⟩
            go_simp)
        refine wpAnyH_takeM (i := 12) (v := .agg cr) 94 rfl rfl (by kernel_rfl) (by kernel_rfl) (by kernel_rfl) (fun _ _ _ h => h) (yieldsIf_buildM (by kernel_rfl) 35 #[(0, .tmp 89), (1, .tmp 90), (2, .tmp 91), (3, .tmp 92), (4, .tmp 93)] rfl #[(0, .string S), (1, .agg ga), (2, .agg gb), (3, .bool pa), (4, .bool pb)] (by kernel_rfl) (.agg cr) HBU.out) HSq.out ?_
        refine wpAnyH_takeM (i := 13) (v := .bool false) 95 rfl rfl (by kernel_rfl) (by kernel_rfl) (by kernel_rfl) (fun _ _ _ h => h) (yieldsIf_neqB (by kernel_rfl) (.tmp 85) (.tmp 94) rfl cr (by kernel_rfl) (by kernel_rfl) HEQ.out) HSq.out ?_
        refine wpAnyH_done (by kernel_rfl) ?_ _
        simp only [List.setIfInBounds_toArray, List.set_cons_succ, List.set_cons_zero]
        go_wp2_with fail
        go_roundg (L - (k + 1))
        case measure => omega
        case rel => exact ⟨k + 1, by omega, by go_num, Nat.le_refl _, (HFo.out.trans HFy6.out (fun _ _ e => e)).drew⟩
      · obtain rfl : k = L := by omega
        go_wp2_with (go_at_call 4; refine (works6_any wo).mono ?_; rintro e wh ⟨rfl, bh⟩)
        go_ret
        exact ⟨rfl, ((HF8.out.trans HFo.out (fun _ _ e => e)).then_below bh).below (fun _ _ e => e)⟩
end Go.Proofs.Ytinjednmamkjgaa

/- What is proved: text as a table, by the document. Conditions: the bytes are there, and not too many. -/
import Derived.Test.YtoakbdmfoepdgaaDoorRgn
import Derived.Test.YtoakbdmfoepdgaaDoorRfi
namespace Go.Proofs.YtoakbdmfoepdgaaDoor
open Go.RowKit Go.Sort Go.Shelf
set_option linter.unusedVariables false

theorem getD_drop (b : List UInt8) (a j : Nat) : (b.drop a).getD j 0 = b.getD (a + j) 0 := by
  rw [List.getD_eq_getElem?_getD, List.getElem?_drop, ← List.getD_eq_getElem?_getD]
/-- A line that ends. -/
theorem line_ends {b : List UInt8} {a e : Nat} (hae : a ≤ e) (he : e < b.length) (h1 : b.getD e 0 = 10) (h2 : ∀ j, a ≤ j → j < e → b.getD j 0 ≠ 10) :
    has10 (b.drop a) = true ∧ lnA (b.drop a) = (b.drop a).take (e - a) ∧ lnB (b.drop a) = b.drop (e + 1) := by
  have hs : b.drop a = (b.drop a).take (e - a) ++ 10 :: b.drop (e + 1) := by
    conv => lhs; rw [← List.take_append_drop (e - a) (b.drop a)]
    rw [List.drop_drop, show a + (e - a) = e by omega, List.drop_eq_getElem_cons he]
    rw [List.getD_eq_getElem?_getD, List.getElem?_eq_getElem he] at h1
    rw [show b[e] = 10 from h1]
  have h3 : ∀ x ∈ (b.drop a).take (e - a), x ≠ 10 := fun x hx hx10 => by
    obtain ⟨j, hj, hjx⟩ := List.mem_take_iff_getElem.1 hx
    have h4 := h2 (a + j) (by omega) (by omega)
    rw [← getD_drop, List.getD_eq_getElem?_getD, List.getElem?_eq_getElem (by omega)] at h4
    exact h4 (hjx.trans hx10)
  have h5 := cut10 (rest := b.drop (e + 1)) h3
  rw [← hs] at h5
  exact h5
theorem line_open {b : List UInt8} {a : Nat} (h2 : ∀ j, a ≤ j → j < b.length → b.getD j 0 ≠ 10) : has10 (b.drop a) = false := by
  rcases idx10_cases (b.drop a) with ⟨_, _, h, _⟩ | ⟨m, _, hm, hs, _⟩
  · exact h
  · rw [List.length_drop] at hm
    have h3 := h2 (a + m) (by omega) (by omega)
    rw [← getD_drop] at h3
    have h5 : (b.drop a).getD m 0 = ((b.drop a).take m ++ 10 :: (b.drop a).drop (m + 1)).getD m 0 := congrArg (fun l : List UInt8 => l.getD m 0) hs
    rw [h5, List.getD_eq_getElem?_getD, List.getElem?_append_right (by rw [List.length_take]; omega), List.length_take, show m - min m (b.drop a).length = 0 by rw [List.length_drop]; omega] at h3
    exact absurd rfl h3
theorem u8_eq (u : UInt8) (k : Nat) (hk : k < 256) : ((u.toNat : Int) = k) ↔ u = UInt8.ofNat k := by
  constructor
  · intro h
    apply UInt8.toNat_inj.1
    rw [UInt8.toNat_ofNat', Nat.mod_eq_of_lt hk]
    omega
  · rintro rfl
    rw [UInt8.toNat_ofNat', Nat.mod_eq_of_lt hk]

theorem getD_cut {b : List UInt8} {a n j : Nat} (h : j < n) : ((b.drop a).take n).getD j 0 = b.getD (a + j) 0 := by
  rw [← getD_drop, List.getD_eq_getElem?_getD, List.getElem?_take, if_pos h, ← List.getD_eq_getElem?_getD]
theorem step_buildSlice {P : Program} {ops : Array Oper} {o : Oper} {a : Act} {w : World} {K : Act → World → Prop} {Q : Exit → Act → World → Prop} {E : Prop} (hgd : o.guard = none) (t : TypeId) (n : Nat) (parts : Array (Nat × Operand)) (ho : o.op = .buildSlice t n parts)
    (vals : Array (Nat × Value)) (hvals : (parts.map fun (i, x) => (i, a.eval x)) = vals) (v : Value) (w' : World) (hv : (Instr.buildSlice t n vals).run P w = .ok v w') (h : K (a.put o.dst v) w') :
    if Region.wanted o (yielded ops a.tmps) = true then Oper.wp P o a w K Q else E := by
  have hw : Region.wanted o (yielded ops a.tmps) = true := by simp [Region.wanted, hgd]
  rw [if_pos hw]
  unfold Oper.wp execOp
  simp only [ho, hvals, Sem.run_bind, hv, Result.andThen_ok, Sem.run_pure]
  exact h
theorem exec_build {P : Program} {o : Oper} {ev : Operand → Value} {w : World} (t : TypeId) (parts : Array (Nat × Operand)) (vals : Array (Nat × Value)) (v : Value) (ho : o.op = .build t parts) (hvals : (parts.map fun (i, x) => (i, ev x)) = vals)
    (hv : (Instr.build t vals).run P w = .ok v w) : (execOp ev o).run P w = .ok (.value v) w := by
  unfold execOp
  simp only [ho, hvals, Sem.run_bind, hv, Result.andThen_ok, Sem.run_pure]

set_option maxHeartbeats 6400000 in
set_option maxRecDepth 100000 in
theorem QfGet_any (A : Option Addr) (cap : Nat) (b : List UInt8) (hn : b.length ≤ 50000) (hcap : b.length ≤ cap) (w : World) (h : Lies w A (bytesV b)) :
    Calls Tryd.prog 15 #[.slice A b.length cap] w fun e w' => ∃ v, e = .returned (.tuple #[v, .int .i64 (getO b).2]) ∧ OwnR w w' v (getO b).1 := by
  obtain ⟨i0, hi, hz0, hz1, hz2⟩ := info_parts info_ref
  have hz3 := zeroR_cells
  obtain ⟨Z, hZ⟩ : ∃ Z, (refV default).toArray = Z := ⟨_, rfl⟩
  rw [hZ] at hz0 hz3
  have HLI := Lib.hid h
  have HG : Hid (getO b = match getW b [] with | none => ([], 12) | some l => if chkR l = 0 then (l, 0) else ([], chkR l)) := Lib.hid rfl
  have HLt : Hid (0 < b.length → ∃ bb oo, A = some ⟨bb, oo, none⟩ ∧ bb < w.heap.size) := Lib.hid (fun hp => by
    obtain ⟨bb, oo, hA⟩ := h.someB hp
    subst hA
    exact ⟨bb, oo, rfl, block_lt_of_cell (h.byte 0 b[0] (List.getElem?_eq_getElem hp))⟩)
  obtain ⟨L, hL⟩ : ∃ L, b.length = L := ⟨_, rfl⟩
  have HLn := Lib.hid hL
  rw [hL] at hn hcap HLt ⊢
  obtain ⟨T, hT⟩ : ∃ T : TypeId, T = 41 := ⟨_, rfl⟩
  obtain ⟨n32, h32⟩ : ∃ n : Nat, n = 32 := ⟨_, rfl⟩
  have ag32 : ∀ w, (isAgg T).run Tryd.prog w = .ok true w := by rw [hT]; exact fun _ => by kernel_rfl
  have sz32 : ∀ w, (sizeOf T).run Tryd.prog w = .ok n32 w := by rw [hT, h32]; exact fun _ => by kernel_rfl
  have HN := Lib.hid h32
  have HCap := Lib.hid hcap
  clear h hL h32 hZ hcap
  go_enter Tryd.func15, Tryd.ntmps15
  rw [show Op.load 41 (.tmp 7) = Op.load T (.tmp 7) by rw [hT]]
  clear hT
  go_wp2
  go_loopg [4, 5] L (fun kx s4 s5 wr => ∃ (a : Nat) (acc : List Rf) (v : Value), v = s4 ∧ s5 = .int .i64 a ∧ a ≤ L ∧ L - a ≤ kx ∧ acc.length ≤ a ∧ Hid (OwnR w wr v acc) ∧ Hid (getW b [] = getW (b.drop a) acc))
  case atStart => exact ⟨0, [], _, rfl, rfl, by omega, by omega, by simp, Lib.hid (OwnR.nil (Fr.refl _ _)), Lib.hid rfl⟩
  case round =>
    obtain ⟨a, acc, v, rfl, rfl, ha, hkx, hal, HOw, HB⟩ := hrel
    obtain ⟨wo, rfl⟩ : ∃ wo, wo = wr := ⟨wr, rfl⟩
    have HFo := Lib.hid HOw.out.2
    by_cases hlt : a < L
    · have hltz : (a : Int) < L := by omega
      obtain ⟨bb, oo, hA, hbb⟩ := HLt.out (by omega)
      subst hA
      have HBb := Lib.hid hbb
      clear hbb
      go_wp2
      go_loopg [6] L (fun kx s6 wr => ∃ e : Nat, s6 = .int .i64 e ∧ a ≤ e ∧ e ≤ L ∧ L - e ≤ kx ∧ wr = wo ∧ Hid (∀ j, a ≤ j → j < e → b.getD j 0 ≠ 10))
      case atStart => exact ⟨a, rfl, by omega, by omega, by omega, rfl, Lib.hid (fun j h1 h2 => by omega)⟩
      case round =>
        obtain ⟨e, rfl, hae, he, hex, hwr, HE⟩ := hrel
        subst hwr
        have we := wrap_nat e (by omega)
        by_cases hel : e < L
        · have helz : (e : Int) < L := by omega
          have c0 : wr.cell? ⟨bb, oo + e, none⟩ = some (.int .u8 ((b.getD e 0).toNat : Nat)) := (HLI.out.fr HFo.out (fun _ _ e => e)).byte e _ (by rw [List.getD_eq_getElem?_getD, List.getElem?_eq_getElem (by rw [HLn.out]; exact hel)]; rfl)
          have hy10 := u8_eq (b.getD e 0) 10 (by decide)
          obtain ⟨y, hy⟩ : ∃ y : Int, (((b.getD e 0).toNat : Nat) : Int) = y := ⟨_, rfl⟩
          rw [hy] at c0 hy10
          have HY := Lib.hid hy10
          clear hy hy10
          by_cases h10 : y = 10
          · have HE10 : Hid (b.getD e 0 = 10) := Lib.hid (HY.out.1 h10)
            subst h10
            have HLE := Lib.hid (line_ends hae (by rw [HLn.out]; exact hel) HE10.out HE.out)
            have HNe : Hid (b.drop a ≠ []) := Lib.hid (fun h => by have := congrArg List.length h; rw [List.length_drop, HLn.out] at this; simp at this; omega)
            have HBad : Hid (okT ((b.drop a).take (e - a)) = false → getO b = ([], 12)) := Lib.hid (fun h => by rw [HG.out, HB.out, getW_bad acc HNe.out (by rw [HLE.out.2.1, h, Bool.and_false])])
            have helf : ((e : Int) == (L : Int)) = false := by simp; omega
            have w65 : IntKind.i64.wrap ((a : Int) + 65) = (a : Int) + 65 := by rw [IntKind.wrap_i64]; omega
            have w64 : IntKind.i64.wrap ((a : Int) + 64) = (a : Int) + 64 := by rw [IntKind.wrap_i64]; omega
            have w1e : IntKind.i64.wrap ((e : Int) + 1) = (e : Int) + 1 := by rw [IntKind.wrap_i64]; omega
            have HTl : Hid (((b.drop a).take (e - a)).length = e - a) := Lib.hid (by rw [List.length_take, List.length_drop, HLn.out]; omega)
            by_cases h65 : e < a + 65
            · have h65z : (e : Int) < (a : Int) + 65 := by omega
              have HBd : Hid (getO b = ([], 12)) := Lib.hid (HBad.out (by
                cases hk : okT ((b.drop a).take (e - a))
                · rfl
                · have := (okT_of hk).1; rw [HTl.out] at this; omega))
              go_wp2_with fail
              (try simp only [Exit.inBlock, Exit.then])
              go_ret2
              rw [HBd.out]
              exact ⟨_, rfl, OwnR.nil HFo.out⟩
            · have h65z : ¬ (e : Int) < (a : Int) + 65 := by omega
              have c1 : wr.cell? ⟨bb, oo + (a + 64), none⟩ = some (.int .u8 ((b.getD (a + 64) 0).toNat : Nat)) := (HLI.out.fr HFo.out (fun _ _ e => e)).byte (a + 64) _ (by rw [List.getD_eq_getElem?_getD, List.getElem?_eq_getElem (by rw [HLn.out]; omega)]; rfl)
              have ha64 : (0 : Int) ≤ (a : Int) + 64 := by omega
              have ha64L : (a : Int) + 64 < L := by omega
              have ta64 : ((a : Int) + 64).toNat = a + 64 := by omega
              have HG64 : Hid (((b.drop a).take (e - a)).getD 64 0 = b.getD (a + 64) 0) := Lib.hid (getD_cut (by omega))
              have hz32 := u8_eq (b.getD (a + 64) 0) 32 (by decide)
              obtain ⟨z, hz⟩ : ∃ z : Int, (((b.getD (a + 64) 0).toNat : Nat) : Int) = z := ⟨_, rfl⟩
              rw [hz] at c1 hz32
              have HZ32 := Lib.hid hz32
              clear hz hz32
              by_cases h32 : z = 32
              · subst h32
                have HOk : Hid (okT ((b.drop a).take (e - a)) = decide (Ids.rdE (strB ((b.drop a).take 64)) = 0)) := Lib.hid (by
                  have h3 : ((b.drop a).take (e - a)).take 64 = (b.drop a).take 64 := by rw [List.take_take, show min 64 (e - a) = 64 by omega]
                  have h2 := okT_iff ((b.drop a).take (e - a))
                  rw [h3, HTl.out, HG64.out] at h2
                  rcases Decidable.em (Ids.rdE (strB ((b.drop a).take 64)) = 0) with h4 | h4
                  · rw [decide_eq_true h4]; exact h2.2 ⟨by omega, HZ32.out.1 rfl, h4⟩
                  · rw [decide_eq_false h4]
                    cases hk : okT ((b.drop a).take (e - a))
                    · rfl
                    · exact absurd (h2.1 hk).2.2 h4)
                have HMk : Hid (Ids.rdE (strB ((b.drop a).take 64)) = 0 → (mkT ((b.drop a).take (e - a))).name = (b.drop (a + 65)).take (e - (a + 65)) ∧ Ids.idC (Ids.dgt (mkT ((b.drop a).take (e - a))).id) = Ids.idC (Ids.rdA (strB ((b.drop a).take 64)))) := Lib.hid (fun h => by
                  have h2 := HOk.out
                  rw [decide_eq_true h] at h2
                  have h3 := okT_of h2
                  have hl : ((b.drop a).take (e - a)).length ≤ 140737488355327 := by rw [HTl.out]; omega
                  refine ⟨?_, ?_⟩
                  · rw [mkT_name hl, h3.2.2.2.2, List.drop_take, List.drop_drop, show e - a - 65 = e - (a + 65) by omega]
                  · rw [mkT_id hl, h3.2.2.2.1, List.take_take, show min 64 (e - a) = 64 by omega])
                have hH64 : ((b.drop a).take 64).length = 64 := by rw [List.length_take, List.length_drop, HLn.out]; omega
                have hsl1 : ∀ w, (Instr.slice 24 (.slice (some ⟨bb, oo, none⟩) L cap) (some (.int .i64 a)) (some (.int .i64 ((a : Int) + 64))) none).run Tryd.prog w = .ok (.slice (tlB (some ⟨bb, oo, none⟩) cap a) 64 (cap - a)) w := fun w => by
                  have h := slice_lhB (some ⟨bb, oo, none⟩) L cap a (a + 64) (by omega) (by have := HCap.out; omega) w
                  rw [show a + 64 - a = 64 by omega] at h
                  exact h
                have hc1 : ∀ wq, Lies wq (some ⟨bb, oo, none⟩) (bytesV b) → (convert 24 9 (.slice (tlB (some ⟨bb, oo, none⟩) cap a) 64 (cap - a))).run Tryd.prog wq = .ok (.string (strB ((b.drop a).take 64))) wq := fun wq h => by
                  have h2 := run_convert_lies (P := Tryd.prog) 24 9 5 Tryd.underlying24 Tryd.underlying5 Tryd.underlying9 (h.cutB cap a 64 (by rw [HLn.out]; exact HCap.out)) (cap - a)
                  rw [hH64] at h2
                  exact h2
                have cv1 := hc1 wr (HLI.out.fr HFo.out (fun _ _ e => e))
                have HRd := Lib.hid (fun w => Ids.QRead_any (strB ((b.drop a).take 64)) (by rw [strB_size, hH64]; omega) w)
                have HIS : Hid ((Tryd.prog.info? 41).map (·.size) = some (Ids.idC (Ids.rdA (strB ((b.drop a).take 64)))).size) := Lib.hid (by rw [Ids.idC_size]; exact Ids.size32)
                have HIA := Lib.hid (Ids.idC_one (Ids.rdA (strB ((b.drop a).take 64))))
                have hci := Ids.idC_size (Ids.rdA (strB ((b.drop a).take 64)))
                obtain ⟨A1, hA1⟩ : ∃ A1, tlB (some ⟨bb, oo, none⟩) cap a = A1 := ⟨_, rfl⟩
                rw [hA1] at hsl1 cv1
                obtain ⟨ci, hcI⟩ : ∃ c, Ids.idC (Ids.rdA (strB ((b.drop a).take 64))) = c := ⟨_, rfl⟩
                rw [hcI] at HRd HIS HIA hci HMk
                obtain ⟨E, hE⟩ : ∃ E, Ids.rdE (strB ((b.drop a).take 64)) = E := ⟨_, rfl⟩
                rw [hE] at HRd HOk HMk
                obtain ⟨D, hD⟩ : ∃ S, strB ((b.drop a).take 64) = S := ⟨_, rfl⟩
                rw [hD] at cv1 HRd
                clear hA1 hcI hE hD hH64 hc1
                by_cases hE0 : E = 0
                · subst hE0
                  have HOk1 : Hid (okT ((b.drop a).take (e - a)) = true) := Lib.hid (by rw [HOk.out]; rfl)
                  obtain ⟨hnm, hidc⟩ := HMk.out rfl
                  have hbr := fun w => build_rfG (mkT ((b.drop a).take (e - a))) w
                  rw [hnm, hidc] at hbr
                  clear hnm hidc
                  have hbs := fun w => build_ref (mkT ((b.drop a).take (e - a))) w
                  have hX65 : ((b.drop (a + 65)).take (e - (a + 65))).length = e - (a + 65) := by rw [List.length_take, List.length_drop, HLn.out]; omega
                  have hsl2 : ∀ w, (Instr.slice 24 (.slice (some ⟨bb, oo, none⟩) L cap) (some (.int .i64 ((a : Int) + 65))) (some (.int .i64 e)) none).run Tryd.prog w = .ok (.slice (tlB (some ⟨bb, oo, none⟩) cap (a + 65)) (e - (a + 65)) (cap - (a + 65))) w := fun w => slice_lhB (some ⟨bb, oo, none⟩) L cap (a + 65) e (by omega) (by have := HCap.out; omega) w
                  have hc2 : ∀ wq, Lies wq (some ⟨bb, oo, none⟩) (bytesV b) → (convert 24 9 (.slice (tlB (some ⟨bb, oo, none⟩) cap (a + 65)) (e - (a + 65)) (cap - (a + 65)))).run Tryd.prog wq = .ok (.string (strB ((b.drop (a + 65)).take (e - (a + 65))))) wq := fun wq h => by
                    have h2 := run_convert_lies (P := Tryd.prog) 24 9 5 Tryd.underlying24 Tryd.underlying5 Tryd.underlying9 (h.cutB cap (a + 65) (e - (a + 65)) (by rw [HLn.out]; exact HCap.out)) (cap - (a + 65))
                    rw [hX65] at h2
                    exact h2
                  obtain ⟨A2, hA2⟩ : ∃ A2, tlB (some ⟨bb, oo, none⟩) cap (a + 65) = A2 := ⟨_, rfl⟩
                  rw [hA2] at hsl2 hc2
                  obtain ⟨n2, hn2⟩ : ∃ n2, e - (a + 65) = n2 := ⟨_, rfl⟩
                  rw [hn2] at hsl2 hc2 hbr
                  obtain ⟨c2, hc2e⟩ : ∃ c2, cap - (a + 65) = c2 := ⟨_, rfl⟩
                  rw [hc2e] at hsl2 hc2
                  obtain ⟨X, hX⟩ : ∃ S, strB ((b.drop (a + 65)).take n2) = S := ⟨_, rfl⟩
                  rw [hX] at hc2 hbr
                  obtain ⟨x, hx⟩ : ∃ x, mkT ((b.drop a).take (e - a)) = x := ⟨_, rfl⟩
                  rw [hx] at hbr hbs
                  have HXe := Lib.hid hx
                  have hcs := refV_size x
                  obtain ⟨cx, hcx⟩ : ∃ c, (refV x).toArray = c := ⟨_, rfl⟩
                  rw [hcx] at hbr hbs hcs
                  have HCX := Lib.hid hcx
                  have HBs := Lib.hid hbs
                  have HC2 := Lib.hid hc2
                  obtain ⟨m, hm⟩ : ∃ m, acc.length = m := ⟨_, rfl⟩
                  have HM := Lib.hid hm
                  have hm2 : m ≤ 50000 := by omega
                  clear hA2 hn2 hc2e hX hx hcx hbs hc2 hX65 hm
                  go_upto_region 12 with (first
                    | (go_at_call 38; refine (HRd.out wr).mono ?_; rintro e w3 ⟨rfl, b3⟩; have F3 := Lib.hid (Fr.of_below (S := fun _ => False) b3); clear b3)
                    | (refine wpList_store_at rfl 41 _ _ rfl w3.heap.size 0 41 Ids.zero32 ci rfl rfl (Whole.new w3 41 Ids.zero32) (by rw [hci]; decide) HIS.out HIA.out ?_
                       intro w4 hw4 hf4
                       rw [laidAt_all _ _ (by rw [hci]; rfl)] at hw4
                       have HW4 := Lib.hid hw4
                       have F4 := Lib.hid (F3.out.trans (((Fr.refl (fun _ => False) w3).alloc _).trans hf4 (fun i hi e => by omega)) (fun _ _ e => e))
                       clear hw4 hf4))
                  obtain ⟨g, hg⟩ : ∃ g, w3.heap.size = g := ⟨_, rfl⟩
                  have HOb := Lib.hid (fun j (e : v.ownBlock = some j) => (by have h := World.ownsRow.lt HOw.out.1 j e; have := F3.out.size; exact ⟨h.1, by omega⟩ : w.heap.size ≤ j ∧ j < g))
                  rw [hg] at HW4 ⊢
                  clear hg
                  have CV : Hid (∀ wq, Fr (fun j => v.ownBlock = some j) w4 wq → (convert 24 9 (.slice A2 n2 c2)).run Tryd.prog wq = .ok (.string X) wq) := Lib.hid (fun wq hq => HC2.out wq (HLI.out.fr ((HFo.out.trans F4.out (fun _ _ e => e)).trans hq (fun i hi e => by have := (HOb.out i e).1; omega)) (fun _ _ e => e)))
                  have LQ : Hid (∀ wq, Fr (fun j => v.ownBlock = some j) w4 wq → (loadCellsFrom ⟨g, 0, none⟩ 0 n32 #[]).run Tryd.prog wq = .ok ci wq) := Lib.hid (fun wq hq => load_whole3 (HW4.out.fr hq (fun e => by have := (HOb.out g e).2; omega)) n32 (by rw [HN.out, hci]))
                  have HFc := Lib.hid (show Fr (fun _ => False) w4 w4.drew from (Fr.refl _ w4).drew)
                  have HSq := Lib.hid (show Fr (fun j => v.ownBlock = some j) w4 w4.drew from HFc.out.mono (fun _ _ e => e.elim))
                  refine wp_region_held (S := fun w' => Fr (fun j => v.ownBlock = some j) w4 w') (by kernel_rfl) ?_
                  change wpAnyH _ _ _ _ _ _ _ _ (World.drew w4)
                  obtain ⟨wc, hwc⟩ : ∃ wc, w4.drew = wc := ⟨_, rfl⟩
                  rw [hwc] at HFc HSq ⊢
                  clear hwc
                  (
                    refine wpAnyH_takeM (i := 0) (v := v) 58 rfl rfl (by kernel_rfl) (by kernel_rfl) (by kernel_rfl) (fun _ _ _ h => h) (.inl ⟨by rfl, ?_⟩) HSq.out ?_
                    · intro wq hq
                      have cv := CV.out wq hq
                      have lq := LQ.out wq hq
                      go_simp)
                  (
                    refine wpAnyH_takeM (i := 1) (v := .slice (some ⟨bb, oo, none⟩) L cap) 59 rfl rfl (by kernel_rfl) (by kernel_rfl) (by kernel_rfl) (fun _ _ _ h => h) (.inl ⟨by rfl, ?_⟩) HSq.out ?_
                    · intro wq hq
                      have cv := CV.out wq hq
                      have lq := LQ.out wq hq
                      go_simp)
                  (
                    refine wpAnyH_takeM (i := 2) (v := .int .i64 a) 60 rfl rfl (by kernel_rfl) (by kernel_rfl) (by kernel_rfl) (fun _ _ _ h => h) (.inl ⟨by rfl, ?_⟩) HSq.out ?_
                    · intro wq hq
                      have cv := CV.out wq hq
                      have lq := LQ.out wq hq
                      go_simp)
                  (
                    refine wpAnyH_takeM (i := 3) (v := .int .i64 ((a : Int) + 65)) 61 rfl rfl (by kernel_rfl) (by kernel_rfl) (by kernel_rfl) (fun _ _ _ h => h) (.inl ⟨by rfl, ?_⟩) HSq.out ?_
                    · intro wq hq
                      have cv := CV.out wq hq
                      have lq := LQ.out wq hq
                      go_simp)
                  (
                    refine wpAnyH_takeM (i := 4) (v := .int .i64 e) 62 rfl rfl (by kernel_rfl) (by kernel_rfl) (by kernel_rfl) (fun _ _ _ h => h) (.inl ⟨by rfl, ?_⟩) HSq.out ?_
                    · intro wq hq
                      have cv := CV.out wq hq
                      have lq := LQ.out wq hq
                      go_simp)
                  (
                    refine wpAnyH_takeM (i := 5) (v := .slice A2 n2 c2) 63 rfl rfl (by kernel_rfl) (by kernel_rfl) (by kernel_rfl) (fun _ _ _ h => h) (.inl ⟨by rfl, ?_⟩) HSq.out ?_
                    · intro wq hq
                      have cv := CV.out wq hq
                      have lq := LQ.out wq hq
                      go_simp)
                  (
                    refine wpAnyH_takeM (i := 6) (v := .string X) 64 rfl rfl (by kernel_rfl) (by kernel_rfl) (by kernel_rfl) (fun _ _ _ h => h) (.inl ⟨by rfl, ?_⟩) HSq.out ?_
                    · intro wq hq
                      have cv := CV.out wq hq
                      have lq := LQ.out wq hq
                      go_simp)
                  (
                    refine wpAnyH_takeM (i := 7) (v := .agg ci) 65 rfl rfl (by kernel_rfl) (by kernel_rfl) (by kernel_rfl) (fun _ _ _ h => h) (.inl ⟨by rfl, ?_⟩) HSq.out ?_
                    · intro wq hq
                      have cv := CV.out wq hq
                      have lq := LQ.out wq hq
                      go_simp)
                  refine wpAnyH_takeM (i := 8) (v := .agg cx) 66 rfl rfl (by kernel_rfl) (by kernel_rfl) (by kernel_rfl) (fun _ _ _ h => h) (.inl ⟨by rfl, ?_⟩) HSq.out ?_
                  · intro wq hq
                    exact exec_build 50 _ #[(0, .string X), (1, .agg ci)] _ rfl (by first | rfl | simp [Act.eval]) (hbr wq)
                  (
                    try simp only [List.setIfInBounds_toArray, List.set_cons_succ, List.set_cons_zero]
                    refine wpAnyH_all (rs := [9]) (by kernel_rfl) (by simp) ?_
                    intro i hi
                    simp only [List.mem_cons, List.not_mem_nil, or_false] at hi
                    subst hi)
                  refine wpOp_step rfl (fun K hK => ?_)
                  refine step_buildSlice (by rfl) 22 1 _ (by rfl) #[(0, .agg cx)] (by first | rfl | simp [Act.eval]) _ _ (HBs.out wc) ?_
                  obtain ⟨wd, hwd⟩ : ∃ wd, wc.alloc (.cells cx 50) = wd := ⟨_, rfl⟩
                  have HSr := Lib.hid (src_ref wc x cx HCX.out)
                  have HFd := Lib.hid (show Fr (fun _ => False) w4 wd from by rw [← hwd]; exact HFc.out.alloc _)
                  rw [hwd] at HSr ⊢
                  have HSd := Lib.hid (show Fr (fun j => v.ownBlock = some j) w4 wd from HFd.out.mono (fun _ _ e => e.elim))
                  refine hK _ _ ⟨HSd.out, ?_⟩
                  clear hK K hwd
                  try simp only [Act.put]
                  try simp only [List.setIfInBounds_toArray]
                  refine wpAnyH_all (rs := [10]) (by kernel_rfl) (by simp) ?_
                  intro i hi
                  simp only [List.mem_cons, List.not_mem_nil, or_false] at hi
                  subst hi
                  refine wpOp_step rfl (fun K hK => ?_)
                  refine Ids.step_append_row _ (by rfl) (.tmp 58) (.tmp 67) 22 22 (by rfl) w.heap.size 50 i0 (.agg Z) 33 48 Tryd.underlying22 hi hz0 hz1 hz2 hz3 v m (flatR acc) (by rfl) (by have := ((HOw.out.fr F4.out).fr HFd.out).1; rw [HM.out] at this; exact this) _ 1 (flatR [x]) (by rfl) HSr.out (by unfold maxLen; omega) (by omega) (by have h1 := HFo.out.size; have h2 := F4.out.size; have h3 := HFd.out.size; omega) ?_
                  intro v' w5 o1 g1 at1
                  have HO5 := Lib.hid (((HOw.out.fr F4.out).fr HFd.out).grow (ks := acc ++ [x]) rfl HM.out.symm rfl o1 g1)
                  have HS5 := Lib.hid (show Fr (fun j => v.ownBlock = some j) w4 w5 from HSd.out.grown g1 (fun j e _ => e))
                  clear o1 g1 at1
                  refine hK _ _ ⟨HS5.out, ?_⟩
                  clear hK K
                  (
                    try simp only [List.setIfInBounds_toArray, List.set_cons_succ, List.set_cons_zero]
                    refine wpAnyH_all (rs := [11]) (by kernel_rfl) (by simp) ?_
                    intro i hi
                    simp only [List.mem_cons, List.not_mem_nil, or_false] at hi
                    subst hi)
                  refine wpOp_step rfl (fun K hK => ?_)
                  go_simp
                  refine hK _ _ ⟨HS5.out, ?_⟩
                  clear hK K
                  refine wpAnyH_done (by kernel_rfl) ?_ _
                  go_wp2_with fail
                  go_roundg (L - (e + 1))
                  case measure => omega
                  case rel => exact ⟨e + 1, acc ++ [x], _, rfl, by go_num, by omega, Nat.le_refl _, by rw [List.length_append]; simp; omega, HO5, Lib.hid (by rw [HB.out, getW_step acc HNe.out HLE.out.1 (by rw [HLE.out.2.1]; exact HOk1.out), HLE.out.2.1, HXe.out, HLE.out.2.2])⟩
                · have hEb : (E == 0) = false := by simpa using hE0
                  have HBd : Hid (getO b = ([], 12)) := Lib.hid (HBad.out (by rw [HOk.out]; exact decide_eq_false hE0))
                  (
                    go_wp2_with (first
                      | (go_at_call 38; refine (HRd.out wr).mono ?_; rintro e w3 ⟨rfl, b3⟩; have F3 := Lib.hid (Fr.of_below (S := fun _ => False) b3); clear b3)
                      | (refine wpList_store_at rfl 41 _ _ rfl w3.heap.size 0 41 Ids.zero32 ci rfl rfl (Whole.new w3 41 Ids.zero32) (by rw [hci]; decide) HIS.out HIA.out ?_
                         intro w4 hw4 hf4
                         rw [laidAt_all _ _ (by rw [hci]; rfl)] at hw4
                         have F4 := Lib.hid (F3.out.trans (((Fr.refl (fun _ => False) w3).alloc _).trans hf4 (fun i hi e => by omega)) (fun _ _ e => e))
                         clear hw4 hf4)))
                  (try simp only [Exit.inBlock, Exit.then])
                  go_ret2
                  rw [HBd.out]
                  exact ⟨_, rfl, OwnR.nil (HFo.out.trans F4.out (fun _ _ e => e))⟩
              · have h32b : (z == 32) = false := by simpa using h32
                have HBd : Hid (getO b = ([], 12)) := Lib.hid (HBad.out (by
                  cases hk : okT ((b.drop a).take (e - a))
                  · rfl
                  · exact absurd (HZ32.out.2 (by rw [← HG64.out]; exact (okT_of hk).2.1)) h32))
                go_wp2_with fail
                (try simp only [Exit.inBlock, Exit.then])
                go_ret2
                rw [HBd.out]
                exact ⟨_, rfl, OwnR.nil HFo.out⟩
          · have hy10b : (y == 10) = false := by simpa using h10
            go_wp2_with fail
            go_roundg (L - (e + 1))
            case measure => omega
            case rel => exact ⟨e + 1, by go_num, by omega, by omega, Nat.le_refl _, rfl, Lib.hid (fun j h1 h2 => by
              by_cases hj : j = e
              · subst hj; exact fun h => h10 (HY.out.2 h)
              · exact HE.out j h1 (by omega))⟩
        · have helz : ¬ (e : Int) < L := by omega
          obtain rfl : e = L := by omega
          have hg : getO b = ([], 12) := by rw [HG.out, HB.out, getW_bad acc (fun h => by have := congrArg List.length h; rw [List.length_drop, HLn.out] at this; simp at this; omega) (by rw [line_open (fun j h1 h2 => HE.out j h1 (by rw [HLn.out] at h2; exact h2)), Bool.false_and])]
          have HGe := Lib.hid hg
          clear hg
          go_wp2_with fail
          (try simp only [Exit.inBlock, Exit.then])
          go_ret2
          rw [HGe.out]
          exact ⟨_, rfl, OwnR.nil HFo.out⟩
    · have hltz : ¬ (a : Int) < L := by omega
      have HF : Hid (getW b [] = some acc) := Lib.hid (by rw [HB.out, List.drop_of_length_le (by rw [HLn.out]; omega), getW_nil])
      obtain ⟨A4, c4, hv4, hc4, hl4, hf4⟩ := HOw.out.form rfl
      have HCk := Lib.hid (QfCheck_any A4 c4 acc (by omega) wo hl4)
      obtain ⟨c, hc⟩ : ∃ c, chkR acc = c := ⟨_, rfl⟩
      rw [hc] at HCk
      have HC := Lib.hid hc
      obtain ⟨m, hm⟩ : ∃ m, acc.length = m := ⟨_, rfl⟩
      rw [hm] at hv4 HCk
      subst hv4
      clear hc4 hl4 hf4 hc hm hkx hal
      by_cases hc0 : c = 0
      · subst hc0
        go_wp2_with (go_at_call 13; refine HCk.out.mono ?_; rintro e w2 ⟨rfl, b2⟩; have F2 := Lib.hid (Fr.of_below (S := fun _ => False) b2); clear b2)
        go_ret2
        have e : getO b = (acc, 0) := by rw [HG.out, HF.out]; simp [HC.out]
        rw [e]
        exact ⟨_, rfl, HOw.out.fr F2.out⟩
      · go_wp2_with (go_at_call 13; refine HCk.out.mono ?_; rintro e w2 ⟨rfl, b2⟩; have F2 := Lib.hid (Fr.of_below (S := fun _ => False) b2); clear b2)
        go_ret2
        have e : getO b = ([], c) := by rw [HG.out, HF.out]; simp [HC.out, hc0]
        rw [e]
        exact ⟨_, rfl, OwnR.nil (HFo.out.trans F2.out (fun _ _ e => e))⟩
end Go.Proofs.YtoakbdmfoepdgaaDoor

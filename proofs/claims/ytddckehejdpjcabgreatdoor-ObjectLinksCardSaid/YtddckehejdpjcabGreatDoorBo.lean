/- What is proved: what the walks of this seat need of layers below, merged out of the texts Tsf Tsg Tsh (of each just what is needed). Conditions: each theorem names its own. -/
import Derived.Test.YtddckehejdpjcabGreatDoorBn
set_option maxRecDepth 100000
/- What is proved: an id that is laid byte by byte, plain. Conditions: none. -/
namespace Go.Proofs.YtddckehejdpjcabGreatDoor
open Go.RowKit Go.Sort Go.Shelf
set_option linter.unusedVariables false
/-- The cells of an entry whose id is laid up to byte k. -/
def idTo (S : ByteArray) (m : Int) (id : List UInt8) (k : Nat) : Array Value := (.string S :: .int .i64 m :: bytesV (id.take k ++ List.replicate (32 - k) 0)).toArray
theorem idTo_size (S : ByteArray) (m : Int) (id : List UInt8) (k : Nat) (hi : id.length = 32) (hk : k ≤ 32) : (idTo S m id k).size = 34 := by
  simp [idTo, bytesV_length, hi]; omega
theorem idTo_all (S : ByteArray) (m : Int) (id : List UInt8) (hi : id.length = 32) : idTo S m id 32 = (.string S :: .int .i64 m :: bytesV id).toArray := by
  rw [idTo, List.take_of_length_le (by omega)]; simp
theorem idTo_set (S : ByteArray) (m : Int) (id : List UInt8) (k : Nat) (hi : id.length = 32) (hk : k < 32) (u : UInt8) (hu : id[k]? = some u) : (idTo S m id k).setIfInBounds (2 + k) (.int .u8 (u.toNat : Nat)) = idTo S m id (k + 1) := by
  have h1 : (id.take k ++ List.replicate (32 - k) 0).set k u = id.take (k + 1) ++ List.replicate (32 - (k + 1)) 0 := by
    have hl : (id.take k).length = k := by rw [List.length_take]; omega
    rw [List.take_add_one, hu, show 32 - k = (32 - (k + 1)) + 1 by omega, List.replicate_succ, List.set_append_right _ _ (by omega), hl, Nat.sub_self]
    simp
  unfold idTo
  rw [← h1, List.setIfInBounds_toArray, Nat.add_comm 2 k, List.set_cons_succ, List.set_cons_succ]
  simp [bytesV, List.map_set, byteV]
end Go.Proofs.YtddckehejdpjcabGreatDoor
/- What is proved: plain facts on where an entry's name ends; one cell of a block is stored. Conditions: none. -/
namespace Go.Proofs.YtddckehejdpjcabGreatDoor
open Go.RowKit Go.Sort Go.Shelf
set_option linter.unusedVariables false
theorem slice_mdB (A : Option Addr) (n c lo hi : Nat) (h1 : lo ≤ hi) (h2 : hi ≤ c) (w : World) : (Instr.slice 22 (.slice A n c) (some (.int .i64 lo)) (some (.int .i64 hi)) none).run Tryz.prog w = .ok (.slice (tlB A c lo) (hi - lo) (c - lo)) w := by
  have hs : (sizeOf (Tryz.prog.elem 22)).run Tryz.prog w = .ok 1 w := by kernel_rfl
  have ht : Tryz.prog.underlying 22 = some (.slice (Tryz.prog.elem 22)) := by kernel_rfl
  have e := run_slice_lh (P := Tryz.prog) w 22 A n c ht .i64 .i64 (lo : Int) (hi : Int) (by omega) (by omega) (by omega)
  rw [e, hs]
  simp [sliced, tlB]
theorem laidAt_one (cs : Array Value) (i : Nat) (v : Value) (h : i < cs.size) : laidAt cs i #[v] = cs.setIfInBounds i v := by
  apply Array.toList_inj.1
  simp only [laidAt, Array.toList_setIfInBounds, List.size_toArray, List.length_cons, List.length_nil]
  rw [List.set_eq_take_append_cons_drop, if_pos (by simpa using h)]
  simp
theorem run_store_one {P : Program} {w : World} (g o : Nat) (t ty : TypeId) (cs : Array Value) (v : Value) (hg : Whole w g t cs) (hfit : o < cs.size) (hi : (P.info? ty).map (·.size) = some 1) (hc : v.cells = #[v]) (h1 : v.oneCell' = true) :
    (storeVar ty ⟨g, o, none⟩ v).run P w = .ok () (w.setRow g (cs.setIfInBounds o v)) := by
  have := run_storeCells_at P g o t [v] 0 cs w hg (by simp; omega) (fun u hu => by rw [List.mem_singleton] at hu; rw [hu]; exact h1)
  rw [← laidAt_one cs o v hfit]
  cases hq : P.info? ty with
  | none => simp [hq] at hi
  | some i =>
    have hs : 1 = i.size := by simp [hq] at hi; omega
    simp only [Nat.add_zero] at this
    simp [storeVar, sizeOf, typeInfo, hq, hc, ← hs, this, laidAt]
theorem wpList_store_one {P : Program} {w : World} {ops : Array Oper} {rest : List Oper} {op : Oper} {a : Act} {Q : Exit → Act → World → Prop} (hgd : op.guard = none) (ty : TypeId) (x y : Operand) (ho : op.op = .store ty x y)
    (g o : Nat) (t : TypeId) (cs : Array Value) (v : Value) (hx : a.eval x = .pointer (some ⟨g, o, none⟩)) (hy : a.eval y = v) (hg : Whole w g t cs) (hfit : o < cs.size)
    (hi : (P.info? ty).map (·.size) = some 1) (hc : v.cells = #[v]) (h1 : v.oneCell' = true)
    (h : ∀ w', Whole w' g t (cs.setIfInBounds o v) → Fr (fun k => k = g) w w' → wpList P ops Q rest (a.put op.dst undef) w') : wpList P ops Q (op :: rest) a w :=
  wpList_plain hgd fun _ hK => by
    unfold Oper.wp execOp
    simp only [ho, hx, hy, Instr.storeAt, Instr.sureAddr, Sem.run_bind, Sem.run_pure, Result.andThen_ok, run_store_one g o t ty cs v hg hfit hi hc h1]
    exact hK _ _ (h _ (hg.laid _) (Fr.laid w g _))
theorem drop_get {l0 : List UInt8} (p j : Nat) (h : p + j < l0.length) : l0[p + j]? = some ((l0.drop p).getD j 0) := by
  rw [List.getD_eq_getElem?_getD, List.getElem?_drop, List.getElem?_eq_getElem h]; rfl
theorem at_end {l0 : List UInt8} {p e : Nat} (h1 : p + 2 ≤ e) (h2 : e ≤ l0.length) (h3 : ∀ j, p + 2 ≤ j → j < e → l0[j]? ≠ some 0) (h4 : e = l0.length ∨ l0[e]? = some 0) :
    nm ((l0.drop p).drop 2) = (l0.drop (p + 2)).take (e - (p + 2)) ∧ bh ((l0.drop p).drop 2) = l0.drop (e + 1) := by
  have e1 : nm ((l0.drop p).drop 2) = (l0.drop (p + 2)).take (e - (p + 2)) := by
    rw [List.drop_drop]
    refine nm_of (fun j hj => ?_) ?_
    · rw [List.getElem?_drop]; exact h3 _ (by omega) (by omega)
    · rcases h4 with h4 | h4
      · left; rw [List.length_drop]; omega
      · right; rw [List.getElem?_drop, show p + 2 + (e - (p + 2)) = e by omega]; exact h4
  refine ⟨e1, ?_⟩
  rw [bh, e1, List.length_take, List.length_drop, List.drop_drop, List.drop_drop]
  congr 1
  omega
theorem err_mode {l : List UInt8} (h : modeB (modeT l) = false) : errT l = 16 := by rw [errT, if_pos h]
theorem err_one {l : List UInt8} (h : modeB (modeT l) = true) (h1 : l.length = 1) : errT l = 10 := by rw [errT, h, if_neg (by simp), if_neg (by omega), if_pos h1]
theorem err_blank {l : List UInt8} (h : modeB (modeT l) = true) (h1 : 1 < l.length) (h2 : l.getD 1 0 ≠ 32) : errT l = 16 := by rw [errT, h, if_neg (by simp), if_pos ⟨h1, h2⟩]
theorem err_name {l : List UInt8} (h : modeB (modeT l) = true) (h1 : 1 < l.length) (h2 : l.getD 1 0 = 32) (h3 : nameB (nm (l.drop 2)) = false) : errT l = 15 := by rw [errT, h, if_neg (by simp), if_neg (fun q => q.2 h2), if_neg (by omega), if_pos h3]
theorem err_end {l : List UInt8} (h : modeB (modeT l) = true) (h1 : 1 < l.length) (h2 : l.getD 1 0 = 32) (h3 : nameB (nm (l.drop 2)) = true) (h4 : (bh (l.drop 2)).length < 32) : errT l = 10 := by rw [errT, h, if_neg (by simp), if_neg (fun q => q.2 h2), if_neg (by omega), if_neg (by rw [h3]; simp), if_pos h4]
theorem err_ok {l : List UInt8} (h : modeB (modeT l) = true) (h1 : 1 < l.length) (h2 : l.getD 1 0 = 32) (h3 : nameB (nm (l.drop 2)) = true) (h4 : ¬ (bh (l.drop 2)).length < 32) : errT l = 0 := by rw [errT, h, if_neg (by simp), if_neg (fun q => q.2 h2), if_neg (by omega), if_neg (by rw [h3]; simp), if_neg h4]
theorem idTo_zero (m : Int) (id : List UInt8) : idTo (ByteArray.mk #[]) m id 0 = (.string (ByteArray.mk #[]) :: .int .i64 m :: bytesV (List.replicate 32 0)).toArray := by simp [idTo]
theorem idTo_named (S T : ByteArray) (m : Int) (id : List UInt8) (k : Nat) : (idTo S m id k).setIfInBounds 0 (.string T) = idTo T m id k := by simp [idTo]
theorem idTo_one (S : ByteArray) (m : Int) (id : List UInt8) (k : Nat) : (idTo S m id k).all (·.oneCell') = true := by
  rw [Array.all_eq_true_iff_forall_mem]
  intro v hv
  simp only [idTo, List.mem_toArray, List.mem_cons] at hv
  rcases hv with rfl | rfl | hv
  · rfl
  · rfl
  · exact bytesV_one _ _ hv
theorem build_mode (m : Int) (w : World) : (Instr.build 47 #[(1, .int .i64 m)]).run Tryz.prog w = .ok (.agg (.string (ByteArray.mk #[]) :: .int .i64 m :: bytesV (List.replicate 32 0)).toArray) w := by kernel_rfl
theorem size_str1 : (Tryz.prog.info? 9).map (·.size) = some 1 := by kernel_rfl
theorem size_u81 : (Tryz.prog.info? 5).map (·.size) = some 1 := by kernel_rfl
theorem entT_cells {l : List UInt8} (h : errT l = 0) (hn : nameB (nm (l.drop 2)) = true) (hb : ¬ (bh (l.drop 2)).length < 32) : (entV (entT l)).toArray = idTo (strB (nm (l.drop 2))) (modeT l) ((bh (l.drop 2)).take 32) 32 := by
  rw [took_cells h hn hb, idTo_all _ _ _ (by rw [List.length_take]; omega)]
end Go.Proofs.YtddckehejdpjcabGreatDoor
/- What is proved: entries out of bytes, by the document. Conditions: the bytes' cells are there. -/
namespace Go.Proofs.YtddckehejdpjcabGreatDoor
open Go.RowKit Go.Sort Go.Shelf
set_option linter.unusedVariables false
set_option maxHeartbeats 6400000 in
set_option maxRecDepth 100000 in
theorem QtGet_any (A : Option Addr) (c : Nat) (l0 : List UInt8) (hl : l0.length ≤ 100000) (hcap : l0.length ≤ c) (w : World) (h : Lies w A (bytesV l0)) :
    Calls Tryz.prog 11 #[.slice A l0.length c] w fun e w' => ∃ v, e = .returned (.tuple #[v, .int .i64 (getW l0 []).2]) ∧ OwnE w w' v (getW l0 []).1 := by
  obtain ⟨i0, hi, hz0, hz1, hz2⟩ := info_parts info_ent
  have hz3 := zeroE_cells
  obtain ⟨Z, hZ⟩ : ∃ Z, (entV default).toArray = Z := ⟨_, rfl⟩
  rw [hZ] at hz0 hz3
  have HL := Lib.hid h
  obtain ⟨G, hG⟩ : ∃ G, getW l0 [] = G := ⟨_, rfl⟩
  have HG := Lib.hid hG
  obtain ⟨L, hL⟩ : ∃ L, l0.length = L := ⟨_, rfl⟩
  have HLn := Lib.hid hL
  rw [hL] at hl hcap ⊢
  rw [hG]
  clear h hL hZ hG
  go_enter Tryz.func11, Tryz.ntmps11
  go_wp2_with fail
  go_loopg [4, 5] L (fun kx s4 s5 wr => ∃ (p : Nat) (es : List Ent), s5 = .int .i64 p ∧ p ≤ L ∧ L - p ≤ kx ∧ es.length ≤ p ∧ OwnE w wr s4 es ∧ Hid (getW (l0.drop p) es = G))
  case atStart => exact ⟨0, [], rfl, by omega, by omega, by simp, OwnE.nil (Fr.refl _ w), HG⟩
  case round =>
    obtain ⟨p, es, rfl, hp, hpx, hes, ho, HGW⟩ := hrel
    obtain ⟨wo, rfl⟩ : ∃ wo, wo = wr := ⟨wr, rfl⟩
    have HO := Lib.hid ho
    have HFo := Lib.hid ho.2
    by_cases hlt : p < L
    · have hltz : (p : Int) < L := by omega
      obtain ⟨b, o, hA⟩ := HL.out.someB (by rw [HLn.out]; omega)
      subst hA
      have wp0 := wrap_nat p (by omega)
      obtain ⟨l, hl'⟩ : ∃ l, l0.drop p = l := ⟨_, rfl⟩
      have hll : l.length = L - p := by rw [← hl', List.length_drop, HLn.out]
      have hne : l ≠ [] := fun e => by rw [e] at hll; simp at hll; omega
      rw [hl'] at HGW
      have HBad := Lib.hid (fun e => (getW_bad (l := l) es hne e).symm.trans HGW.out)
      have HStep := Lib.hid (fun e => (getW_step (l := l) es hne e).symm.trans HGW.out)
      have HLp := Lib.hid hl'
      have c0 : wo.cell? ⟨b, o + p, none⟩ = some (.int .u8 ((l.getD 0 0).toNat : Nat)) := HFo.out.cell (HL.out.byte p _ (by rw [← hl']; exact drop_get p 0 (by rw [HLn.out]; exact hlt))) (fun e => e)
      obtain ⟨v, hv⟩ : ∃ v : Nat, (l.getD 0 0).toNat = v := ⟨_, rfl⟩
      have hvb : v ≤ 255 := by have := (l.getD 0 0).toNat_lt; omega
      have hm : modeT l = (v : Int) - 48 := by rw [modeT, hv]
      rw [hv] at c0
      have wv : IntKind.i64.wrap (v : Int) = v := wrap_nz v (by omega)
      have wv2 : IntKind.i64.wrap ((v : Int) - 48) = modeT l := by rw [hm, IntKind.wrap_i64]; omega
      have HB1 : Hid (p + 1 < L → ∀ w2, Fr (fun _ => False) wo w2 → w2.cell? ⟨b, o + (p + 1), none⟩ = some (.int .u8 ((l.getD 1 0).toNat : Nat))) := Lib.hid (fun h1 w2 f => f.cell (HFo.out.cell (HL.out.byte (p + 1) _ (by rw [← hl']; exact drop_get p 1 (by rw [HLn.out]; exact h1))) (fun e => e)) (fun e => e))
      have HMB : Hid (modeB (modeT l) = (decide (1 ≤ modeT l) && decide (modeT l ≤ 3))) := Lib.hid rfl
      have HBuild := Lib.hid (fun w => build_mode (modeT l) w)
      rw [← idTo_zero (modeT l) ((bh (l.drop 2)).take 32)] at HBuild
      have hxm : (idTo (ByteArray.mk #[]) (modeT l) ((bh (l.drop 2)).take 32) 0)[1]? = some (.int .i64 (modeT l)) := rfl
      have hx0 : (idTo (ByteArray.mk #[]) (modeT l) ((bh (l.drop 2)).take 32) 0).size = 34 := by rw [idTo_zero]; rfl
      have hA0 := idTo_one (ByteArray.mk #[]) (modeT l) ((bh (l.drop 2)).take 32) 0
      obtain ⟨m, hm'⟩ : ∃ m, modeT l = m := ⟨_, rfl⟩
      rw [hm'] at wv2 HMB HBuild hxm hx0 hA0
      have HM := Lib.hid hm'
      obtain ⟨cx0, hcx0⟩ : ∃ cx, idTo (ByteArray.mk #[]) m ((bh (l.drop 2)).take 32) 0 = cx := ⟨_, rfl⟩
      rw [hcx0] at HBuild hxm hx0 hA0
      have HCX0 := Lib.hid hcx0
      have HXm := Lib.hid hxm
      have HX0 := Lib.hid hx0
      have HA0 := Lib.hid hA0
      have HLL := Lib.hid hll
      have HNE := Lib.hid hne
      clear hcx0 hxm hx0 hA0 hm' hm hv hll hne hl' ho hvb
      by_cases hmb : modeB m = false
      · have HG1 := Lib.hid (HBad.out (by rw [err_mode (by rw [HM.out]; exact hmb)]; decide))
        rw [err_mode (by rw [HM.out]; exact hmb)] at HG1
        (
          obtain ⟨w1, hw1⟩ : ∃ w1, wo.alloc (.cells zeroE 47) = w1 := ⟨_, rfl⟩
          have HZ := Lib.hid (show Whole w1 wo.heap.size 47 zeroE from by subst hw1; exact Whole.new wo 47 zeroE)
          have HF1 := Lib.hid (show Fr (fun _ => False) wo w1 from by subst hw1; exact (Fr.refl _ wo).alloc _)
          unfold zeroE at hw1
          simp [List.replicate] at hw1)
        have hm12 : m < 1 ∨ 3 < m := by
          have := HMB.out
          rw [hmb] at this
          simp only [Bool.false_eq, Bool.and_eq_false_iff, decide_eq_false_iff_not] at this
          omega
        rcases hm12 with m1 | m2
        · clear hmb
          go_wp2_with (first | (
            (refine wpList_build_to rfl 47 _ rfl #[(1, .int .i64 m)] (by first | rfl | simp [Act.eval, Act.put]) (.agg cx0) (HBuild.out _) ?_)) | (
              (refine wpList_store_at rfl 47 _ _ rfl wo.heap.size 0 47 zeroE cx0 rfl rfl HZ.out (by rw [zeroE_size, HX0.out]; exact Nat.le_refl _) (by rw [HX0.out]; exact size_ent) HA0.out ?_
               intro w2 hw2 hf2
               rw [laidAt_all _ _ (by rw [zeroE_size, HX0.out])] at hw2
               have HW2 := Lib.hid hw2
               have HF2 := Lib.hid (show Fr (fun _ => False) wo w2 from HF1.out.trans hf2 (fun i hi e => by omega))
               have cm : w2.cell? ⟨wo.heap.size, 1, none⟩ = some (.int .i64 m) := (by rw [HW2.out.cell]; exact HXm.out)
               first | (have cb1 := HB2.out w2 HF2.out) | skip
               clear hw2 hf2)))
          (
            go_ret2
            exact ⟨.slice none 0 0, by rw [← HG1.out]; rfl, by rw [← HG1.out]; exact OwnE.nil (HFo.out.trans HF2.out (fun _ _ e => e))⟩)
        · have m1 : ¬ m < 1 := by omega
          clear hmb
          go_wp2_with (first | (
            (refine wpList_build_to rfl 47 _ rfl #[(1, .int .i64 m)] (by first | rfl | simp [Act.eval, Act.put]) (.agg cx0) (HBuild.out _) ?_)) | (
              (refine wpList_store_at rfl 47 _ _ rfl wo.heap.size 0 47 zeroE cx0 rfl rfl HZ.out (by rw [zeroE_size, HX0.out]; exact Nat.le_refl _) (by rw [HX0.out]; exact size_ent) HA0.out ?_
               intro w2 hw2 hf2
               rw [laidAt_all _ _ (by rw [zeroE_size, HX0.out])] at hw2
               have HW2 := Lib.hid hw2
               have HF2 := Lib.hid (show Fr (fun _ => False) wo w2 from HF1.out.trans hf2 (fun i hi e => by omega))
               have cm : w2.cell? ⟨wo.heap.size, 1, none⟩ = some (.int .i64 m) := (by rw [HW2.out.cell]; exact HXm.out)
               first | (have cb1 := HB2.out w2 HF2.out) | skip
               clear hw2 hf2)))
          (
            go_ret2
            exact ⟨.slice none 0 0, by rw [← HG1.out]; rfl, by rw [← HG1.out]; exact OwnE.nil (HFo.out.trans HF2.out (fun _ _ e => e))⟩)
      · have hmt : modeB m = true := by simpa using hmb
        have hm12 : 1 ≤ m ∧ m ≤ 3 := by
          have := HMB.out
          rw [hmt] at this
          simp only [Bool.true_eq, Bool.and_eq_true, decide_eq_true_eq] at this
          exact this
        have m1 : ¬ m < 1 := by omega
        have m2 : ¬ 3 < m := by omega
        have HMT : Hid (modeB (modeT l) = true) := Lib.hid (by rw [HM.out]; exact hmt)
        (
          obtain ⟨w1, hw1⟩ : ∃ w1, wo.alloc (.cells zeroE 47) = w1 := ⟨_, rfl⟩
          have HZ := Lib.hid (show Whole w1 wo.heap.size 47 zeroE from by subst hw1; exact Whole.new wo 47 zeroE)
          have HF1 := Lib.hid (show Fr (fun _ => False) wo w1 from by subst hw1; exact (Fr.refl _ wo).alloc _)
          unfold zeroE at hw1
          simp [List.replicate] at hw1)
        have wp1 := wrap_nat1 p (by omega)
        by_cases hone : p + 1 = L
        · have hoz : ((p : Int) + 1 == (L : Int)) = true := by simp; omega
          have HE : Hid (errT l = 10) := Lib.hid (err_one HMT.out (by rw [HLL.out]; omega))
          have HG1 := Lib.hid (HBad.out (by rw [HE.out]; decide))
          rw [HE.out] at HG1
          clear hmb hmt hm12 hone
          go_wp2_with (first | (
            (refine wpList_build_to rfl 47 _ rfl #[(1, .int .i64 m)] (by first | rfl | simp [Act.eval, Act.put]) (.agg cx0) (HBuild.out _) ?_)) | (
              (refine wpList_store_at rfl 47 _ _ rfl wo.heap.size 0 47 zeroE cx0 rfl rfl HZ.out (by rw [zeroE_size, HX0.out]; exact Nat.le_refl _) (by rw [HX0.out]; exact size_ent) HA0.out ?_
               intro w2 hw2 hf2
               rw [laidAt_all _ _ (by rw [zeroE_size, HX0.out])] at hw2
               have HW2 := Lib.hid hw2
               have HF2 := Lib.hid (show Fr (fun _ => False) wo w2 from HF1.out.trans hf2 (fun i hi e => by omega))
               have cm : w2.cell? ⟨wo.heap.size, 1, none⟩ = some (.int .i64 m) := (by rw [HW2.out.cell]; exact HXm.out)
               first | (have cb1 := HB2.out w2 HF2.out) | skip
               clear hw2 hf2)))
          (
            go_ret2
            exact ⟨.slice none 0 0, by rw [← HG1.out]; rfl, by rw [← HG1.out]; exact OwnE.nil (HFo.out.trans HF2.out (fun _ _ e => e))⟩)
        · have hoz : ((p : Int) + 1 == (L : Int)) = false := by simp; omega
          have hp1 : p + 1 < L := by omega
          have hpz : (p : Int) + 1 < L := by omega
          have tn1 := toNat_nat1 p
          have nn1 := nonneg_nat1 p
          have hb1' := HB1.out hp1
          by_cases hbl : l.getD 1 0 = 32
          · have hb32 : ∀ w2, Fr (fun _ => False) wo w2 → w2.cell? ⟨b, o + (p + 1), none⟩ = some (.int .u8 32) := fun w2 f => by rw [hb1' w2 f, hbl]; rfl
            have HB2 := Lib.hid hb32
            have HBL := Lib.hid hbl
            have wp2 : IntKind.i64.wrap ((p : Int) + 2) = (p : Int) + 2 := by rw [IntKind.wrap_i64]; omega
            clear hmb hmt hm12 hone hb1' hbl hb32
            go_upto_block 2 with (first | (
              (refine wpList_build_to rfl 47 _ rfl #[(1, .int .i64 m)] (by first | rfl | simp [Act.eval, Act.put]) (.agg cx0) (HBuild.out _) ?_)) | (
                (refine wpList_store_at rfl 47 _ _ rfl wo.heap.size 0 47 zeroE cx0 rfl rfl HZ.out (by rw [zeroE_size, HX0.out]; exact Nat.le_refl _) (by rw [HX0.out]; exact size_ent) HA0.out ?_
                 intro w2 hw2 hf2
                 rw [laidAt_all _ _ (by rw [zeroE_size, HX0.out])] at hw2
                 have HW2 := Lib.hid hw2
                 have HF2 := Lib.hid (show Fr (fun _ => False) wo w2 from HF1.out.trans hf2 (fun i hi e => by omega))
                 have cm : w2.cell? ⟨wo.heap.size, 1, none⟩ = some (.int .i64 m) := (by rw [HW2.out.cell]; exact HXm.out)
                 first | (have cb1 := HB2.out w2 HF2.out) | skip
                 clear hw2 hf2)))
            go_cut [7] (fun s7 wc => ∃ e : Nat, s7 = .int .i64 e ∧ p + 2 ≤ e ∧ e ≤ L ∧ w2 = wc ∧ Hid (nm (l.drop 2) = (l0.drop (p + 2)).take (e - (p + 2)) ∧ bh (l.drop 2) = l0.drop (e + 1)))
            case first =>
              go_wp2_with fail
              go_loopg [7] L (fun kx s7 wr => ∃ e : Nat, s7 = .int .i64 e ∧ p + 2 ≤ e ∧ e ≤ L ∧ L - e ≤ kx ∧ w2 = wr ∧ Hid (∀ j, p + 2 ≤ j → j < e → l0[j]? ≠ some 0))
              case atStart => exact ⟨p + 2, by go_num, Nat.le_refl _, by omega, by omega, rfl, Lib.hid (fun j h1 h2 => by omega)⟩
              case round =>
                obtain ⟨e, rfl, he2, heL, hex, rfl, HZr⟩ := hrel
                have we0 := wrap_nat e (by omega)
                by_cases hel : e < L
                · have helz : (e : Int) < L := by omega
                  have ce : w2.cell? ⟨b, o + e, none⟩ = some (.int .u8 ((l0.getD e 0).toNat : Nat)) := HF2.out.cell (HFo.out.cell (HL.out.byte e _ (by rw [List.getD_eq_getElem?_getD, List.getElem?_eq_getElem (by rw [HLn.out]; exact hel)]; rfl)) (fun e => e)) (fun e => e)
                  by_cases hx : l0.getD e 0 = 0
                  · rw [hx] at ce
                    have HE0 := Lib.hid (show l0[e]? = some 0 by rw [← hx, List.getD_eq_getElem?_getD, List.getElem?_eq_getElem (by rw [HLn.out]; exact hel)]; rfl)
                    clear hx
                    go_wp2_with fail
                    go_meet
                    case rel => exact ⟨e, rfl, he2, heL, rfl, Lib.hid (by rw [← HLp.out]; exact at_end he2 (by rw [HLn.out]; exact heL) HZr.out (.inr HE0.out))⟩
                  · have HE0 := Lib.hid (show l0[e]? ≠ some 0 from fun q => hx (by rw [List.getD_eq_getElem?_getD, q]; rfl))
                    have hu : ¬ (((l0.getD e 0).toNat : Nat) : Int) = 0 := fun q => hx (UInt8.toNat_inj.1 (by show _ = 0; omega))
                    obtain ⟨u, hu'⟩ : ∃ u : Nat, (l0.getD e 0).toNat = u := ⟨_, rfl⟩
                    rw [hu'] at hu ce
                    have huz : ((u : Int) == 0) = false := by simp; omega
                    have hun : ((u : Int) != 0) = true := by simp; omega
                    clear hx hu'
                    go_wp2_with fail
                    go_roundg (L - (e + 1))
                    case measure => omega
                    case rel => exact ⟨e + 1, by go_num, by omega, by omega, Nat.le_refl _, rfl, Lib.hid (fun j h1 h2 => by
                      by_cases q : j = e
                      · rw [q]; exact HE0.out
                      · exact HZr.out j h1 (by omega))⟩
                · obtain rfl : e = L := by omega
                  have helz : ¬ (e : Int) < (e : Int) := by omega
                  go_wp2_with fail
                  go_meet
                  case rel => exact ⟨e, rfl, he2, Nat.le_refl _, rfl, Lib.hid (by rw [← HLp.out]; exact at_end he2 (by rw [HLn.out]; exact Nat.le_refl _) HZr.out (.inl HLn.out.symm))⟩
            case rest =>
              obtain ⟨e, rfl, he2, heL, rfl, HNB⟩ := hcut
              have hnl : (nm (l.drop 2)).length = e - (p + 2) := by rw [HNB.out.1, List.length_take, List.length_drop, HLn.out]; omega
              have hbl : (bh (l.drop 2)).length = L - (e + 1) := by rw [HNB.out.2, List.length_drop, HLn.out]
              have hs1 : ∀ w, (Instr.slice 22 (.slice (some ⟨b, o, none⟩) L c) (some (.int .i64 ((p : Int) + 2))) (some (.int .i64 (e : Int))) none).run Tryz.prog w = .ok (.slice (tlB (some ⟨b, o, none⟩) c (p + 2)) (e - (p + 2)) (c - (p + 2))) w := fun w => slice_mdB _ L c (p + 2) e he2 (by omega) w
              have cv := run_convert_lies (w := w2) 22 9 5 Tryz.underlying22 Tryz.underlying5 Tryz.underlying9 (A := tlB (some ⟨b, o, none⟩) c (p + 2)) (xs := nm (l.drop 2)) (by
                rw [HNB.out.1]
                exact (((HL.out.fr HFo.out (fun _ _ e => e)).fr HF2.out (fun _ _ e => e)).tlB c (p + 2) (by rw [HLn.out]; exact hcap)).takeB _) (c - (p + 2))
              rw [hnl] at cv
              have HCN := Lib.hid (fun w => QrName_any (nm (l.drop 2)) (by omega) w)
              obtain ⟨S, hS⟩ : ∃ S, strB (nm (l.drop 2)) = S := ⟨_, rfl⟩
              obtain ⟨A2, hA2⟩ : ∃ A2, tlB (some ⟨b, o, none⟩) c (p + 2) = A2 := ⟨_, rfl⟩
              obtain ⟨n2, hn2⟩ : ∃ n2, e - (p + 2) = n2 := ⟨_, rfl⟩
              obtain ⟨k2, hk2⟩ : ∃ k2, c - (p + 2) = k2 := ⟨_, rfl⟩
              rw [hS] at cv HCN
              rw [hA2] at cv hs1
              rw [hn2] at cv hs1
              rw [hk2] at cv hs1
              have HSe := Lib.hid hS
              have HBLn := Lib.hid hbl
              have wp2 : IntKind.i64.wrap ((p : Int) + 2) = (p : Int) + 2 := by rw [IntKind.wrap_i64]; omega
              have we33 : IntKind.i64.wrap ((e : Int) + 33) = (e : Int) + 33 := by rw [IntKind.wrap_i64]; omega
              have we0 := wrap_nat e (by omega)
              clear hS hA2 hn2 hk2 hnl hbl
              cases hnb : nameB (nm (l.drop 2)) with
              | false =>
                have HE : Hid (errT l = 15) := Lib.hid (err_name HMT.out (by rw [HLL.out]; omega) HBL.out hnb)
                have HG1 := Lib.hid (HBad.out (by rw [HE.out]; decide))
                rw [HE.out] at HG1
                rw [hnb] at HCN
                clear hnb
                go_step
                go_wp2_with (first | (
                  (refine wpList_store_one rfl 9 _ _ rfl wo.heap.size 0 47 cx0 (.string S) rfl rfl HW2.out (by rw [HX0.out]; decide) size_str1 rfl rfl ?_
                   intro w3 hw3 hf3
                   rw [← HCX0.out, idTo_named] at hw3
                   have HW3 := Lib.hid hw3
                   have HF3 := Lib.hid (show Fr (fun _ => False) wo w3 from HF2.out.trans hf3 (fun i hi e => by omega))
                   have cn0 : w3.cell? ⟨wo.heap.size, 0, none⟩ = some (.string S) := (by rw [HW3.out.cell]; rfl)
                   clear hw3 hf3)) | (
                     (go_at_call 22
                      refine (HCN.out _).mono ?_
                      rintro e4 w4 ⟨rfl, bb⟩
                      have HW4 := Lib.hid (HW3.out.fr ((Fr.refl (fun _ => False) w3).then_below bb) (fun e => e))
                      have HF4 := Lib.hid (HF3.out.then_below bb)
                      clear bb)))
                (
                  go_ret2
                  exact ⟨.slice none 0 0, by rw [← HG1.out]; rfl, by rw [← HG1.out]; exact OwnE.nil (HFo.out.trans HF4.out (fun _ _ e => e))⟩)
              | true =>
                rw [hnb] at HCN
                have HNBt := Lib.hid hnb
                clear hnb
                by_cases h33 : L < e + 33
                · have HE : Hid (errT l = 10) := Lib.hid (err_end HMT.out (by rw [HLL.out]; omega) HBL.out HNBt.out (by rw [HBLn.out]; omega))
                  have HG1 := Lib.hid (HBad.out (by rw [HE.out]; decide))
                  rw [HE.out] at HG1
                  have h33z : (L : Int) < (e : Int) + 33 := by omega
                  go_step
                  go_wp2_with (first | (
                    (refine wpList_store_one rfl 9 _ _ rfl wo.heap.size 0 47 cx0 (.string S) rfl rfl HW2.out (by rw [HX0.out]; decide) size_str1 rfl rfl ?_
                     intro w3 hw3 hf3
                     rw [← HCX0.out, idTo_named] at hw3
                     have HW3 := Lib.hid hw3
                     have HF3 := Lib.hid (show Fr (fun _ => False) wo w3 from HF2.out.trans hf3 (fun i hi e => by omega))
                     have cn0 : w3.cell? ⟨wo.heap.size, 0, none⟩ = some (.string S) := (by rw [HW3.out.cell]; rfl)
                     clear hw3 hf3)) | (
                       (go_at_call 22
                        refine (HCN.out _).mono ?_
                        rintro e4 w4 ⟨rfl, bb⟩
                        have HW4 := Lib.hid (HW3.out.fr ((Fr.refl (fun _ => False) w3).then_below bb) (fun e => e))
                        have HF4 := Lib.hid (HF3.out.then_below bb)
                        clear bb)))
                  (
                    go_ret2
                    exact ⟨.slice none 0 0, by rw [← HG1.out]; rfl, by rw [← HG1.out]; exact OwnE.nil (HFo.out.trans HF4.out (fun _ _ e => e))⟩)
                · have h33z : ¬ (L : Int) < (e : Int) + 33 := by omega
                  have HE : Hid (errT l = 0) := Lib.hid (err_ok HMT.out (by rw [HLL.out]; omega) HBL.out HNBt.out (by rw [HBLn.out]; omega))
                  have HG1 := Lib.hid (HStep.out HE.out)
                  have HEC := Lib.hid (entT_cells HE.out HNBt.out (by rw [HBLn.out]; omega))
                  rw [HSe.out, HM.out] at HEC
                  have HRT : Hid (restT l = l0.drop (e + 33)) := Lib.hid (by rw [restT, if_pos HE.out, HNB.out.2, List.drop_drop])
                  have hid : ((bh (l.drop 2)).take 32).length = 32 := by rw [List.length_take, HBLn.out]; omega
                  have HIDg : Hid (∀ j, j < 32 → ((bh (l.drop 2)).take 32)[j]? = some (l0.getD (e + 1 + j) 0)) := Lib.hid (fun j hj => by
                    rw [List.getElem?_take, if_pos hj, HNB.out.2, List.getElem?_drop, List.getD_eq_getElem?_getD, List.getElem?_eq_getElem (by rw [HLn.out]; omega)]; rfl)
                  obtain ⟨id, hide⟩ : ∃ id, (bh (l.drop 2)).take 32 = id := ⟨_, rfl⟩
                  rw [hide] at hid HEC HIDg HCX0
                  have HIdl := Lib.hid hid
                  clear hide hid
                  go_step
                  go_wp2_with (first | (
                    (refine wpList_store_one rfl 9 _ _ rfl wo.heap.size 0 47 cx0 (.string S) rfl rfl HW2.out (by rw [HX0.out]; decide) size_str1 rfl rfl ?_
                     intro w3 hw3 hf3
                     rw [← HCX0.out, idTo_named] at hw3
                     have HW3 := Lib.hid hw3
                     have HF3 := Lib.hid (show Fr (fun _ => False) wo w3 from HF2.out.trans hf3 (fun i hi e => by omega))
                     have cn0 : w3.cell? ⟨wo.heap.size, 0, none⟩ = some (.string S) := (by rw [HW3.out.cell]; rfl)
                     clear hw3 hf3)) | (
                       (go_at_call 22
                        refine (HCN.out _).mono ?_
                        rintro e4 w4 ⟨rfl, bb⟩
                        have HW4 := Lib.hid (HW3.out.fr ((Fr.refl (fun _ => False) w3).then_below bb) (fun e => e))
                        have HF4 := Lib.hid (HF3.out.then_below bb)
                        clear bb)))
                  go_loopg [8] 32 (fun kx s8 wr => ∃ j : Nat, s8 = .int .i64 j ∧ j ≤ 32 ∧ 32 - j ≤ kx ∧ Whole wr wo.heap.size 47 (idTo S m id j) ∧ Fr (fun _ => False) wo wr)
                  case atStart => exact ⟨0, rfl, by omega, by omega, HW4.out, HF4.out⟩
                  case round =>
                    obtain ⟨j, rfl, hj, hjx, hwj, hfj⟩ := hrel
                    obtain ⟨wi, rfl⟩ : ∃ wi, wi = wr := ⟨wr, rfl⟩
                    have HWJ := Lib.hid hwj
                    have HFJ := Lib.hid hfj
                    clear hwj hfj
                    have wj0 := wrap_nat j (by omega)
                    by_cases hj32 : j < 32
                    · have hjz : (j : Int) < 32 := by omega
                      have we1 := wrap_nat1 e (by omega)
                      have we2 : IntKind.i64.wrap ((e : Int) + 1 + j) = (e : Int) + 1 + j := by rw [IntKind.wrap_i64]; omega
                      have tn2 : ((e : Int) + 1 + j).toNat = e + 1 + j := by omega
                      have nn2 : (0 : Int) ≤ (e : Int) + 1 + j := by omega
                      have lt2 : (e : Int) + 1 + j < L := by omega
                      have cj : wi.cell? ⟨b, o + (e + 1 + j), none⟩ = some (.int .u8 ((l0.getD (e + 1 + j) 0).toNat : Nat)) := HFJ.out.cell (HFo.out.cell (HL.out.byte (e + 1 + j) _ (by rw [List.getD_eq_getElem?_getD, List.getElem?_eq_getElem (by rw [HLn.out]; omega)]; rfl)) (fun e => e)) (fun e => e)
                      have HSet := Lib.hid (idTo_set S m id j HIdl.out hj32 _ (HIDg.out j hj32))
                      obtain ⟨u, hu⟩ : ∃ u : Nat, (l0.getD (e + 1 + j) 0).toNat = u := ⟨_, rfl⟩
                      rw [hu] at cj HSet
                      have hsz : 2 + j < (idTo S m id j).size := by rw [idTo_size S m id j HIdl.out hj]; omega
                      have HSZ := Lib.hid hsz
                      clear hu hsz
                      go_wp2_with (refine wpList_store_one rfl 5 _ _ rfl wo.heap.size (2 + j) 47 (idTo S m id j) (.int .u8 u) rfl rfl HWJ.out HSZ.out size_u81 rfl rfl ?_
                                   intro w5 hw5 hf5
                                   rw [HSet.out] at hw5
                                   have HW5 := Lib.hid hw5
                                   have HF5 := Lib.hid (show Fr (fun _ => False) wo w5 from HFJ.out.trans hf5 (fun i hi e => by omega))
                                   clear hw5 hf5)
                      go_roundg (32 - (j + 1))
                      case measure => omega
                      case rel => exact ⟨j + 1, by go_num, by omega, Nat.le_refl _, HW5.out, HF5.out⟩
                    · obtain rfl : j = 32 := by omega
                      have hjz : ¬ (32 : Int) < 32 := by omega
                      have hcs : (idTo S m id 32).size = 34 := idTo_size S m id 32 HIdl.out (Nat.le_refl _)
                      obtain ⟨cx, hcx⟩ : ∃ cx, idTo S m id 32 = cx := ⟨_, rfl⟩
                      rw [hcx] at HWJ HEC hcs
                      obtain ⟨q, hq⟩ : ∃ q, es.length = q := ⟨_, rfl⟩
                      have HQ := Lib.hid hq
                      rw [hq] at hes
                      have NO := Lib.hid (HO.out.fr HFJ.out)
                      clear hcx hq
                      go_wp2_with (first
                        | (refine wpList_build_cx rfl (.tmp 86) rfl (entT l) cx HEC.out rfl ?_)
                        | (at_builtin; refine wpList_append_row _ rfl (.tmp 85) (.tmp 87) 43 43 rfl w.heap.size 47 i0 (.agg Z) 34 56 Tryz.underlying43 hi hz0 hz1 hz2 hz3 _ q _ rfl ((by have := NO.out.1; rw [HQ.out] at this; exact this : wi.ownsRow w.heap.size 47 34 u4 q (flatE es)).alloc _) _ 1 (flatE [entT l]) rfl (src_cx34 _ (entT l) cx HEC.out) (by unfold maxLen; omega) (by omega) (by have := NO.out.2.size; simp; omega) ?_
                           intro v2 w7 o2 g2 at2
                           have N2 := Lib.hid (show OwnE w w7 v2 (es ++ [entT l]) from ⟨(by rw [flatE_append, List.length_append, HQ.out]; exact o2), fr_append (NO.out.1.alloc _) (NO.out.2.alloc _) g2⟩)
                           clear o2 g2 at2)
                        | (refine wpList_load_cx rfl (.tmp 6) rfl wo.heap.size 0 rfl cx hcs (fun j u hu => (by rw [Nat.zero_add, HWJ.out.cell, ← Array.getElem?_toList]; exact hu)) ?_))
                      go_roundg (L - (e + 33))
                      case measure => omega
                      case rel => exact ⟨e + 33, es ++ [entT l], by go_num, by omega, Nat.le_refl _, by rw [List.length_append, HQ.out, List.length_singleton]; omega, N2.out, Lib.hid (by rw [← HRT.out]; exact HG1.out)⟩
          · have HE : Hid (errT l = 16) := Lib.hid (err_blank HMT.out (by rw [HLL.out]; omega) hbl)
            have HG1 := Lib.hid (HBad.out (by rw [HE.out]; decide))
            rw [HE.out] at HG1
            have hu : ¬ (((l.getD 1 0).toNat : Nat) : Int) = 32 := fun e => hbl (UInt8.toNat_inj.1 (by show _ = 32; omega))
            obtain ⟨u, hu'⟩ : ∃ u : Nat, (l.getD 1 0).toNat = u := ⟨_, rfl⟩
            rw [hu'] at hu hb1'
            have huz : ((u : Int) == 32) = false := by simp; omega
            have hun : ((u : Int) != 32) = true := by simp; omega
            have HB2 := Lib.hid hb1'
            clear hmb hmt hm12 hone hb1' hbl hu'
            go_wp2_with (first | (
              (refine wpList_build_to rfl 47 _ rfl #[(1, .int .i64 m)] (by first | rfl | simp [Act.eval, Act.put]) (.agg cx0) (HBuild.out _) ?_)) | (
                (refine wpList_store_at rfl 47 _ _ rfl wo.heap.size 0 47 zeroE cx0 rfl rfl HZ.out (by rw [zeroE_size, HX0.out]; exact Nat.le_refl _) (by rw [HX0.out]; exact size_ent) HA0.out ?_
                 intro w2 hw2 hf2
                 rw [laidAt_all _ _ (by rw [zeroE_size, HX0.out])] at hw2
                 have HW2 := Lib.hid hw2
                 have HF2 := Lib.hid (show Fr (fun _ => False) wo w2 from HF1.out.trans hf2 (fun i hi e => by omega))
                 have cm : w2.cell? ⟨wo.heap.size, 1, none⟩ = some (.int .i64 m) := (by rw [HW2.out.cell]; exact HXm.out)
                 first | (have cb1 := HB2.out w2 HF2.out) | skip
                 clear hw2 hf2)))
            (
              go_ret2
              exact ⟨.slice none 0 0, by rw [← HG1.out]; rfl, by rw [← HG1.out]; exact OwnE.nil (HFo.out.trans HF2.out (fun _ _ e => e))⟩)
    · obtain rfl : p = L := by omega
      have hltz : ¬ (p : Int) < (p : Int) := by omega
      have hnil : l0.drop p = [] := List.drop_of_length_le (by rw [HLn.out]; exact Nat.le_refl _)
      have hgw := HGW.out
      rw [hnil, getW_nil] at hgw
      have HGN := Lib.hid hgw
      clear hgw
      obtain ⟨Ae, ce, rfl, hce, hcem, hAe, hle⟩ := HO.out.shape
      have hm6 : es.length ≤ 100000 := by omega
      have cc := Lib.hid (QtCheck_any Ae ce es hm6 wo hle)
      obtain ⟨r, hr⟩ : ∃ r, chk es = r := ⟨_, rfl⟩
      obtain ⟨m, hm⟩ : ∃ m, es.length = m := ⟨_, rfl⟩
      rw [hr] at HGN cc
      rw [hm] at cc HO ⊢
      clear ho hr hm hce hcem hAe hle hm6 hnil
      by_cases hr0 : r = 0
      · subst hr0
        go_wp2_with (go_at_call 23; refine cc.out.mono ?_; rintro e w1 ⟨rfl, bb⟩; have HF0 := Lib.hid ((Fr.refl (fun _ => False) wo).then_below bb); clear bb)
        go_ret2
        exact ⟨_, by rw [← HGN.out]; rfl, by rw [← HGN.out]; exact HO.out.fr HF0.out⟩
      · have hrz : (r == 0) = false := by simp [hr0]
        go_wp2_with (go_at_call 23; refine cc.out.mono ?_; rintro e w1 ⟨rfl, bb⟩; have HF0 := Lib.hid ((Fr.refl (fun _ => False) wo).then_below bb); clear bb)
        go_ret2
        exact ⟨.slice none 0 0, by rw [← HGN.out]; rfl, by rw [← HGN.out, if_neg hr0]; exact OwnE.nil (HFo.out.trans HF0.out (fun _ _ e => e))⟩
end Go.Proofs.YtddckehejdpjcabGreatDoor

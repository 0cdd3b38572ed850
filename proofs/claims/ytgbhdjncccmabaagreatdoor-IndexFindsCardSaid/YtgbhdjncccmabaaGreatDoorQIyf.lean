/- What is proved: texts that stand one behind the other: Iyf Iyg. Conditions: each theorem names its own. -/
import Derived.Test.YtgbhdjncccmabaaGreatDoorQIya
import Derived.Test.YtgbhdjncccmabaaGreatDoorIxj
import Derived.Deep.DeepCutAuto
import Derived.Deep.CutBlock
/- What is proved: lists of the document's places: their memory, pieces of them; the law's plain; a list put in order by the document. Conditions: the lists' cells are there, at most 1000 places. -/
namespace Go.Proofs.YtgbhdjncccmabaaGreatDoor
open Go.RowKit
set_option linter.unusedVariables false

theorem info_q : (Tryz.prog.info? 46).map (fun i => (i.zero, i.size, i.bytes)) = some (some (.agg zeroPl), 34, 48) := by kernel_rfl
theorem size_q : (Tryz.prog.info? 46).map (·.size) = some 34 := by kernel_rfl
def OwnQ (w0 w : World) (v : Value) (ps : List Pl) : Prop := w.ownsRow w0.heap.size 46 34 v ps.length (flatP ps) ∧ Fr (fun _ => False) w0 w
theorem OwnQ.fr {w0 w w' : World} {v : Value} {ps : List Pl} (h : OwnQ w0 w v ps) (f : Fr (fun _ => False) w w') : OwnQ w0 w' v ps := ⟨own_fr h.1 f (fun _ _ e => e), h.2.trans f (fun _ _ e => e)⟩
theorem OwnQ.nil {w0 w : World} (f : Fr (fun _ => False) w0 w) : OwnQ w0 w (.slice none 0 0) [] := ⟨World.ownsRow_nil w w0.heap.size 46 34, f⟩
theorem OwnQ.grow {w0 w w' : World} {v v' : Value} {ns ms ks : List Pl} (h : OwnQ w0 w v ns) (hk : ks = ns ++ ms) {m n : Nat} (hn : n = ns.length) (hm : m = ms.length) (o : w'.ownsRow w0.heap.size 46 34 v' (n + m) (flatP ns ++ flatP ms)) (g : w.grownBy w' v.ownBlock) : OwnQ w0 w' v' ks := by
  subst hk
  refine ⟨?_, fr_append h.1 h.2 g⟩
  rw [List.length_append, flatP_append, ← hn, ← hm]
  exact o
theorem OwnQ.shape {w0 w : World} {v : Value} {ps : List Pl} (h : OwnQ w0 w v ps) : ∃ A c, v = .slice A ps.length c ∧ ps.length ≤ c ∧ c ≤ maxLen ∧ (A = none ∨ ∃ b o, A = some ⟨b, o, none⟩) ∧ Lies w A (flatP ps) := by
  rcases h.1.2 with ⟨rfl, h0⟩ | ⟨g, cap, cur, rfl, hb, hg, hn, hc, hsz, htk⟩
  · have : ps = [] := List.eq_nil_of_length_eq_zero h0
    subst this
    exact ⟨none, 0, rfl, Nat.le_refl _, Nat.zero_le _, .inl rfl, .inl rfl⟩
  · refine ⟨_, cap, rfl, hn, hc, .inr ⟨g, 0, rfl⟩, .inr ⟨g, 0, rfl, fun j u hu => ?_⟩⟩
    have hw : Whole w g 46 cur := hg
    rw [Nat.zero_add, hw.cell]
    have hj : j < ps.length * 34 := by
      have := (List.getElem?_eq_some_iff.1 hu).1
      rwa [flatP_len] at this
    rw [← htk, List.getElem?_take, if_pos hj, Array.getElem?_toList] at hu
    exact hu
theorem Lies.srcQ {w : World} {A : Option Addr} {ps : List Pl} (h : Lies w A (flatP ps)) {n : Nat} (hn : ps.length = n) (c : Nat) : Src Tryz.prog 34 31 (.slice A n c) n (flatP ps) w := by
  rcases A with _ | ad
  · have h0 : flatP ps = [] := by
      rcases h with h | ⟨b, o, h, _⟩
      · exact h
      · cases h
    have : ps.length = 0 := by have := flatP_len ps; rw [h0] at this; simp at this; omega
    have hp : ps = [] := List.eq_nil_of_length_eq_zero this
    subst hp
    subst hn
    exact Src.ofNil w Tryz.underlying31 c
  · refine Src.ofSlice w Tryz.underlying31 ad n c (flatP ps) (by rw [flatP_len, hn]) (fun j u hu => ?_) (flatP_one ps)
    rcases h with h | ⟨b, o, h, hc⟩
    · rw [h] at hu; simp at hu
    · injection h with h
      subst h
      rw [add_off]
      exact hc j u hu
def tlP (A : Option Addr) (c m : Nat) : Option Addr := if c = m then A else A.map (·.add (m * 34))
theorem Lies.tlP {w : World} {A : Option Addr} {es : List Pl} (h : Lies w A (flatP es)) (c m : Nat) (hc : es.length ≤ c) : Lies w (tlP A c m) (flatP (es.drop m)) := by
  unfold Proofs.YtgbhdjncccmabaaGreatDoor.tlP
  split
  · rename_i e
    have hd : es.drop m = [] := List.drop_of_length_le (by omega)
    rw [hd]
    exact .inl rfl
  · rcases h with h | ⟨b, o, rfl, hcl⟩
    · have : es = [] := by
        have := flatP_len es
        rw [h] at this
        simp at this
        exact List.eq_nil_of_length_eq_zero (by omega)
      subst this
      exact .inl (by simp [flatP])
    · refine .inr ⟨b, o + m * 34, by simp [add_off], fun j u hu => ?_⟩
      rw [flatP_drop, List.getElem?_drop] at hu
      rw [Nat.add_assoc]
      exact hcl _ _ hu
theorem slice_hdP (A : Option Addr) (hA : A = none ∨ ∃ b o, A = some ⟨b, o, none⟩) (n c m : Nat) (h : m ≤ c) (w : World) : (Instr.slice 31 (.slice A n c) none (some (.int .i64 m)) none).run Tryz.prog w = .ok (.slice A m c) w := by
  have hs : (sizeOf (Tryz.prog.elem 31)).run Tryz.prog w = .ok 34 w := by kernel_rfl
  have ht : Tryz.prog.underlying 31 = some (.slice (Tryz.prog.elem 31)) := by kernel_rfl
  have e := run_slice_h (P := Tryz.prog) w 31 A n c ht .i64 (m : Int) (by omega) (by omega)
  rw [e, hs]
  rcases hA with rfl | ⟨b, o, rfl⟩
  · simp [sliced]
  · simp [sliced, add_off]
theorem slice_tlP (A : Option Addr) (n c m : Nat) (h : m ≤ n) (w : World) : (Instr.slice 31 (.slice A n c) (some (.int .i64 m)) none none).run Tryz.prog w = .ok (.slice (tlP A c m) (n - m) (c - m)) w := by
  have hs : (sizeOf (Tryz.prog.elem 31)).run Tryz.prog w = .ok 34 w := by kernel_rfl
  have ht : Tryz.prog.underlying 31 = some (.slice (Tryz.prog.elem 31)) := by kernel_rfl
  have e := run_slice_l (P := Tryz.prog) w 31 A n c ht .i64 (m : Int) (by omega) (by omega)
  rw [e, hs]
  simp [sliced, tlP]
theorem build_q (p : Pl) (w : World) : (Instr.buildSlice 31 1 #[(0, .agg p.cells)]).run Tryz.prog w = .ok (.slice (some ⟨w.heap.size, 0, none⟩) 1 1) (w.alloc (.cells p.cells 46)) := by kernel_rfl
theorem wpList_buildSlice_toQ {P : Program} {ops : Array Oper} {rest : List Oper} {o : Oper} {a : Act} {w : World} {Q : Exit → Act → World → Prop} (hgd : o.guard = none) (t : TypeId) (n : Nat) (parts : Array (Nat × Operand)) (ho : o.op = .buildSlice t n parts)
    (vals : Array (Nat × Value)) (hvals : (parts.map fun (i, x) => (i, a.eval x)) = vals) (v : Value) (w' : World) (hv : (Instr.buildSlice t n vals).run P w = .ok v w') (h : wpList P ops Q rest (a.put o.dst v) w') : wpList P ops Q (o :: rest) a w :=
  wpList_plain hgd fun K hK => by
    unfold Oper.wp execOp
    simp only [ho, hvals, Sem.run_bind, hv, Result.andThen_ok, Sem.run_pure]
    exact hK _ _ h
theorem step_buildSliceQ {P : Program} {ops : Array Oper} {o : Oper} {a : Act} {w : World} {K : Act → World → Prop} {Q : Exit → Act → World → Prop} {E : Prop} (hgd : o.guard = none) (t : TypeId) (n : Nat) (parts : Array (Nat × Operand)) (ho : o.op = .buildSlice t n parts)
    (vals : Array (Nat × Value)) (hvals : (parts.map fun (i, x) => (i, a.eval x)) = vals) (v : Value) (w' : World) (hv : (Instr.buildSlice t n vals).run P w = .ok v w') (h : K (a.put o.dst v) w') :
    if Region.wanted o (yielded ops a.tmps) = true then Oper.wp P o a w K Q else E := by
  have hw : Region.wanted o (yielded ops a.tmps) = true := by simp [Region.wanted, hgd]
  rw [if_pos hw]
  unfold Oper.wp execOp
  simp only [ho, hvals, Sem.run_bind, hv, Result.andThen_ok, Sem.run_pure]
  exact h
theorem src_q (w : World) (p : Pl) (pc : Array Value) (h : p.cells = pc) : Src Tryz.prog 34 31 (.slice (some ⟨w.heap.size, 0, none⟩) 1 1) 1 (flatP [p]) (w.alloc (.cells pc 46)) := by
  subst h
  refine Lies.srcQ (ps := [p]) ?_ rfl 1
  have := (Whole.new w 46 p.cells).lies
  rw [flatP_single]
  exact this
theorem build_qc0 (id : List Value) (a : Int) (s : Int) (hi : id.length = 32) (w : World) : (Instr.build 46 #[(0, .agg id.toArray), (1, .int .i64 a), (2, .int .u32 s)]).run Tryz.prog w = .ok (.agg (id ++ [Value.int .i64 a, Value.int .u32 s]).toArray) w := by
  rcases id with _ | ⟨i0, _ | ⟨i1, _ | ⟨i2, _ | ⟨i3, _ | ⟨i4, _ | ⟨i5, _ | ⟨i6, _ | ⟨i7, _ | ⟨i8, _ | ⟨i9, _ | ⟨i10, _ | ⟨i11, _ | ⟨i12, _ | ⟨i13, _ | ⟨i14, _ | ⟨i15, _ | ⟨i16, _ | ⟨i17, _ | ⟨i18, _ | ⟨i19, _ | ⟨i20, _ | ⟨i21, _ | ⟨i22, _ | ⟨i23, _ | ⟨i24, _ | ⟨i25, _ | ⟨i26, _ | ⟨i27, _ | ⟨i28, _ | ⟨i29, _ | ⟨i30, _ | ⟨i31, _ | ⟨i32, id⟩⟩⟩⟩⟩⟩⟩⟩⟩⟩⟩⟩⟩⟩⟩⟩⟩⟩⟩⟩⟩⟩⟩⟩⟩⟩⟩⟩⟩⟩⟩⟩⟩
  all_goals first | (simp only [List.length_cons, List.length_nil] at hi; omega) | kernel_rfl
theorem build_qc (p : Pl) (w : World) : (Instr.build 46 #[(0, .agg (idC (dgt p.id))), (1, .int .i64 p.pos), (2, .int .u32 p.sm)]).run Tryz.prog w = .ok (.agg p.cells) w := by
  have := build_qc0 (idC (dgt p.id)).toList p.pos p.sm (by rw [Array.length_toList, idC_size]) w
  rw [Array.toArray_toList] at this
  rw [this, show Pl.cells p = ((idC (dgt p.id)).toList ++ [Value.int .i64 p.pos, Value.int .u32 p.sm]).toArray from Array.toList_inj.1 (by simp [Pl.cells])]
theorem yieldsIf_buildQ {P : Program} {ops : Array Oper} {S : World → Prop} {op : Oper} {a : Act} (hw : Region.wanted op (yielded ops a.tmps) = true) (t : TypeId) (parts : Array (Nat × Operand)) (ho : op.op = .build t parts)
    (vals : Array (Nat × Value)) (hvals : (parts.map fun (i, x) => (i, a.eval x)) = vals) (v : Value) (hv : ∀ w, (Instr.build t vals).run P w = .ok v w) : YieldsIf P ops S op v a :=
  .inl ⟨hw, fun w _ => by
    unfold execOp
    simp [ho, hvals, hv]⟩
theorem take_pl (ps : List Pl) (k : Nat) (h : k < ps.length) : ps.take (k + 1) = ps.take k ++ [ps[k]!] := by
  rw [List.take_add_one, some_pl h]; rfl

set_option maxHeartbeats 6400000 in
set_option maxRecDepth 100000 in
theorem Iplain_any (A : Option Addr) (cap : Nat) (ps : List Pl) (hn : ps.length ≤ 1000) (w : World) (h : Lies w A (flatP ps)) :
    Calls Tryz.prog 6 #[.slice A ps.length cap] w fun e w' => ∃ v, e = .returned v ∧ OwnQ w w' v ps := by
  obtain ⟨i0, hi, hz0, hz1, hz2⟩ := info_parts info_q
  have HL := Lib.hid h
  obtain ⟨L, hL⟩ : ∃ L, ps.length = L := ⟨_, rfl⟩
  have HLn := Lib.hid hL
  obtain ⟨T32, hT32⟩ : ∃ T : TypeId, T = 24 := ⟨_, rfl⟩
  obtain ⟨n32, hn32⟩ : ∃ n : Nat, n = 32 := ⟨_, rfl⟩
  have ag32 : ∀ w, (isAgg T32).run Tryz.prog w = .ok true w := by rw [hT32]; exact fun _ => by kernel_rfl
  have sz32 : ∀ w, (sizeOf T32).run Tryz.prog w = .ok n32 w := by rw [hT32, hn32]; exact fun _ => by kernel_rfl
  have HN32 := Lib.hid hn32
  rw [hL] at hn ⊢
  clear h hL hn32
  go_enter Tryz.func6, Tryz.ntmps6
  rw [show Op.load 24 (.tmp 15) = Op.load T32 (.tmp 15) by rw [hT32]]
  clear hT32
  go_wp2_with fail
  go_loopg [3, 4] L (fun kx s3 s4 wr => ∃ (k : Nat) (v : Value), v = s3 ∧ k ≤ L ∧ s4 = .int .i64 k ∧ L - k ≤ kx ∧ Hid (OwnQ w wr v (ps.take k)))
  case atStart => exact ⟨0, _, rfl, by omega, rfl, by omega, Lib.hid (OwnQ.nil (Fr.refl _ w))⟩
  case round =>
    obtain ⟨k, v, rfl, hk, rfl, hkx, ho⟩ := hrel
    obtain ⟨wo, rfl⟩ : ∃ wo, wo = wr := ⟨wr, rfl⟩
    have wk := wrap_nat k (by omega)
    by_cases hlt : k < L
    · have hltz : (k : Int) < L := by omega
      have hk0 : (0 : Int) ≤ k := by omega
      obtain ⟨b, o, hA⟩ := HL.out.someP (by rw [HLn.out]; omega)
      subst hA
      have HTK := Lib.hid (take_pl ps k (by rw [HLn.out]; exact hlt))
      have hg := some_pl (ps := ps) (i := k) (by rw [HLn.out]; exact hlt)
      obtain ⟨p, hp⟩ : ∃ p, ps[k]! = p := ⟨_, rfl⟩
      rw [hp] at HTK hg
      have HG := Lib.hid hg
      have HTL : Hid (k = (ps.take k).length) := Lib.hid (by rw [List.length_take, HLn.out]; omega)
      have HFo := Lib.hid ho.out.2
      have HOb := Lib.hid (fun j (e : v.ownBlock = some j) => (World.ownsRow.lt ho.out.1 j e))
      have HFr := Lib.hid (fun wq (hq : Fr (fun j => v.ownBlock = some j) wo wq) => HFo.out.trans hq (fun i hi e => by have := (HOb.out i e).1; omega))
      have L1 : Hid (∀ wq, Fr (fun j => v.ownBlock = some j) wo wq → (loadCellsFrom ⟨b, o + k * 34, none⟩ 0 n32 #[]).run Tryz.prog wq = .ok (idC (dgt p.id)) wq) := Lib.hid (fun wq hq => load_plid HL.out HG.out (HFr.out wq hq) n32 HN32.out)
      have C1 : Hid (∀ wq, Fr (fun j => v.ownBlock = some j) wo wq → wq.cell? ⟨b, o + k * 34 + 32, none⟩ = some (.int .i64 p.pos)) := Lib.hid (fun wq hq => pos_pl HL.out HG.out (HFr.out wq hq))
      have C2 : Hid (∀ wq, Fr (fun j => v.ownBlock = some j) wo wq → wq.cell? ⟨b, o + k * 34 + 33, none⟩ = some (.int .u32 p.sm)) := Lib.hid (fun wq hq => sm_pl HL.out HG.out (HFr.out wq hq))
      have hb := fun w => build_qc p w
      have HBs := Lib.hid (fun w => build_q p w)
      obtain ⟨ci, hci⟩ : ∃ c, idC (dgt p.id) = c := ⟨_, rfl⟩
      obtain ⟨pc, hpc⟩ : ∃ c, p.cells = c := ⟨_, rfl⟩
      obtain ⟨P, hP⟩ : ∃ c, p.pos = c := ⟨_, rfl⟩
      obtain ⟨S, hS⟩ : ∃ c, p.sm = c := ⟨_, rfl⟩
      rw [hci] at L1 hb
      rw [hpc] at hb HBs
      rw [hP] at C1 hb
      rw [hS] at C2 hb
      have HPC := Lib.hid hpc
      clear hg hp hci hpc hP hS
      go_upto_region 5 with fail
      have HSq := Lib.hid (show Fr (fun j => v.ownBlock = some j) wo wo.drew from ((Fr.refl (fun _ => False) wo).drew).mono (fun _ _ e => e.elim))
      refine wp_region_held (S := fun w' => Fr (fun j => v.ownBlock = some j) wo w') (by kernel_rfl) ?_
      change wpAnyH _ _ _ _ _ _ _ _ (World.drew wo)
      have HFc := Lib.hid (show Fr (fun _ => False) wo wo.drew from (Fr.refl _ wo).drew)
      obtain ⟨wc, hwc⟩ : ∃ wc, wo.drew = wc := ⟨_, rfl⟩
      rw [hwc] at HSq HFc ⊢
      clear hwc
      (
        refine wpAnyH_takeX (i := 0) (v := v) 11 rfl rfl (by kernel_rfl) (by kernel_rfl) (by kernel_rfl) (fun _ _ _ h => h) (.inl ⟨by rfl, ?_⟩) HSq.out ?_
        · intro wq hq
          have l1 := L1.out wq hq
          have c1 := C1.out wq hq
          have c2 := C2.out wq hq
          go_simp)
      (
        refine wpAnyH_takeX (i := 1) (v := .slice (some ⟨b, o, none⟩) L cap) 12 rfl rfl (by kernel_rfl) (by kernel_rfl) (by kernel_rfl) (fun _ _ _ h => h) (.inl ⟨by rfl, ?_⟩) HSq.out ?_
        · intro wq hq
          have l1 := L1.out wq hq
          have c1 := C1.out wq hq
          have c2 := C2.out wq hq
          go_simp)
      (
        refine wpAnyH_takeX (i := 2) (v := .int .i64 k) 13 rfl rfl (by kernel_rfl) (by kernel_rfl) (by kernel_rfl) (fun _ _ _ h => h) (.inl ⟨by rfl, ?_⟩) HSq.out ?_
        · intro wq hq
          have l1 := L1.out wq hq
          have c1 := C1.out wq hq
          have c2 := C2.out wq hq
          go_simp)
      (
        refine wpAnyH_takeX (i := 3) (v := .pointer (some ⟨b, o + k * 34, none⟩)) 14 rfl rfl (by kernel_rfl) (by kernel_rfl) (by kernel_rfl) (fun _ _ _ h => h) (.inl ⟨by rfl, ?_⟩) HSq.out ?_
        · intro wq hq
          have l1 := L1.out wq hq
          have c1 := C1.out wq hq
          have c2 := C2.out wq hq
          go_simp)
      (
        refine wpAnyH_takeX (i := 4) (v := .pointer (some ⟨b, o + k * 34, none⟩)) 15 rfl rfl (by kernel_rfl) (by kernel_rfl) (by kernel_rfl) (fun _ _ _ h => h) (.inl ⟨by rfl, ?_⟩) HSq.out ?_
        · intro wq hq
          have l1 := L1.out wq hq
          have c1 := C1.out wq hq
          have c2 := C2.out wq hq
          go_simp)
      (
        refine wpAnyH_takeX (i := 5) (v := .agg ci) 16 rfl rfl (by kernel_rfl) (by kernel_rfl) (by kernel_rfl) (fun _ _ _ h => h) (.inl ⟨by rfl, ?_⟩) HSq.out ?_
        · intro wq hq
          have l1 := L1.out wq hq
          have c1 := C1.out wq hq
          have c2 := C2.out wq hq
          go_simp)
      (
        refine wpAnyH_takeX (i := 6) (v := .slice (some ⟨b, o, none⟩) L cap) 17 rfl rfl (by kernel_rfl) (by kernel_rfl) (by kernel_rfl) (fun _ _ _ h => h) (.inl ⟨by rfl, ?_⟩) HSq.out ?_
        · intro wq hq
          have l1 := L1.out wq hq
          have c1 := C1.out wq hq
          have c2 := C2.out wq hq
          go_simp)
      (
        refine wpAnyH_takeX (i := 7) (v := .int .i64 k) 18 rfl rfl (by kernel_rfl) (by kernel_rfl) (by kernel_rfl) (fun _ _ _ h => h) (.inl ⟨by rfl, ?_⟩) HSq.out ?_
        · intro wq hq
          have l1 := L1.out wq hq
          have c1 := C1.out wq hq
          have c2 := C2.out wq hq
          go_simp)
      (
        refine wpAnyH_takeX (i := 8) (v := .pointer (some ⟨b, o + k * 34, none⟩)) 19 rfl rfl (by kernel_rfl) (by kernel_rfl) (by kernel_rfl) (fun _ _ _ h => h) (.inl ⟨by rfl, ?_⟩) HSq.out ?_
        · intro wq hq
          have l1 := L1.out wq hq
          have c1 := C1.out wq hq
          have c2 := C2.out wq hq
          go_simp)
      (
        refine wpAnyH_takeX (i := 9) (v := .pointer (some ⟨b, o + k * 34 + 32, none⟩)) 20 rfl rfl (by kernel_rfl) (by kernel_rfl) (by kernel_rfl) (fun _ _ _ h => h) (.inl ⟨by rfl, ?_⟩) HSq.out ?_
        · intro wq hq
          have l1 := L1.out wq hq
          have c1 := C1.out wq hq
          have c2 := C2.out wq hq
          go_simp)
      (
        refine wpAnyH_takeX (i := 10) (v := .int .i64 P) 21 rfl rfl (by kernel_rfl) (by kernel_rfl) (by kernel_rfl) (fun _ _ _ h => h) (.inl ⟨by rfl, ?_⟩) HSq.out ?_
        · intro wq hq
          have l1 := L1.out wq hq
          have c1 := C1.out wq hq
          have c2 := C2.out wq hq
          go_simp)
      (
        refine wpAnyH_takeX (i := 11) (v := .slice (some ⟨b, o, none⟩) L cap) 22 rfl rfl (by kernel_rfl) (by kernel_rfl) (by kernel_rfl) (fun _ _ _ h => h) (.inl ⟨by rfl, ?_⟩) HSq.out ?_
        · intro wq hq
          have l1 := L1.out wq hq
          have c1 := C1.out wq hq
          have c2 := C2.out wq hq
          go_simp)
      (
        refine wpAnyH_takeX (i := 12) (v := .int .i64 k) 23 rfl rfl (by kernel_rfl) (by kernel_rfl) (by kernel_rfl) (fun _ _ _ h => h) (.inl ⟨by rfl, ?_⟩) HSq.out ?_
        · intro wq hq
          have l1 := L1.out wq hq
          have c1 := C1.out wq hq
          have c2 := C2.out wq hq
          go_simp)
      (
        refine wpAnyH_takeX (i := 13) (v := .pointer (some ⟨b, o + k * 34, none⟩)) 24 rfl rfl (by kernel_rfl) (by kernel_rfl) (by kernel_rfl) (fun _ _ _ h => h) (.inl ⟨by rfl, ?_⟩) HSq.out ?_
        · intro wq hq
          have l1 := L1.out wq hq
          have c1 := C1.out wq hq
          have c2 := C2.out wq hq
          go_simp)
      (
        refine wpAnyH_takeX (i := 14) (v := .pointer (some ⟨b, o + k * 34 + 33, none⟩)) 25 rfl rfl (by kernel_rfl) (by kernel_rfl) (by kernel_rfl) (fun _ _ _ h => h) (.inl ⟨by rfl, ?_⟩) HSq.out ?_
        · intro wq hq
          have l1 := L1.out wq hq
          have c1 := C1.out wq hq
          have c2 := C2.out wq hq
          go_simp)
      (
        refine wpAnyH_takeX (i := 15) (v := .int .u32 S) 26 rfl rfl (by kernel_rfl) (by kernel_rfl) (by kernel_rfl) (fun _ _ _ h => h) (.inl ⟨by rfl, ?_⟩) HSq.out ?_
        · intro wq hq
          have l1 := L1.out wq hq
          have c1 := C1.out wq hq
          have c2 := C2.out wq hq
          go_simp)
      refine wpAnyH_takeX (i := 16) (v := .agg pc) 27 rfl rfl (by kernel_rfl) (by kernel_rfl) (by kernel_rfl) (fun _ _ _ h => h) (yieldsIf_buildQ (by kernel_rfl) 46 _ rfl #[(0, .agg ci), (1, .int .i64 P), (2, .int .u32 S)] (by kernel_rfl) _ hb) HSq.out ?_
      (
        try simp only [List.setIfInBounds_toArray, List.set_cons_succ, List.set_cons_zero]
        refine wpAnyH_all (rs := [17]) (by kernel_rfl) (by simp) ?_
        intro i hi
        simp only [List.mem_cons, List.not_mem_nil, or_false] at hi
        subst hi)
      refine wpOp_step rfl (fun K hK => ?_)
      refine step_buildSliceQ (by rfl) 31 1 _ (by rfl) #[(0, .agg pc)] (by first | rfl | simp [Act.eval]) _ _ (HBs.out wc) ?_
      obtain ⟨wd, hwd⟩ : ∃ wd, wc.alloc (.cells pc 46) = wd := ⟨_, rfl⟩
      have HSr := Lib.hid (src_q wc p pc HPC.out)
      have HFd := Lib.hid (show Fr (fun _ => False) wo wd from by rw [← hwd]; exact HFc.out.alloc _)
      rw [hwd] at HSr ⊢
      have HSd := Lib.hid (show Fr (fun j => v.ownBlock = some j) wo wd from HFd.out.mono (fun _ _ e => e.elim))
      refine hK _ _ ⟨HSd.out, ?_⟩
      clear hK K hwd
      try simp only [Act.put]
      (
        try simp only [List.setIfInBounds_toArray]
        refine wpAnyH_all (rs := [18]) (by kernel_rfl) (by simp) ?_
        intro i hi
        simp only [List.mem_cons, List.not_mem_nil, or_false] at hi
        subst hi)
      refine wpOp_step rfl (fun K hK => ?_)
      refine step_append_row _ (by rfl) (.tmp 11) (.tmp 28) 31 31 (by rfl) w.heap.size 46 i0 (.agg zeroPl) 34 48 Tryz.underlying31 hi hz0 hz1 hz2 (by rfl) v k (flatP (ps.take k)) (by rfl) (by have := (ho.out.fr HFd.out).1; rw [← HTL.out] at this; exact this) _ 1 (flatP [p]) (by rfl) HSr.out (by unfold maxLen; omega) (by omega) (by have h1 := HFo.out.size; have h3 := HFd.out.size; omega) ?_
      intro v' w5 o1 g1 at1
      have HO5 := Lib.hid ((ho.out.fr HFd.out).grow (ks := ps.take k ++ [p]) rfl HTL.out rfl o1 g1)
      have HS5 := Lib.hid (show Fr (fun j => v.ownBlock = some j) wo w5 from HSd.out.grown g1 (fun j e _ => e))
      clear o1 g1 at1
      refine hK _ _ ⟨HS5.out, ?_⟩
      clear hK K
      (
        try simp only [List.setIfInBounds_toArray, List.set_cons_succ, List.set_cons_zero]
        refine wpAnyH_all (rs := [19]) (by kernel_rfl) (by simp) ?_
        intro i hi
        simp only [List.mem_cons, List.not_mem_nil, or_false] at hi
        subst hi)
      refine wpOp_step rfl (fun K hK => ?_)
      go_simp
      refine hK _ _ ⟨HS5.out, ?_⟩
      clear hK K
      refine wpAnyH_done (by kernel_rfl) ?_ _
      go_wp2_with fail
      go_roundg (L - (k + 1))
      case measure => omega
      case rel => exact ⟨k + 1, _, rfl, by omega, by go_num, Nat.le_refl _, Lib.hid (by rw [HTK.out]; exact HO5.out)⟩
    · have hltz : ¬ ((k : Int) < L) := by omega
      obtain rfl : k = L := by omega
      have hall : ps.take k = ps := List.take_of_length_le (by rw [HLn.out]; exact Nat.le_refl _)
      have HO := Lib.hid ho.out
      rw [hall] at HO
      clear ho hall
      go_wp2_with fail
      go_ret
      exact ⟨_, rfl, HO.out⟩
end Go.Proofs.YtgbhdjncccmabaaGreatDoor
/- What is proved: places put in order by the document, one after another into its place. Conditions: the list's cells are there, at most 1000 places, whose ids are ids. -/
namespace Go.Proofs.YtgbhdjncccmabaaGreatDoor
open Go.RowKit
set_option linter.unusedVariables false

def posP (x : Nat) (out : List Pl) : Nat := (out.takeWhile (fun q => decide (q.id ≤ x))).length
theorem posP_le (x : Nat) (out : List Pl) : posP x out ≤ out.length := by
  unfold posP
  have h : out.takeWhile (fun q => decide (q.id ≤ x)) ++ out.dropWhile (fun q => decide (q.id ≤ x)) = out := List.takeWhile_append_dropWhile
  have := congrArg List.length h
  rw [List.length_append] at this
  omega
theorem insP_pos (out : List Pl) (p : Pl) : insP out p = out.take (posP p.id out) ++ [p] ++ out.drop (posP p.id out) := by
  have h : out.takeWhile (fun q => decide (q.id ≤ p.id)) ++ out.dropWhile (fun q => decide (q.id ≤ p.id)) = out := List.takeWhile_append_dropWhile
  unfold posP insP
  obtain ⟨T, hT⟩ : ∃ T, out.takeWhile (fun q => decide (q.id ≤ p.id)) = T := ⟨_, rfl⟩
  obtain ⟨D, hD⟩ : ∃ D, out.dropWhile (fun q => decide (q.id ≤ p.id)) = D := ⟨_, rfl⟩
  rw [hT, hD] at h ⊢
  clear hT hD
  subst h
  rw [List.take_left, List.drop_left]
  simp
theorem posP_at (x : Nat) (out : List Pl) (h : out.Pairwise leP) (a : Nat) (ha : a < out.length) : x < (out[a]!).id ↔ posP x out ≤ a := by
  unfold posP
  induction out generalizing a with
  | nil => simp at ha
  | cons q out ih =>
    rw [List.pairwise_cons] at h
    by_cases hq : q.id ≤ x
    · rw [List.takeWhile_cons_of_pos (by simpa using hq), List.length_cons]
      cases a with
      | zero => simp; omega
      | succ a =>
        have := ih h.2 a (by simpa using ha)
        simp only [List.getElem!_cons_succ]
        omega
    · rw [List.takeWhile_cons_of_neg (by simpa using hq), List.length_nil]
      have hx : q.id ≤ ((q :: out)[a]!).id := by
        rw [getElem!_pos _ a ha]
        rcases List.mem_cons.1 (List.getElem_mem ha) with e | e
        · rw [e]; exact Nat.le_refl _
        · exact h.1 _ e
      omega
theorem firstQ (w W w4 : World) (v1 : Value) (a : Nat) (xs : List Value) (f : Fr (fun _ => False) w W) (o1 : w4.ownsRow w.heap.size 46 34 v1 (0 + a) ([] ++ xs)) (g1 : W.grownBy w4 (Value.slice none 0 0).ownBlock) (at1 : v1.ownBlock = (Value.slice none 0 0).ownBlock ∨ v1.ownBlock = some W.heap.size) :
    (w4.ownsRow w.heap.size 46 34 v1 a xs ∧ Fr (fun _ => False) w w4) ∧ Fr (fun _ => False) W w4 ∧ (∀ j, v1.ownBlock = some j → W.heap.size ≤ j) := by
  refine ⟨⟨by simpa using o1, fr_append (World.ownsRow_nil W w.heap.size 46 34) f g1⟩, (Fr.refl (fun _ => False) W).grown g1 (fun j hj => by simp [Value.ownBlock] at hj), fun j hj => ?_⟩
  rcases at1 with e | e
  · rw [hj] at e; simp [Value.ownBlock] at e
  · rw [hj] at e; injection e with e; omega
theorem secondQ (w W w4 w5 : World) (v1 v2 : Value) (x : Pl) (a : Nat) (l : List Pl) (A : Option Addr) (c : Nat) (r : List Pl)
    (n1 : (w4.ownsRow w.heap.size 46 34 v1 a (flatP l) ∧ Fr (fun _ => False) w w4) ∧ Fr (fun _ => False) W w4 ∧ (∀ j, v1.ownBlock = some j → W.heap.size ≤ j)) (hl : Lies W (tlP A c a) (flatP r))
    (o2 : w5.ownsRow w.heap.size 46 34 v2 (a + 1) (flatP l ++ flatP [x])) (cx : Array Value) (g2 : (w4.alloc (.cells cx 46)).grownBy w5 v1.ownBlock) :
    (w5.ownsRow w.heap.size 46 34 v2 (a + 1) (flatP (l ++ [x])) ∧ Fr (fun _ => False) w w5) ∧ Lies w5 (tlP A c a) (flatP r) := by
  refine ⟨⟨by rw [flatP_append]; exact o2, fr_append (n1.1.1.alloc _) (n1.1.2.alloc _) g2⟩, hl.fr ((n1.2.1.alloc _).grown g2 (fun j hj hlt => ?_)) (fun _ _ e => e)⟩
  have := n1.2.2 j hj
  omega

set_option maxHeartbeats 6400000 in
set_option maxRecDepth 100000 in
theorem QIsorted_any (A : Option Addr) (cap : Nat) (ps : List Pl) (hn : ps.length ≤ 1000) (hid : ∀ p ∈ ps, p.id < big) (w : World) (h : Lies w A (flatP ps)) :
    Calls Tryz.prog 18 #[.slice A ps.length cap] w fun e w' => ∃ v, e = .returned v ∧ OwnQ w w' v (srtP ps) := by
  obtain ⟨i0, hi, hz0, hz1, hz2⟩ := info_parts info_q
  have HL := Lib.hid h
  have HID := Lib.hid hid
  obtain ⟨L, hL⟩ : ∃ L, ps.length = L := ⟨_, rfl⟩
  have HLn := Lib.hid hL
  obtain ⟨T32, hT32⟩ : ∃ T : TypeId, T = 24 := ⟨_, rfl⟩
  obtain ⟨n32, hn32⟩ : ∃ n : Nat, n = 32 := ⟨_, rfl⟩
  have ag32 : ∀ w, (isAgg T32).run Tryz.prog w = .ok true w := by rw [hT32]; exact fun _ => by kernel_rfl
  have sz32 : ∀ w, (sizeOf T32).run Tryz.prog w = .ok n32 w := by rw [hT32, hn32]; exact fun _ => by kernel_rfl
  have HN32 := Lib.hid hn32
  obtain ⟨T34, hT34⟩ : ∃ T : TypeId, T = 46 := ⟨_, rfl⟩
  obtain ⟨n34, hn34⟩ : ∃ n : Nat, n = 34 := ⟨_, rfl⟩
  have ag34 : ∀ w, (isAgg T34).run Tryz.prog w = .ok true w := by rw [hT34]; exact fun _ => by kernel_rfl
  have sz34 : ∀ w, (sizeOf T34).run Tryz.prog w = .ok n34 w := by rw [hT34, hn34]; exact fun _ => by kernel_rfl
  have HN34 := Lib.hid hn34
  rw [hL] at hn ⊢
  clear h hL hn32 hn34 hid
  go_enter Tryz.func18, Tryz.ntmps18
  rw [show Op.load 24 (.tmp 21) = Op.load T32 (.tmp 21) by rw [hT32], show Op.load 24 (.tmp 27) = Op.load T32 (.tmp 27) by rw [hT32], show Op.load 46 (.tmp 41) = Op.load T34 (.tmp 41) by rw [hT34]]
  clear hT32 hT34
  go_wp2_with fail
  go_loopg [3, 4] L (fun kx s3 s4 wr => ∃ (k : Nat) (v : Value), v = s3 ∧ k ≤ L ∧ s4 = .int .i64 k ∧ L - k ≤ kx ∧ Hid (OwnQ w wr v (srtP (ps.take k))))
  case atStart => exact ⟨0, _, rfl, by omega, rfl, by omega, Lib.hid (OwnQ.nil (Fr.refl _ w))⟩
  case round =>
    obtain ⟨k, v, rfl, hk, rfl, hkx, ho0⟩ := hrel
    obtain ⟨wo, rfl⟩ : ∃ wo, wo = wr := ⟨wr, rfl⟩
    have wk := wrap_nat k (by omega)
    by_cases hlt : k < L
    · have hk0 : (k : Int) < L := by omega
      have ho := ho0.out
      obtain ⟨out, hout⟩ : ∃ out, srtP (ps.take k) = out := ⟨_, rfl⟩
      have hsrt := srtP_sorted (ps.take k)
      have hmem : ∀ q ∈ out, q.id < big := fun q hq => HID.out q (List.mem_of_mem_take ((srtP_perm (ps.take k)).mem_iff.1 (by rw [hout]; exact hq)))
      have hnext : srtP (ps.take (k + 1)) = insP out ps[k]! := by rw [take_pl ps k (by rw [HLn.out]; exact hlt), srtP_snoc, hout]
      have hol : out.length = k := by rw [← hout, srtP_len, List.length_take, HLn.out]; omega
      rw [hout] at ho hsrt
      obtain ⟨Ao, co, rfl, hoc, hom, hoA, holies⟩ := ho.shape
      obtain ⟨b, o, hA⟩ := HL.out.someP (by rw [HLn.out]; omega)
      subst hA
      have hgk := some_pl (ps := ps) (i := k) (by rw [HLn.out]; exact hlt)
      have hxm : ps[k]! ∈ ps := List.mem_of_getElem? hgk
      have hxb := HID.out _ hxm
      obtain ⟨x, hx⟩ : ∃ x, ps[k]! = x := ⟨_, rfl⟩
      rw [hx] at hnext hgk hxb
      have HGK := Lib.hid hgk
      have HXB := Lib.hid hxb
      have HMB := Lib.hid hmem
      have HMl := Lib.hid hol
      have HO := Lib.hid ho
      have HOL := Lib.hid holies
      rw [hol] at hoc ⊢
      obtain ⟨p, hp⟩ : ∃ p, posP x.id out = p := ⟨_, rfl⟩
      have hpk : p ≤ k := by rw [← hp, ← hol]; exact posP_le _ _
      have HIN : Hid (srtP (ps.take (k + 1)) = out.take p ++ [x] ++ out.drop p) := Lib.hid (by rw [hnext, insP_pos, hp])
      have HP := Lib.hid (fun a (ha : a < k) => (by have := posP_at x.id out hsrt a (by rw [hol]; exact ha); rw [hp] at this; exact this : x.id < (out[a]!).id ↔ p ≤ a))
      have HS1 := Lib.hid (fun w => slice_hdP Ao hoA k co p (by omega) w)
      have HS2 := Lib.hid (fun w => slice_tlP Ao k co p hpk w)
      have HPC := Lib.hid (show ∃ c, x.cells = c from ⟨_, rfl⟩)
      clear hnext hx ho ho0 holies hol hoA hp hsrt hout hmem hgk hxm hxb
      go_upto_block 2 with fail
      go_cut [5] (fun s5 wc => s5 = .int .i64 p ∧ Fr (fun _ => False) wo wc)
      case first =>
        go_wp2_with fail
        go_loopg [5] k (fun kx s5 wr => ∃ a : Nat, a ≤ k ∧ s5 = .int .i64 a ∧ a ≤ kx ∧ p ≤ a ∧ Hid (Fr (fun _ => False) wo wr))
        case atStart => exact ⟨k, Nat.le_refl _, rfl, Nat.le_refl _, hpk, Lib.hid (Fr.refl _ _)⟩
        case round =>
          obtain ⟨a, ha, rfl, hax, hpa, HFr⟩ := hrel
          have HFa := Lib.hid (HO.out.2.trans HFr.out (fun _ _ e => e))
          by_cases ha0 : a = 0
          · subst ha0
            have hp0 : p = 0 := by omega
            subst hp0
            go_wp2_with fail
            go_region
            go_wp2_with fail
            go_meet
            case rel => exact ⟨rfl, HFr.out.drew⟩
          · obtain ⟨a, rfl⟩ : ∃ a', a = a' + 1 := ⟨a - 1, by omega⟩
            obtain ⟨bo, oo, hAo⟩ := HOL.out.someP (by rw [HMl.out]; omega)
            subst hAo
            have hga := some_pl (ps := out) (i := a) (by rw [HMl.out]; omega)
            have hab := HMB.out _ (List.mem_of_getElem? hga)
            have l1 : ∀ q : Later wr, (loadCellsFrom ⟨b, o + k * 34, none⟩ 0 n32 #[]).run Tryz.prog q.w' = .ok (idC (dgt x.id)) q.w' := fun q => load_plid HL.out HGK.out (HFa.out.trans q.fr (fun _ _ e => e)) n32 HN32.out
            have l2 : ∀ q : Later wr, (loadCellsFrom ⟨bo, oo + a * 34, none⟩ 0 n32 #[]).run Tryz.prog q.w' = .ok (idC (dgt (out[a]!).id)) q.w' := fun q => load_plid HOL.out hga (HFr.out.trans q.fr (fun _ _ e => e)) n32 HN32.out
            have cc := fun w => QBelow_any x.id (out[a]!).id HXB.out hab w
            have hpp := HP.out a (by omega)
            obtain ⟨bq, hbq⟩ : ∃ b, decide (x.id < (out[a]!).id) = b := ⟨_, rfl⟩
            have HBQ : Hid (bq = decide (p ≤ a)) := Lib.hid (by rw [← hbq]; exact decide_eq_decide.2 hpp)
            rw [hbq] at cc
            obtain ⟨c1, hc1⟩ : ∃ c, idC (dgt x.id) = c := ⟨_, rfl⟩
            obtain ⟨c2, hc2⟩ : ∃ c, idC (dgt (out[a]!).id) = c := ⟨_, rfl⟩
            rw [hc1] at l1 cc
            rw [hc2] at l2 cc
            have CC := Lib.hid cc
            clear hga hab cc hpp hbq hc1 hc2
            have ha1 : (0 : Int) < (a : Int) + 1 := by omega
            have hd0 : decide ((0 : Int) < (a : Int) + 1) = true := decide_eq_true ha1
            have hap : (a : Int) < k := by omega
            have wa := wrap_nat a (by omega)
            have wa1 := wrap_nat1 a (by omega)
            have hcast : ((a + 1 : Nat) : Int) = (a : Int) + 1 := by omega
            rw [hcast]
            clear hcast
            cases bq
            · have hpe : p = a + 1 := by have := of_decide_eq_false HBQ.out.symm; omega
              have HPE := Lib.hid hpe
              clear hpe
              go_wp2_with fail
              refine wp_region_later (w0 := wr) (Fr.refl _ _) (by kernel_rfl) (by kernel_rfl) ?_
              repeat (quiet_step ((go_at_call 33; refine Calls.later_of (CC.out _))))
              refine wpQuiet_nil ?_
              intro _ hw'
              obtain ⟨q, hw''⟩ := hw'
              subst hw''
              go_wp2_with fail
              go_meet
              case rel => exact ⟨by rw [HPE.out]; simp, HFr.out.trans q.fr (fun _ _ e => e)⟩
            · have HPA := Lib.hid (of_decide_eq_true HBQ.out.symm)
              go_wp2_with fail
              refine wp_region_later (w0 := wr) (Fr.refl _ _) (by kernel_rfl) (by kernel_rfl) ?_
              repeat (quiet_step ((go_at_call 33; refine Calls.later_of (CC.out _))))
              refine wpQuiet_nil ?_
              intro _ hw'
              obtain ⟨q, hw''⟩ := hw'
              subst hw''
              go_wp2_with fail
              go_roundg a
              case measure => omega
              case rel => exact ⟨a, by omega, by go_num, Nat.le_refl _, HPA.out, Lib.hid (HFr.out.trans q.fr (fun _ _ e => e))⟩
      case rest =>
        obtain ⟨rfl, hfc⟩ := hcut
        have FW := HO.out.2.trans hfc (fun _ _ e => e)
        have HFW := Lib.hid FW
        have hT1 : Lies wc Ao ((flatP out).take (p * 34)) := (HOL.out.fr hfc (fun _ _ e => e)).take _
        rw [← flatP_take] at hT1
        have HT1 := Lib.hid hT1
        have hlt1 : (out.take p).length = p := by rw [List.length_take, HMl.out]; omega
        have hld1 : (out.drop p).length = k - p := by rw [List.length_drop, HMl.out]
        have HLT1 := Lib.hid hlt1
        have HLD1 := Lib.hid hld1
        have HTL := Lib.hid (show Lies wc (tlP Ao co p) (flatP (out.drop p)) from (HOL.out.fr hfc (fun _ _ e => e)).tlP co p (by rw [HMl.out]; omega))
        have hs1 := HS1.out
        have hs2 := HS2.out
        obtain ⟨cx, hcx⟩ := HPC.out
        have HCX := Lib.hid hcx
        have HL34 := Lib.hid (fun w' (f : Fr (fun _ => False) w w') => load_pl HL.out HGK.out f n34 HN34.out)
        have HBO := Lib.hid (fun w => build_q x w)
        rw [hcx] at HL34 HBO
        clear FW hlt1 hld1 hfc hcx hT1
        go_step
        go_upto_region 10 with (at_builtin; refine wpList_append_row _ rfl (.tmp 33) (.tmp 36) 31 31 rfl w.heap.size 46 i0 (.agg zeroPl) 34 48 Tryz.underlying31 hi hz0 hz1 hz2 rfl (.slice none 0 0) 0 [] rfl (World.ownsRow_nil _ _ _ _) (.slice Ao p co) p (flatP (out.take p)) rfl (HT1.out.srcQ HLT1.out co) (by unfold maxLen; omega) (by omega) HFW.out.size ?_
                                intro v1 w4 o1 g1 at1
                                have N1 := Lib.hid (firstQ w wc w4 v1 p (flatP (out.take p)) HFW.out o1 g1 at1)
                                clear o1 g1 at1)
        have l34 := HL34.out w4 N1.out.1.2
        go_upto_region 11 with (first
          | (refine wpList_buildSlice_toQ rfl 31 1 _ rfl #[(0, .agg cx)] (by simp [Act.eval, Act.put]) _ _ (HBO.out _) ?_)
          | (at_builtin; refine wpList_append_row _ rfl (.tmp 38) (.tmp 43) 31 31 rfl w.heap.size 46 i0 (.agg zeroPl) 34 48 Tryz.underlying31 hi hz0 hz1 hz2 rfl _ p _ rfl (N1.out.1.1.alloc _) _ 1 (flatP [x]) rfl (src_q _ x cx HCX.out) (by unfold maxLen; omega) (by omega) (by have := N1.out.1.2.size; simp; omega) ?_
             intro v2 w5 o2 g2 at2
             have N2 := Lib.hid (secondQ w wc w4 w5 v1 v2 x p (out.take p) Ao co (out.drop p) N1.out HTL.out o2 cx g2)
             clear o2 g2 at2))
        clear l34
        go_wp2_with (at_builtin; refine wpList_append_row _ rfl (.tmp 45) (.tmp 48) 31 31 rfl w.heap.size 46 i0 (.agg zeroPl) 34 48 Tryz.underlying31 hi hz0 hz1 hz2 rfl _ (p + 1) _ rfl N2.out.1.1 _ (k - p) (flatP (out.drop p)) rfl (N2.out.2.srcQ HLD1.out (co - p)) (by unfold maxLen; omega) (by omega) N2.out.1.2.size ?_
                     intro v3 w6 o3 g3 at3)
        have n3 : OwnQ w w6 v3 (srtP (ps.take (k + 1))) := by
          rw [HIN.out]
          refine ⟨?_, fr_append N2.out.1.1 N2.out.1.2 g3⟩
          rw [flatP_append, List.length_append, List.length_append, HLT1.out, HLD1.out]
          exact o3
        have N3 := Lib.hid n3
        clear n3 o3 g3 at3
        go_roundg (L - (k + 1))
        case measure => omega
        case rel => exact ⟨k + 1, _, rfl, by omega, by go_num, Nat.le_refl _, N3⟩
    · have hltz : ¬ ((k : Int) < L) := by omega
      obtain rfl : k = L := by omega
      have hall : ps.take k = ps := List.take_of_length_le (by rw [HLn.out]; exact Nat.le_refl _)
      have HO := Lib.hid ho0.out
      rw [hall] at HO
      clear ho0 hall
      go_wp2_with fail
      go_ret
      exact ⟨_, rfl, HO.out⟩
end Go.Proofs.YtgbhdjncccmabaaGreatDoor

/- What is proved: lists of links in memory, plain: their cells, lists of the call's own, one link that is built, a list of one. Conditions: none. -/
import Derived.Test.YtddckehejdpjcabGreatDoorObc
namespace Go.Proofs.YtddckehejdpjcabGreatDoor
open Go.RowKit Go.Sort Go.Shelf
open Ids (idC dgt idC_size idC_list idC_one size32)
set_option linter.unusedVariables false

/-- A link: its id's bytes, and its kind. -/
structure Lnk where
  z : List Int
  k : Int
  hz : z.length = 32
def idV (x : Lnk) : Array Value := (x.z.map (Value.int .u8)).toArray
def lnkC (x : Lnk) : List Value := x.z.map (Value.int .u8) ++ [.int .i64 x.k]
theorem lnkC_len (x : Lnk) : (lnkC x).length = 33 := by simp [lnkC, x.hz]
theorem lnkC_size (x : Lnk) : (lnkC x).toArray.size = 33 := by rw [List.size_toArray, lnkC_len]
theorem lnkC_one (x : Lnk) : ∀ v ∈ lnkC x, v.oneCell' = true := by
  intro v hv
  rcases List.mem_append.1 hv with h | h
  · obtain ⟨i, _, rfl⟩ := List.mem_map.1 h; rfl
  · rw [List.mem_singleton.1 h]; rfl
theorem idV_size (x : Lnk) : (idV x).size = 32 := by simp [idV, x.hz]
theorem idV_at (x : Lnk) (j : Nat) (v : Value) (h : (idV x)[j]? = some v) : (lnkC x)[j]? = some v := by
  have hj : j < (idV x).size := (Array.getElem?_eq_some_iff.1 h).1
  rw [idV_size] at hj
  rw [lnkC, List.getElem?_append_left (by simp [x.hz]; exact hj)]
  simpa [idV] using h
theorem kind_at (x : Lnk) : (lnkC x)[32]? = some (.int .i64 x.k) := by
  rw [lnkC, List.getElem?_append_right (by simp [x.hz])]; simp [x.hz]
def flatL (ls : List Lnk) : List Value := ls.flatMap lnkC
theorem flatL_cons (x : Lnk) (ls : List Lnk) : flatL (x :: ls) = lnkC x ++ flatL ls := rfl
theorem flatL_append (a b : List Lnk) : flatL (a ++ b) = flatL a ++ flatL b := List.flatMap_append
theorem flatL_one1 (x : Lnk) : flatL [x] = lnkC x := by simp [flatL]
theorem flatL_len (ls : List Lnk) : (flatL ls).length = ls.length * 33 := by
  induction ls with
  | nil => rfl
  | cons e es ih => rw [flatL_cons, List.length_append, ih, lnkC_len, List.length_cons]; omega
theorem flatL_one (ls : List Lnk) : ∀ u ∈ flatL ls, u.oneCell' = true := fun u hu => by
  obtain ⟨e, _, he⟩ := List.mem_flatMap.1 hu
  exact lnkC_one e u he
theorem flatL_get (es : List Lnk) (i j : Nat) (e : Lnk) (h : es[i]? = some e) (hj : j < 33) : (flatL es)[i * 33 + j]? = (lnkC e)[j]? := by
  induction es generalizing i with
  | nil => simp at h
  | cons m es ih =>
    rw [flatL_cons]
    have hl := lnkC_len m
    cases i with
    | zero =>
      simp at h
      subst h
      rw [List.getElem?_append_left (by omega), Nat.zero_mul, Nat.zero_add]
    | succ i =>
      rw [List.getElem?_append_right (by omega), hl, show (i + 1) * 33 + j - 33 = i * 33 + j by omega]
      exact ih i (by simpa using h)

/-- The link of an entry; of an id. -/
def lnkE (e : Ent) : Lnk := ⟨e.id.map fun b => ((b.toNat : Nat) : Int), if e.mode = 3 then 2 else 1, by simp [e.hi]⟩
def lnkI (n : Nat) (k : Int) : Lnk := ⟨(List.range 32).map fun i => ((Ids.byt (dgt n) i : Nat) : Int), k, by simp⟩
theorem idV_E (e : Ent) : idV (lnkE e) = (bytesV e.id).toArray := by
  rw [idV, lnkE, bytesV, List.map_map]; rfl
theorem idV_I (n : Nat) (k : Int) : idV (lnkI n k) = idC (dgt n) := by rw [idC_list, idV, lnkI]

/-- What an object names. -/
def linksO (k : Int) (l : List UInt8) : List Lnk :=
  if chkO k l = 0 then (if k = 2 then (getW l []).1.map lnkE else if k = 3 then lnkI (getR l).1.T 2 :: (getR l).1.ps.map (fun n => lnkI n 3) else if k = 4 then [lnkI (getM l).1.T (getM l).1.k] else []) else []

/-! Lists of the call's own. -/
def OwnL (t : TypeId) (w0 w : World) (v : Value) (ls : List Lnk) : Prop := w.ownsRow w0.heap.size t 33 v ls.length (flatL ls) ∧ Fr (fun _ => False) w0 w
section
variable {t : TypeId} {w0 w w' : World} {v v' : Value} {ls ms ks : List Lnk}
theorem OwnL.fr (h : OwnL t w0 w v ls) (f : Fr (fun _ => False) w w') : OwnL t w0 w' v ls := ⟨own_fr h.1 f (fun _ _ e => e), h.2.trans f (fun _ _ e => e)⟩
theorem OwnL.nil (f : Fr (fun _ => False) w0 w) : OwnL t w0 w (.slice none 0 0) [] := ⟨World.ownsRow_nil w w0.heap.size t 33, f⟩
theorem Lies.of_own33 {base : Nat} {A : Option Addr} {n c : Nat} {xs : List Value} (h : w.ownsRow base t 33 (.slice A n c) n xs) : Lies w A xs := by
  rcases own_shape h with ⟨_, _, h0⟩ | ⟨g, cap, hv, _⟩
  · exact .inl h0
  · injection hv with h1 h2 h3
    subst h1; subst h3
    refine .inr ⟨g, 0, rfl, fun j u hu => ?_⟩
    have hj : j < n * 33 := by
      have := (List.getElem?_eq_some_iff.1 hu).1
      rwa [h.1] at this
    rw [Nat.zero_add, World.ownsRow.cellAt h j hj]
    exact hu
theorem OwnL.slice (h : OwnL t w0 w v ls) : ∃ A c, v = .slice A ls.length c ∧ ls.length ≤ c ∧ (0 < ls.length → ∃ b, A = some ⟨b, 0, none⟩) ∧ Lies w A (flatL ls) := by
  rcases own_shape h.1 with ⟨hv, h0, _⟩ | ⟨g, cap, hv, h1, h2, _⟩
  · subst hv
    exact ⟨none, 0, by rw [h0], by omega, fun h => by omega, .inl (by rw [List.eq_nil_of_length_eq_zero h0]; rfl)⟩
  · subst hv
    exact ⟨_, cap, rfl, h1, fun _ => ⟨g, rfl⟩, Lies.of_own33 h.1⟩
theorem OwnL.grow (h : OwnL t w0 w v ls) (hk : ks = ls ++ ms) {m n : Nat} (hn : n = ls.length) (hm : m = ms.length) (o : w'.ownsRow w0.heap.size t 33 v' (n + m) (flatL ls ++ flatL ms)) (g : w.grownBy w' v.ownBlock) : OwnL t w0 w' v' ks := by
  subst hk
  refine ⟨?_, fr_append h.1 h.2 g⟩
  rw [List.length_append, flatL_append, ← hn, ← hm]
  exact o
theorem OwnL.base {w1 : World} (h : OwnL t w1 w v ls) (f : Fr (fun _ => False) w0 w1) : OwnL t w0 w v ls := by
  refine ⟨⟨h.1.1, ?_⟩, f.trans h.2 (fun _ _ e => e)⟩
  rcases h.1.2 with h0 | ⟨g, cap, cur, hv, hb, r⟩
  · exact .inl h0
  · exact .inr ⟨g, cap, cur, hv, Nat.le_trans f.size hb, r⟩
/-- A row of one that the call has laid. -/
theorem OwnL.laid (f : Fr (fun _ => False) w0 w) (x : Lnk) : OwnL t w0 (w.alloc (.cells (lnkC x).toArray t)) (.slice (some ⟨w.heap.size, 0, none⟩) 1 1) [x] := by
  refine ⟨⟨by rw [flatL_one1, lnkC_len]; rfl, .inr ⟨w.heap.size, 1, _, rfl, f.size, heap_alloc_new w _, Nat.le_refl _, by decide, by rw [lnkC_size], ?_⟩⟩, f.alloc _⟩
  rw [flatL_one1]
  exact List.take_of_length_le (by rw [lnkC_len]; exact Nat.le_refl _)
end
/-- Cells of link i. -/
theorem cell_lnk {w w' : World} {b o : Nat} {es : List Lnk} {i : Nat} {e : Lnk} (h : Lies w (some ⟨b, o, none⟩) (flatL es)) (hi : es[i]? = some e) (f : Fr (fun _ => False) w w') (j : Nat) (v : Value) (hv : (lnkC e)[j]? = some v) : w'.cell? ⟨b, o + i * 33 + j, none⟩ = some v := by
  have hj : j < 33 := by
    have := (List.getElem?_eq_some_iff.1 hv).1
    rwa [lnkC_len] at this
  have hg := flatL_get es i j e hi hj
  rw [hv] at hg
  rcases h with h | ⟨b', o', hA, hc⟩
  · rw [h] at hg; simp at hg
  · cases hA
    rw [Nat.add_assoc]
    exact f.cell (hc _ _ hg) (fun e => e)
theorem load_lnk {w w' : World} {b o : Nat} {es : List Lnk} {i : Nat} {e : Lnk} (h : Lies w (some ⟨b, o, none⟩) (flatL es)) (hi : es[i]? = some e) (f : Fr (fun _ => False) w w') (n : Nat) (hn : n = 32) : (loadCellsFrom ⟨b, o + i * 33, none⟩ 0 n #[]).run Tryz.prog w' = .ok (idV e) w' := by
  have h2 := run_loadCells_list (P := Tryz.prog) w' ⟨b, o + i * 33, none⟩ (idV e).toList (fun j v hv => by
    rw [add_off]
    exact cell_lnk h hi f j v (idV_at e j v (by rwa [Array.getElem?_toList] at hv)))
  rw [Array.length_toList, idV_size, Array.toArray_toList] at h2
  rw [hn]
  simpa [loadCells] using h2
theorem lnk_of_mem {es : List Lnk} {i : Nat} (h : i < es.length) : ∃ x, es[i]? = some x := ⟨es[i], List.getElem?_eq_getElem h⟩

/-! A link is built; a list of one. -/
theorem build_lnk (x : Lnk) (w : World) : (Instr.build 34 #[(0, .agg (idV x)), (1, .int .i64 x.k)]).run Tryz.prog w = .ok (.agg (lnkC x).toArray) w := by
  obtain ⟨z, k, hz⟩ := x
  (
    rcases z with _ | ⟨i0, _ | ⟨i1, _ | ⟨i2, _ | ⟨i3, _ | ⟨i4, _ | ⟨i5, _ | ⟨i6, _ | ⟨i7, _ | ⟨i8, _ | ⟨i9, _ | ⟨i10, _ | ⟨i11, _ | ⟨i12, _ | ⟨i13, _ | ⟨i14, _ | ⟨i15, _ | ⟨i16, _ | ⟨i17, _ | ⟨i18, _ | ⟨i19, _ | ⟨i20, _ | ⟨i21, _ | ⟨i22, _ | ⟨i23, _ | ⟨i24, _ | ⟨i25, _ | ⟨i26, _ | ⟨i27, _ | ⟨i28, _ | ⟨i29, _ | ⟨i30, _ | ⟨i31, _ | ⟨i32, zz⟩⟩⟩⟩⟩⟩⟩⟩⟩⟩⟩⟩⟩⟩⟩⟩⟩⟩⟩⟩⟩⟩⟩⟩⟩⟩⟩⟩⟩⟩⟩⟩⟩
    all_goals first | (simp only [List.length_cons, List.length_nil] at hz; omega) | kernel_rfl)
theorem build_lnkQ (x : Lnk) (w : World) : (Instr.build 35 #[(0, .agg (idV x)), (1, .int .i64 x.k)]).run Tryz.prog w = .ok (.agg (lnkC x).toArray) w := by
  obtain ⟨z, k, hz⟩ := x
  (
    rcases z with _ | ⟨i0, _ | ⟨i1, _ | ⟨i2, _ | ⟨i3, _ | ⟨i4, _ | ⟨i5, _ | ⟨i6, _ | ⟨i7, _ | ⟨i8, _ | ⟨i9, _ | ⟨i10, _ | ⟨i11, _ | ⟨i12, _ | ⟨i13, _ | ⟨i14, _ | ⟨i15, _ | ⟨i16, _ | ⟨i17, _ | ⟨i18, _ | ⟨i19, _ | ⟨i20, _ | ⟨i21, _ | ⟨i22, _ | ⟨i23, _ | ⟨i24, _ | ⟨i25, _ | ⟨i26, _ | ⟨i27, _ | ⟨i28, _ | ⟨i29, _ | ⟨i30, _ | ⟨i31, _ | ⟨i32, zz⟩⟩⟩⟩⟩⟩⟩⟩⟩⟩⟩⟩⟩⟩⟩⟩⟩⟩⟩⟩⟩⟩⟩⟩⟩⟩⟩⟩⟩⟩⟩⟩⟩
    all_goals first | (simp only [List.length_cons, List.length_nil] at hz; omega) | kernel_rfl)
theorem slice_lnk (x : Lnk) (w : World) : (Instr.buildSlice 24 1 #[(0, .agg (lnkC x).toArray)]).run Tryz.prog w = .ok (.slice (some ⟨w.heap.size, 0, none⟩) 1 1) (w.alloc (.cells (lnkC x).toArray 34)) := by
  obtain ⟨z, k, hz⟩ := x
  (
    rcases z with _ | ⟨i0, _ | ⟨i1, _ | ⟨i2, _ | ⟨i3, _ | ⟨i4, _ | ⟨i5, _ | ⟨i6, _ | ⟨i7, _ | ⟨i8, _ | ⟨i9, _ | ⟨i10, _ | ⟨i11, _ | ⟨i12, _ | ⟨i13, _ | ⟨i14, _ | ⟨i15, _ | ⟨i16, _ | ⟨i17, _ | ⟨i18, _ | ⟨i19, _ | ⟨i20, _ | ⟨i21, _ | ⟨i22, _ | ⟨i23, _ | ⟨i24, _ | ⟨i25, _ | ⟨i26, _ | ⟨i27, _ | ⟨i28, _ | ⟨i29, _ | ⟨i30, _ | ⟨i31, _ | ⟨i32, zz⟩⟩⟩⟩⟩⟩⟩⟩⟩⟩⟩⟩⟩⟩⟩⟩⟩⟩⟩⟩⟩⟩⟩⟩⟩⟩⟩⟩⟩⟩⟩⟩⟩
    all_goals first | (simp only [List.length_cons, List.length_nil] at hz; omega) | kernel_rfl)
theorem slice_lnkQ (x : Lnk) (w : World) : (Instr.buildSlice 28 1 #[(0, .agg (lnkC x).toArray)]).run Tryz.prog w = .ok (.slice (some ⟨w.heap.size, 0, none⟩) 1 1) (w.alloc (.cells (lnkC x).toArray 35)) := by
  obtain ⟨z, k, hz⟩ := x
  (
    rcases z with _ | ⟨i0, _ | ⟨i1, _ | ⟨i2, _ | ⟨i3, _ | ⟨i4, _ | ⟨i5, _ | ⟨i6, _ | ⟨i7, _ | ⟨i8, _ | ⟨i9, _ | ⟨i10, _ | ⟨i11, _ | ⟨i12, _ | ⟨i13, _ | ⟨i14, _ | ⟨i15, _ | ⟨i16, _ | ⟨i17, _ | ⟨i18, _ | ⟨i19, _ | ⟨i20, _ | ⟨i21, _ | ⟨i22, _ | ⟨i23, _ | ⟨i24, _ | ⟨i25, _ | ⟨i26, _ | ⟨i27, _ | ⟨i28, _ | ⟨i29, _ | ⟨i30, _ | ⟨i31, _ | ⟨i32, zz⟩⟩⟩⟩⟩⟩⟩⟩⟩⟩⟩⟩⟩⟩⟩⟩⟩⟩⟩⟩⟩⟩⟩⟩⟩⟩⟩⟩⟩⟩⟩⟩⟩
    all_goals first | (simp only [List.length_cons, List.length_nil] at hz; omega) | kernel_rfl)
def zeroL : Array Value := (List.replicate 32 (Value.int .u8 0) ++ [Value.int .i64 0]).toArray
theorem info_lnk : (Tryz.prog.info? 34).map (fun i => (i.zero, i.size, i.bytes)) = some (some (.agg zeroL), 33, 40) := by kernel_rfl
theorem info_lnkQ : (Tryz.prog.info? 35).map (fun i => (i.zero, i.size, i.bytes)) = some (some (.agg zeroL), 33, 40) := by kernel_rfl
theorem zeroL_cells : (Value.agg zeroL).cells.size = 33 := by kernel_rfl
section
variable {ops : Array Oper} {rest : List Oper} {o : Oper} {a : Act} {w : World} {Q : Exit → Act → World → Prop}
/-- A link is built. -/
theorem wpList_lnk (hgd : o.guard = none) (t : TypeId) (ht : ∀ (x : Lnk) (w : World), (Instr.build t #[(0, .agg (idV x)), (1, .int .i64 x.k)]).run Tryz.prog w = .ok (.agg (lnkC x).toArray) w) (y z : Operand) (ho : o.op = .build t #[(0, y), (1, z)])
    (x : Lnk) (cx : Array Value) (hc : (lnkC x).toArray = cx) (ci : Array Value) (hci : idV x = ci) (k : Int) (hk : x.k = k) (hy : a.eval y = .agg ci) (hz : a.eval z = .int .i64 k) (h : wpList Tryz.prog ops Q rest (a.put o.dst (.agg cx)) w) : wpList Tryz.prog ops Q (o :: rest) a w := by
  subst hc; subst hci; subst hk
  exact wpList_plain hgd fun K hK => by
    unfold Oper.wp execOp
    have e : (#[((0 : Nat), y), (1, z)].map fun (i, y) => (i, a.eval y)) = #[(0, .agg (idV x)), (1, .int .i64 x.k)] := by simp [hy, hz]
    simp only [ho, e, Sem.run_bind, ht x w, Result.andThen_ok, Sem.run_pure]
    exact hK _ _ h
/-- A list of one link is built. -/
theorem wpList_lnks (hgd : o.guard = none) (t te : TypeId) (ht : ∀ (x : Lnk) (w : World), (Instr.buildSlice t 1 #[(0, .agg (lnkC x).toArray)]).run Tryz.prog w = .ok (.slice (some ⟨w.heap.size, 0, none⟩) 1 1) (w.alloc (.cells (lnkC x).toArray te))) (y : Operand) (ho : o.op = .buildSlice t 1 #[(0, y)])
    (x : Lnk) (cx : Array Value) (hc : (lnkC x).toArray = cx) (hy : a.eval y = .agg cx) (h : wpList Tryz.prog ops Q rest (a.put o.dst (.slice (some ⟨w.heap.size, 0, none⟩) 1 1)) (w.alloc (.cells cx te))) : wpList Tryz.prog ops Q (o :: rest) a w := by
  subst hc
  exact wpList_plain hgd fun K hK => by
    unfold Oper.wp execOp
    have e : (#[((0 : Nat), y)].map fun (i, y) => (i, a.eval y)) = #[(0, .agg (lnkC x).toArray)] := by simp [hy]
    simp only [ho, e, Sem.run_bind, ht x w, Result.andThen_ok, Sem.run_pure]
    exact hK _ _ h
end
theorem src_lnk (ts te : TypeId) (hk : Tryz.prog.underlying ts = some (.slice te)) (w : World) (x : Lnk) (cx : Array Value) (hc : (lnkC x).toArray = cx) : Src Tryz.prog 33 ts (.slice (some ⟨w.heap.size, 0, none⟩) 1 1) 1 (flatL [x]) (w.alloc (.cells cx te)) := by
  subst hc
  refine Src.ofSlice _ hk ⟨w.heap.size, 0, none⟩ 1 1 (flatL [x]) (flatL_len [x]) (fun j u hu => ?_) (flatL_one [x])
  rw [add_off, Nat.zero_add, (Whole.new w te (lnkC x).toArray).cell]
  simpa [flatL] using hu
end Go.Proofs.YtddckehejdpjcabGreatDoor

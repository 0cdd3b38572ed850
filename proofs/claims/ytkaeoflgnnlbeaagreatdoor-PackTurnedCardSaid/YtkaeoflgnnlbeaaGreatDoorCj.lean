/- What is proved: what the walks of this seat need of layers below, merged out of the texts Trp Tsa Tsb Tsc Tsd Tse (of each just what is needed). Conditions: each theorem names its own. -/
import Derived.Deep.CutBlock
import Derived.Lib.BytesEntry
import Derived.OwnWalk
import Derived.OrdersHeld
import Derived.Test.YtkaeoflgnnlbeaaGreatDoorDej
import Derived.Test.YtkaeoflgnnlbeaaGreatDoorCa
import Derived.Test.YtkaeoflgnnlbeaaGreatDoorCi
import Derived.Test.YtkaeoflgnnlbeaaGreatDoorCc
set_option maxRecDepth 100000
/- What is proved: pieces of lists of entries; a list put in order by the document: one after another into its place. Conditions: the list's cells are there. -/
namespace Go.Proofs.YtkaeoflgnnlbeaaGreatDoor
open Go.RowKit Go.Sort Go.Shelf
set_option linter.unusedVariables false
/-- A list of one entry, made by the call. -/
theorem build_ent (e : EntTr) (w : World) : (Instr.buildSlice 184 1 #[(0, .agg (entV e).toArray)]).run Tryz.prog w = .ok (.slice (some ⟨w.heap.size, 0, none⟩) 1 1) (w.alloc (.cells (entV e).toArray 212)) := by
  obtain ⟨nm, md, id, hn, hm, hi⟩ := e
  rcases id with _ | ⟨i0, _ | ⟨i1, _ | ⟨i2, _ | ⟨i3, _ | ⟨i4, _ | ⟨i5, _ | ⟨i6, _ | ⟨i7, _ | ⟨i8, _ | ⟨i9, _ | ⟨i10, _ | ⟨i11, _ | ⟨i12, _ | ⟨i13, _ | ⟨i14, _ | ⟨i15, _ | ⟨i16, _ | ⟨i17, _ | ⟨i18, _ | ⟨i19, _ | ⟨i20, _ | ⟨i21, _ | ⟨i22, _ | ⟨i23, _ | ⟨i24, _ | ⟨i25, _ | ⟨i26, _ | ⟨i27, _ | ⟨i28, _ | ⟨i29, _ | ⟨i30, _ | ⟨i31, _ | ⟨i32, id⟩⟩⟩⟩⟩⟩⟩⟩⟩⟩⟩⟩⟩⟩⟩⟩⟩⟩⟩⟩⟩⟩⟩⟩⟩⟩⟩⟩⟩⟩⟩⟩⟩
  all_goals first | (simp only [List.length_cons, List.length_nil] at hi; omega) | kernel_rfl
theorem wpList_build_cx {ops : Array Oper} {rest : List Oper} {o : Oper} {a : Act} {w : World} {Q : Exit → Act → World → Prop} (hgd : o.guard = none) (x : Operand) (ho : o.op = .buildSlice 184 1 #[(0, x)])
    (e : EntTr) (cx : Array Value) (hc : (entV e).toArray = cx) (hx : a.eval x = .agg cx) (h : wpList Tryz.prog ops Q rest (a.put o.dst (.slice (some ⟨w.heap.size, 0, none⟩) 1 1)) (w.alloc (.cells cx 212))) : wpList Tryz.prog ops Q (o :: rest) a w := by
  subst hc
  exact wpList_plain hgd fun K hK => by
    unfold Oper.wp execOp
    have e : (#[((0 : Nat), x)].map fun (i, y) => (i, a.eval y)) = #[(0, .agg (entV e).toArray)] := by simp [hx]
    simp only [ho, e, Sem.run_bind, build_ent, Result.andThen_ok, Sem.run_pure]
    exact hK _ _ h
theorem src_cx34 (w : World) (e : EntTr) (cx : Array Value) (hc : (entV e).toArray = cx) : Src Tryz.prog 34 184 (.slice (some ⟨w.heap.size, 0, none⟩) 1 1) 1 (flatE [e]) (w.alloc (.cells cx 212)) := by
  subst hc
  refine Lies.src34 (es := [e]) (.inr ⟨w.heap.size, 0, rfl, fun j u hu => ?_⟩) rfl 1
  rw [Nat.zero_add, (Whole.new w 212 (entV e).toArray).cell]
  simpa [flatE] using hu
theorem wpList_load_cx {ops : Array Oper} {rest : List Oper} {op : Oper} {a : Act} {w : World} {Q : Exit → Act → World → Prop} (hgd : op.guard = none) (x : Operand) (ho : op.op = .load 212 x)
    (b o : Nat) (hx : a.eval x = .pointer (some ⟨b, o, none⟩)) (cx : Array Value) (hs : cx.size = 34) (hc : w.rangeAt b o cx.toList)
    (h : wpList Tryz.prog ops Q rest (a.put op.dst (.agg cx)) w) : wpList Tryz.prog ops Q (op :: rest) a w :=
  wpList_load_mid hgd 212 x ho b o hx cx.toList _ hc underE rfl (by rw [Array.length_toList, hs]; exact size_ent) (by rw [Array.toArray_toList]; exact h)
theorem OwnE.shape {w0 w : World} {v : Value} {es : List EntTr} (h : OwnE w0 w v es) : ∃ A c, v = .slice A es.length c ∧ es.length ≤ c ∧ c ≤ maxLen ∧ (A = none ∨ ∃ b o, A = some ⟨b, o, none⟩) ∧ Lies w A (flatE es) := by
  obtain ⟨A, c, hv, h1, h2, h3, _⟩ := h.slice
  refine ⟨A, c, hv, h1, h2, ?_, h3⟩
  rcases own_shape h.1 with ⟨hn, _, _⟩ | ⟨g, cap, hn, _⟩
  · rw [hn] at hv; injection hv with hv; exact .inl hv.symm
  · rw [hn] at hv; injection hv with hv; exact .inr ⟨g, 0, hv.symm⟩
end Go.Proofs.YtkaeoflgnnlbeaaGreatDoor
/- What is proved: what stands ahead of the first byte 0, and behind it; where it stands, and the cut there, by the library. Conditions: the bytes' cells are there. -/
namespace Go.Proofs.YtkaeoflgnnlbeaaGreatDoor
open Go.RowKit Go.Sort Go.Shelf
set_option linter.unusedVariables false
def idx0 (l : List UInt8) : Int := Lib.indexByte l 0
/-- What stands ahead of the first byte 0; what stands behind it. -/
def nm (l : List UInt8) : List UInt8 := if idx0 l = -1 then l else l.take (idx0 l).toNat
def bh (l : List UInt8) : List UInt8 := l.drop ((nm l).length + 1)
theorem idx0_cases (l : List UInt8) : (idx0 l = -1 ∧ nm l = l ∧ bh l = [] ∧ ∀ j : Nat, l[j]? ≠ some 0) ∨ ∃ m : Nat, idx0 l = m ∧ m < l.length ∧ nm l = l.take m ∧ bh l = l.drop (m + 1) ∧ l[m]? = some 0 ∧ ∀ j : Nat, j < m → l[j]? ≠ some 0 := by
  have hge := Lib.indexByte_ge l 0
  by_cases h : idx0 l = -1
  · left
    have h1 : nm l = l := by rw [nm, if_pos h]
    exact ⟨h, h1, by rw [bh, h1]; exact List.drop_of_length_le (by omega), fun j => Lib.indexByte_none h j⟩
  · right
    have hge' : -1 ≤ idx0 l := hge
    obtain ⟨m, hm⟩ : ∃ m : Nat, idx0 l = m := ⟨(idx0 l).toNat, by omega⟩
    obtain ⟨h1, h2⟩ := Lib.indexByte_some (show Lib.indexByte l 0 = (m : Nat) from hm)
    have hml := (List.getElem?_eq_some_iff.1 h1).1
    have hn : nm l = l.take m := by rw [nm, if_neg h, hm, Int.toNat_natCast]
    exact ⟨m, hm, hml, hn, by rw [bh, hn, List.length_take]; congr 1; omega, h1, h2⟩
def Plain (A : Option Addr) : Prop := A = none ∨ ∃ b o, A = some ⟨b, o, none⟩
theorem Plain.tlB {A : Option Addr} (h : Plain A) (c m : Nat) : Plain (tlB A c m) := by
  unfold Proofs.YtkaeoflgnnlbeaaGreatDoor.tlB
  split
  · exact h
  · rcases h with rfl | ⟨b, o, rfl⟩
    · exact .inl rfl
    · exact .inr ⟨b, o + m, by simp [add_off]⟩
theorem Lies.byte {w : World} {b o : Nat} {l : List UInt8} (h : Lies w (some ⟨b, o, none⟩) (bytesV l)) (j : Nat) (u : UInt8) (hj : l[j]? = some u) : w.cell? ⟨b, o + j, none⟩ = some (.int .u8 (u.toNat : Nat)) := by
  have hu : (bytesV l)[j]? = some (.int .u8 (u.toNat : Nat)) := by rw [bytesV, List.getElem?_map, hj]; rfl
  rcases h with h | ⟨b', o', hA, hc⟩
  · rw [h] at hu; simp at hu
  · cases hA
    exact hc j _ hu
theorem slice_hdB (A : Option Addr) (hA : Plain A) (n c m : Nat) (h : m ≤ c) (w : World) : (Instr.slice 25 (.slice A n c) none (some (.int .i64 m)) none).run Tryz.prog w = .ok (.slice A m c) w := by
  have hs : (sizeOf (Tryz.prog.elem 25)).run Tryz.prog w = .ok 1 w := by kernel_rfl
  have ht : Tryz.prog.underlying 25 = some (.slice (Tryz.prog.elem 25)) := by kernel_rfl
  have e := run_slice_h (P := Tryz.prog) w 25 A n c ht .i64 (m : Int) (by omega) (by omega)
  rw [e, hs]
  rcases hA with rfl | ⟨b, o, rfl⟩
  · simp [sliced]
  · simp [sliced, add_off]
theorem slice_tlBT (A : Option Addr) (n c m : Nat) (h : m ≤ n) (w : World) : (Instr.slice 25 (.slice A n c) (some (.int .i64 m)) none none).run Tryz.prog w = .ok (.slice (tlB A c m) (n - m) (c - m)) w := by
  have hs : (sizeOf (Tryz.prog.elem 25)).run Tryz.prog w = .ok 1 w := by kernel_rfl
  have ht : Tryz.prog.underlying 25 = some (.slice (Tryz.prog.elem 25)) := by kernel_rfl
  have e := run_slice_l (P := Tryz.prog) w 25 A n c ht .i64 (m : Int) (by omega) (by omega)
  rw [e, hs]
  simp [sliced, tlB]
/-- The model's entry. -/
theorem entry_idx (w : World) (A : Option Addr) (hA : Plain A) (c : Nat) (l : List UInt8) (h : Lies w A (bytesV l)) :
    (Extern.BytealgIndexByte.indexByte #[.slice A l.length c, .int .u8 0]).run Tryz.prog w = .ok (.int .i64 (idx0 l)) w := by
  rcases hA with rfl | ⟨b, o, rfl⟩
  · have : l = [] := by
      rcases h with h | ⟨b, o, h, _⟩
      · simpa [bytesV] using h
      · cases h
    subst this
    exact Lib.run_indexByteNil _ _ _ _
  · have hb : Lib.bytesOf (l.map fun u => ((u.toNat : Nat) : Int)) = l := by
      rw [Lib.bytesOf, List.map_map]
      conv => rhs; rw [← List.map_id l]
      apply List.map_congr_left
      intro u _
      simp
    have := Lib.run_indexByteSlice (P := Tryz.prog) (w := w) b o l.length c (l.map fun u => ((u.toNat : Nat) : Int)) (by simp) (fun i hi => by
      rw [h.byte i l[i] (List.getElem?_eq_getElem hi), List.getD_eq_getElem?_getD, List.getElem?_map, List.getElem?_eq_getElem hi]; rfl) 0
    rw [hb] at this
    exact this
set_option maxHeartbeats 1000000 in
set_option maxRecDepth 100000 in
theorem GbbIndexByte_any (A : Option Addr) (hA : Plain A) (c : Nat) (l : List UInt8) (w : World) (h : Lies w A (bytesV l)) :
    Calls Tryz.prog 194 #[.slice A l.length c, .int .u8 0] w fun e w' => e = .returned (.int .i64 (idx0 l)) ∧ w = w' := by
  have hr := Lib.hid (entry_idx w A hA c l h)
  obtain ⟨r, hr'⟩ : ∃ r, idx0 l = r := ⟨_, rfl⟩
  obtain ⟨n, hn⟩ : ∃ n, l.length = n := ⟨_, rfl⟩
  rw [hr', hn] at hr
  rw [hr', hn]
  clear hr' hn h
  go_enter Tryz.func194, Tryz.ntmps194
  go_wp2
  rw [run_callFunc_extern Tryz.func213 (by kernel_rfl) (by kernel_rfl) (by kernel_rfl) (e := Extern.BytealgIndexByte.indexByte) (by kernel_rfl), hr.out]
  simp only [Result.andThen]
  rw [Oper.upon_value]
  go_wp2
  go_ret
  exact ⟨rfl, rfl⟩
set_option maxHeartbeats 1600000 in
set_option maxRecDepth 100000 in
theorem GbbIndex_any (A : Option Addr) (hA : Plain A) (c g : Nat) (l : List UInt8) (w : World) (h : Lies w A (bytesV l)) (hg : w.cell? ⟨g, 0, none⟩ = some (.int .u8 0)) :
    Calls Tryz.prog 177 #[.slice A l.length c, .slice (some ⟨g, 0, none⟩) 1 1] w fun e w' => e = .returned (.int .i64 (idx0 l)) ∧ w = w' := by
  have hr := Lib.hid (GbbIndexByte_any A hA c l w h)
  obtain ⟨r, hr'⟩ : ∃ r, idx0 l = r := ⟨_, rfl⟩
  obtain ⟨n, hn⟩ : ∃ n, l.length = n := ⟨_, rfl⟩
  rw [hr', hn] at hr
  rw [hr', hn]
  clear hr' hn h hA
  go_enter Tryz.func177, Tryz.ntmps177
  go_wp2_with (go_at_call 194; refine hr.out.mono ?_; rintro e w' ⟨rfl, rfl⟩)
  go_ret
  exact ⟨rfl, rfl⟩
end Go.Proofs.YtkaeoflgnnlbeaaGreatDoor
/- What is proved: bytes are cut at the first byte 0, by the library. Conditions: the bytes' cells are there. -/
namespace Go.Proofs.YtkaeoflgnnlbeaaGreatDoor
open Go.RowKit Go.Sort Go.Shelf
set_option linter.unusedVariables false
theorem wrap_nz (k : Nat) (h : k ≤ 9223372036854775807) : IntKind.i64.wrap (k : Int) = k := by rw [IntKind.wrap_i64]; omega
theorem wrap_nz1 (k : Nat) (h : k ≤ 9223372036854775806) : IntKind.i64.wrap ((k : Int) + 1) = (k : Int) + 1 := by rw [IntKind.wrap_i64]; omega
set_option maxHeartbeats 1600000 in
set_option maxRecDepth 100000 in
theorem GbCut_any (A : Option Addr) (hA : Plain A) (c g : Nat) (l : List UInt8) (hl : l.length ≤ 9223372036854775806) (hcap : l.length ≤ c) (w : World) (h : Lies w A (bytesV l)) (hg : w.cell? ⟨g, 0, none⟩ = some (.int .u8 0)) :
    Calls Tryz.prog 161 #[.slice A l.length c, .slice (some ⟨g, 0, none⟩) 1 1] w fun e w' => (∃ A2 c1 c2, e = .returned (.tuple #[.slice A (nm l).length c1, .slice A2 (bh l).length c2, .bool (decide (0 ≤ idx0 l))]) ∧ Plain A2 ∧ (bh l).length ≤ c2 ∧ ∀ w0, Lies w0 A (bytesV l) → Lies w0 A2 (bytesV (bh l))) ∧ Below w.heap.size w w' := by
  have hr := Lib.hid (GbbIndex_any A hA c g l w h hg)
  have HL := Lib.hid h
  have HC := Lib.hid hcap
  rcases idx0_cases l with ⟨h1, h2, h3, _⟩ | ⟨m, h1, hml, h2, h3, _⟩
  · have HN := Lib.hid h2
    have HB := Lib.hid h3
    rw [h1] at hr
    rw [h2, h3, show decide (0 ≤ idx0 l) = false by rw [h1]; rfl]
    obtain ⟨n, hn⟩ : ∃ n, l.length = n := ⟨_, rfl⟩
    rw [hn] at hr ⊢
    clear h1 h2 h3 h hn hl hcap hA
    go_enter Tryz.func161, Tryz.ntmps161
    go_wp2_with (go_at_call 177; refine hr.out.mono ?_; rintro e w' ⟨rfl, rfl⟩)
    go_ret3
    refine ⟨⟨none, _, 0, rfl, .inl rfl, Nat.le_refl _, fun _ _ => .inl rfl⟩, ?_⟩
    first | exact (Fr.refl (fun _ => False) w).below (fun _ _ e => e) | exact ((Fr.refl (fun _ => False) w).drew).below (fun _ _ e => e)
  · have hn1 : (nm l).length = m := by rw [h2, List.length_take]; omega
    have hn2 : (bh l).length = l.length - (m + 1) := by rw [h3, List.length_drop]
    have HB : Hid (∀ w0, Lies w0 A (bytesV l) → Lies w0 (tlB A c (m + 1)) (bytesV (bh l))) := Lib.hid (fun w0 h0 => by rw [h3]; exact h0.tlB c (m + 1) hcap)
    have HP := Lib.hid (hA.tlB c (m + 1))
    rw [h1] at hr
    rw [hn1, hn2, show decide (0 ≤ idx0 l) = true by rw [h1]; simp]
    have s1 : ∀ w, (Instr.slice 25 (.slice A l.length c) none (some (.int .i64 m)) none).run Tryz.prog w = .ok (.slice A m c) w := fun w => slice_hdB A hA l.length c m (by omega) w
    have s2 : ∀ w, (Instr.slice 25 (.slice A l.length c) (some (.int .i64 ((m : Int) + 1))) none none).run Tryz.prog w = .ok (.slice (tlB A c (m + 1)) (l.length - (m + 1)) (c - (m + 1))) w := fun w => slice_tlBT A l.length c (m + 1) (by omega) w
    obtain ⟨n, hn⟩ : ∃ n, l.length = n := ⟨_, rfl⟩
    obtain ⟨d, hd⟩ : ∃ d, n - (m + 1) = d := ⟨_, rfl⟩
    obtain ⟨c2, hc2⟩ : ∃ c2, c - (m + 1) = c2 := ⟨_, rfl⟩
    have HD : Hid (d ≤ c2) := Lib.hid (by omega)
    rw [hn] at hr s1 s2 hl hml ⊢
    rw [hd] at s2 ⊢
    rw [hc2] at s2
    obtain ⟨A2, hA2⟩ : ∃ A2, tlB A c (m + 1) = A2 := ⟨_, rfl⟩
    rw [hA2] at s2 HB HP
    have wk := wrap_nz (m + 1) (by omega)
    have hge : (m : Int) ≥ 0 := by omega
    have sc := wrap_nz1 m (by omega)
    clear h1 h2 h3 h hn hcap hA hn1 hn2 hd hc2 hA2
    go_enter Tryz.func161, Tryz.ntmps161
    go_wp2_with (go_at_call 177; refine hr.out.mono ?_; rintro e w' ⟨rfl, rfl⟩)
    go_region
    go_wp2
    go_ret3
    refine ⟨⟨A2, _, c2, rfl, HP.out, HD.out, HB.out⟩, ?_⟩
    first | exact (Fr.refl (fun _ => False) w).below (fun _ _ e => e) | exact ((Fr.refl (fun _ => False) w).drew).below (fun _ _ e => e)
end Go.Proofs.YtkaeoflgnnlbeaaGreatDoor
/- What is proved: the entry that bytes begin with, by the program. Conditions: the bytes' cells are there, one at least. -/
namespace Go.Proofs.YtkaeoflgnnlbeaaGreatDoor
open Go.RowKit Go.Sort Go.Shelf
set_option linter.unusedVariables false
theorem results_cell_slots {P : Program} {fn : Func} {p u v : Tmp} {ty : TypeId} (h : fn.results = #[.cell p ty, .tmp u, .tmp v]) (tmps : Array Value) (w : World) (g : Nat) (t : TypeId) (cs : Array Value) (d : TypeDesc)
    (hp : tmps.getD p undef = .pointer (some ⟨g, 0, none⟩)) (hg : Whole w g t cs)
    (hu : P.underlying ty = some d) (hd : (match d with | .struct _ | .array _ _ => true | _ => false) = true) (hi : (P.info? ty).map (·.size) = some cs.size) :
    (results fn tmps).run P w = .ok (.tuple #[.agg cs, tmps.getD u undef, tmps.getD v undef]) w := by
  have hp' : tmps[p]?.getD undef = .pointer (some ⟨g, 0, none⟩) := by simpa using hp
  have hg' : w.heap[g]? = some (.cells cs t (0, 0)) := hg
  simp [results, h, hp', asAddr, run_loadVar_row w g t ty cs (0, 0) d hg' hu hd hi]
theorem build_entry (S : ByteArray) (m : Int) (id : List UInt8) (hi : id.length = 32) (w : World) : (Instr.build 212 #[(0, .string S), (1, .int .i64 m), (2, .agg (bytesV id).toArray)]).run Tryz.prog w = .ok (.agg (.string S :: .int .i64 m :: bytesV id).toArray) w := by
  rcases id with _ | ⟨i0, _ | ⟨i1, _ | ⟨i2, _ | ⟨i3, _ | ⟨i4, _ | ⟨i5, _ | ⟨i6, _ | ⟨i7, _ | ⟨i8, _ | ⟨i9, _ | ⟨i10, _ | ⟨i11, _ | ⟨i12, _ | ⟨i13, _ | ⟨i14, _ | ⟨i15, _ | ⟨i16, _ | ⟨i17, _ | ⟨i18, _ | ⟨i19, _ | ⟨i20, _ | ⟨i21, _ | ⟨i22, _ | ⟨i23, _ | ⟨i24, _ | ⟨i25, _ | ⟨i26, _ | ⟨i27, _ | ⟨i28, _ | ⟨i29, _ | ⟨i30, _ | ⟨i31, _ | ⟨i32, id⟩⟩⟩⟩⟩⟩⟩⟩⟩⟩⟩⟩⟩⟩⟩⟩⟩⟩⟩⟩⟩⟩⟩⟩⟩⟩⟩⟩⟩⟩⟩⟩⟩
  all_goals first | (simp only [List.length_cons, List.length_nil] at hi; omega) | kernel_rfl
theorem yieldsIf_buildT {P : Program} {ops : Array Oper} {S : World → Prop} {op : Oper} {a : Act} (hw : Region.wanted op (yielded ops a.tmps) = true) (t : TypeId) (parts : Array (Nat × Operand)) (ho : op.op = .build t parts)
    (vals : Array (Nat × Value)) (hvals : (parts.map fun (i, x) => (i, a.eval x)) = vals) (v : Value) (hv : ∀ w, (Instr.build t vals).run P w = .ok v w) : YieldsIf P ops S op v a :=
  .inl ⟨hw, fun w _ => by
    unfold execOp
    simp [ho, hvals, hv]⟩
theorem yieldsIf_load_cx {ops : Array Oper} {S : World → Prop} {op : Oper} {a : Act} (hw : Region.wanted op (yielded ops a.tmps) = true) (x : Operand) (ho : op.op = .load 212 x)
    (b o : Nat) (hx : a.eval x = .pointer (some ⟨b, o, none⟩)) (cx : Array Value) (hs : cx.size = 34) (hS : ∀ w, S w → w.rangeAt b o cx.toList) : YieldsIf Tryz.prog ops S op (.agg cx) a := by
  have := yieldsIf_load_mid (P := Tryz.prog) (ops := ops) (S := S) hw 212 x ho b o hx cx.toList _ hS underE rfl (by rw [Array.length_toList, hs]; exact size_ent)
  rwa [Array.toArray_toList] at this
theorem size_id : (Tryz.prog.info? 48).map (·.size) = some 32 := by kernel_rfl
theorem arr_ptr (A : Option Addr) (c : Nat) (w : World) : (Instr.arrayAt 48 (.slice A 32 c)).run Tryz.prog w = .ok (.pointer A) w := by kernel_rfl
/-! What the beginning of bytes tells. -/
def modeT (l : List UInt8) : Int := ((l.getD 0 0).toNat : Int) - 48
def errT (l : List UInt8) : Int :=
  if modeB (modeT l) = false then 16 else if 1 < l.length ∧ l.getD 1 0 ≠ 32 then 16 else if l.length = 1 then 10
  else if nameB (nm (l.drop 2)) = false then 15 else if (bh (l.drop 2)).length < 32 then 10 else 0
def mkEnt (n : List UInt8) (m : Int) (i : List UInt8) : EntTr :=
  if h : n.length ≤ 140737488355327 ∧ (-9223372036854775808 ≤ m ∧ m ≤ 9223372036854775807) ∧ i.length = 32 then ⟨n, m, i, h.1, h.2.1, h.2.2⟩ else default
def entTTr (l : List UInt8) : EntTr := if errT l = 0 then mkEnt (nm (l.drop 2)) (modeT l) ((bh (l.drop 2)).take 32) else default
def restT (l : List UInt8) : List UInt8 := if errT l = 0 then (bh (l.drop 2)).drop 32 else []
theorem modeT_range (l : List UInt8) : -9223372036854775808 ≤ modeT l ∧ modeT l ≤ 9223372036854775807 := by
  have := (l.getD 0 0).toNat_lt
  unfold modeT
  omega
theorem took_bad {l : List UInt8} (h : errT l ≠ 0) : entTTr l = default ∧ restT l = [] := by rw [entTTr, restT, if_neg h, if_neg h]; exact ⟨rfl, rfl⟩
theorem took_cells {l : List UInt8} (h : errT l = 0) (hn : nameB (nm (l.drop 2)) = true) (hb : ¬ (bh (l.drop 2)).length < 32) : entV (entTTr l) = .string (strB (nm (l.drop 2))) :: .int .i64 (modeT l) :: bytesV ((bh (l.drop 2)).take 32) := by
  have h1 := name_small hn
  rw [entTTr, if_pos h, mkEnt, dif_pos ⟨by omega, modeT_range l, by rw [List.length_take]; omega⟩]; rfl
set_option maxHeartbeats 3200000 in
set_option maxRecDepth 100000 in
theorem Ttake_any (A : Option Addr) (hA : Plain A) (c : Nat) (l : List UInt8) (hl : l.length ≤ 9223372036854775806) (hcap : l.length ≤ c) (hne : 0 < l.length) (w : World) (h : Lies w A (bytesV l)) (w0 : World) (h0 : Lies w0 A (bytesV l)) :
    Calls Tryz.prog 147 #[.slice A l.length c] w fun e w' => (∃ A2 c2, e = .returned (.tuple #[.agg (entV (entTTr l)).toArray, .slice A2 (restT l).length c2, .int .i64 (errT l)]) ∧ Plain A2 ∧ (restT l).length ≤ c2 ∧ Lies w0 A2 (bytesV (restT l))) ∧ Below w.heap.size w w' := by
  (
    obtain ⟨w1, hw1⟩ : ∃ w1, w.alloc (.cells zeroE 212) = w1 := ⟨_, rfl⟩
    have HZ := Lib.hid (show Whole w1 w.heap.size 212 zeroE from by subst hw1; exact Whole.new w 212 zeroE)
    have HF1 := Lib.hid (show Fr (fun _ => False) w w1 from by subst hw1; exact (Fr.refl _ w).alloc _)
    unfold zeroE at hw1
    simp [List.replicate] at hw1)
  have HL := Lib.hid h
  have HL0 := Lib.hid h0
  clear h0
  obtain ⟨b, o, rfl⟩ := h.someB hne
  have hg0 : l[0]? = some (l.getD 0 0) := by rw [List.getD_eq_getElem?_getD, List.getElem?_eq_getElem hne]; rfl
  have c0 : w1.cell? ⟨b, o, none⟩ = some (.int .u8 ((l.getD 0 0).toNat : Nat)) := HF1.out.cell (h.byte 0 _ hg0) (fun e => e)
  obtain ⟨v, hv⟩ : ∃ v : Nat, (l.getD 0 0).toNat = v := ⟨_, rfl⟩
  have hvb : v ≤ 255 := by have := (l.getD 0 0).toNat_lt; omega
  have hm : modeT l = (v : Int) - 48 := by rw [modeT, hv]
  rw [hv] at c0
  have wv : IntKind.i64.wrap (v : Int) = v := wrap_nz v (by omega)
  have wv2 : IntKind.i64.wrap ((v : Int) - 48) = modeT l := by rw [hm, IntKind.wrap_i64]; omega
  obtain ⟨n, hn⟩ : ∃ n, l.length = n := ⟨_, rfl⟩
  have HN := Lib.hid hn
  have hn0 : 0 < n := by omega
  have cm := fun w => TisMode_any (modeT l) w
  cases hb1 : modeB (modeT l) with
  | false =>
    have HE : Hid (errT l = 16) := Lib.hid (by rw [errT, if_pos hb1])
    rw [hb1] at cm
    obtain ⟨m, hm'⟩ : ∃ m, modeT l = m := ⟨_, rfl⟩
    rw [hm'] at cm wv2
    rw [hn]
    clear hb1 hm hv hg0 h hcap hl hne hn hm' hA
    go_enter Tryz.func147, Tryz.ntmps147
    go_wp2_with (first
      | (refine wpList_store_at rfl 212 _ _ rfl w.heap.size 0 212 _ zeroE rfl rfl HZ.out (by decide) size_ent (entV_all default) ?_; intro w6 hw6 hf6)
      | (go_at_call 160; refine (cm _).mono ?_; rintro e w' ⟨rfl, rfl⟩))
    rw [laidAt_all _ _ rfl] at hw6
    (
      refine bodyPost_ret (v := .tuple #[.agg zeroE, .slice none 0 0, .int .i64 16]) (results_cell_slots (p := 2) (u := 3) (v := 4) rfl _ _ _ _ _ _ rfl hw6 underE rfl size_ent) rfl ?_
      obtain ⟨e1, e2⟩ := took_bad (l := l) (by rw [HE.out]; decide)
      refine ⟨⟨none, 0, by rw [e1, e2, HE.out]; rfl, .inl rfl, by rw [e2]; exact Nat.le_refl _, by rw [e2]; exact .inl rfl⟩, ?_⟩)
    exact (HF1.out.trans hf6 (fun i hi e => by omega)).below (fun _ _ e => e)
  | true =>
    rw [hb1] at cm
    by_cases hone : n = 1
    · have HE : Hid (errT l = 10) := Lib.hid (by rw [errT, hb1, if_neg (by simp), if_neg (by omega), if_pos (by omega)])
      obtain ⟨m, hm'⟩ : ∃ m, modeT l = m := ⟨_, rfl⟩
      rw [hm'] at cm wv2
      rw [hn]
      have hgt : ¬ (1 : Int) < (n : Int) := by omega
      have heq : (n : Int) = 1 := by omega
      clear hb1 hm hv hg0 h hcap hl hne hn hm' hA
      subst hone
      go_enter Tryz.func147, Tryz.ntmps147
      go_wp2_with (first
        | (refine wpList_store_at rfl 212 _ _ rfl w.heap.size 0 212 _ zeroE rfl rfl HZ.out (by decide) size_ent (entV_all default) ?_; intro w6 hw6 hf6)
        | (go_at_call 160; refine (cm _).mono ?_; rintro e w' ⟨rfl, rfl⟩))
      rw [laidAt_all _ _ rfl] at hw6
      (
        refine bodyPost_ret (v := .tuple #[.agg zeroE, .slice none 0 0, .int .i64 10]) (results_cell_slots (p := 2) (u := 3) (v := 4) rfl _ _ _ _ _ _ rfl hw6 underE rfl size_ent) rfl ?_
        obtain ⟨e1, e2⟩ := took_bad (l := l) (by rw [HE.out]; decide)
        refine ⟨⟨none, 0, by rw [e1, e2, HE.out]; rfl, .inl rfl, by rw [e2]; exact Nat.le_refl _, by rw [e2]; exact .inl rfl⟩, ?_⟩)
      exact (HF1.out.trans hf6 (fun i hi e => by omega)).below (fun _ _ e => e)
    · have hn2 : 1 < n := by omega
      have hgt : (1 : Int) < (n : Int) := by omega
      have hg1 : l[1]? = some (l.getD 1 0) := by rw [List.getD_eq_getElem?_getD, List.getElem?_eq_getElem (by omega)]; rfl
      have c1 : w1.cell? ⟨b, o + 1, none⟩ = some (.int .u8 ((l.getD 1 0).toNat : Nat)) := HF1.out.cell (h.byte 1 _ hg1) (fun e => e)
      by_cases hbl : l.getD 1 0 = 32
      · have hA' := hA.tlB c 2
        have hl' := h.tlB c 2 hcap
        have hl0' := HL0.out.tlB c 2 hcap
        have s1 : ∀ w, (Instr.slice 25 (.slice (some ⟨b, o, none⟩) n c) (some (.int .i64 2)) none none).run Tryz.prog w = .ok (.slice (tlB (some ⟨b, o, none⟩) c 2) (n - 2) (c - 2)) w := fun w => slice_tlBT _ n c 2 (by omega) w
        rw [hbl] at c1
        have hln : (l.drop 2).length = n - 2 := by rw [List.length_drop, hn]
        have HBad1 : Hid (nameB (nm (l.drop 2)) = false → errT l = 15) := Lib.hid (fun e => by rw [errT, hb1, if_neg (by simp), if_neg (fun q => q.2 hbl), if_neg (by omega), if_pos e])
        have HBad2 : Hid (nameB (nm (l.drop 2)) = true → (bh (l.drop 2)).length < 32 → errT l = 10) := Lib.hid (fun e e2 => by rw [errT, hb1, if_neg (by simp), if_neg (fun q => q.2 hbl), if_neg (by omega), if_neg (by rw [e]; simp), if_pos e2])
        have HGood : Hid (nameB (nm (l.drop 2)) = true → ¬ (bh (l.drop 2)).length < 32 → errT l = 0) := Lib.hid (fun e e2 => by rw [errT, hb1, if_neg (by simp), if_neg (fun q => q.2 hbl), if_neg (by omega), if_neg (by rw [e]; simp), if_neg e2])
        have hnm2 : (nm (l.drop 2)).length ≤ n := by
          rcases idx0_cases (l.drop 2) with ⟨_, e, _⟩ | ⟨m, _, _, e, _⟩
          · rw [e]; omega
          · rw [e, List.length_take]; omega
        obtain ⟨A', hA1⟩ : ∃ A', tlB (some ⟨b, o, none⟩) c 2 = A' := ⟨_, rfl⟩
        rw [hA1] at hA' hl' s1 hl0'
        have HLA := Lib.hid hl'
        have HLA0 := Lib.hid hl0'
        have HCut := Lib.hid (fun (w2 : World) g (f : Fr (fun _ => False) w w2) (hg : w2.cell? ⟨g, 0, none⟩ = some (.int .u8 0)) => GbCut_any A' hA' (c - 2) g (l.drop 2) (by omega) (by omega) w2 (hl'.fr f (fun _ _ e => e)) hg)
        have HCv : Hid (∀ w2, Fr (fun _ => False) w w2 → ∀ k1, (convert 25 9 (.slice A' (nm (l.drop 2)).length k1)).run Tryz.prog w2 = .ok (.string (strB (nm (l.drop 2)))) w2) := Lib.hid (fun w2 f k1 => run_convert_lies 25 9 5 Tryz.underlying25 Tryz.underlying5 Tryz.underlying9 (by
          have e : Lies w2 A' (bytesV (nm (l.drop 2))) := by
            rcases idx0_cases (l.drop 2) with ⟨_, e, _⟩ | ⟨m, _, _, e, _⟩
            · rw [e]; exact hl'.fr f (fun _ _ e => e)
            · rw [e]; exact (hl'.fr f (fun _ _ e => e)).takeB m
          exact e) k1)
        have cn := fun w => RtName_any (nm (l.drop 2)) (by omega) w
        rw [hln] at HCut
        obtain ⟨l2, hl2e⟩ : ∃ l2, l.drop 2 = l2 := ⟨_, rfl⟩
        rw [hl2e] at HBad1 HBad2 HGood HCut HCv cn HLA HLA0
        obtain ⟨d2, hd2⟩ : ∃ d, n - 2 = d := ⟨_, rfl⟩
        obtain ⟨c2, hc2⟩ : ∃ d, c - 2 = d := ⟨_, rfl⟩
        rw [hd2] at HCut s1
        rw [hc2] at HCut s1
        obtain ⟨N, hN⟩ : ∃ N, (nm l2).length = N := ⟨_, rfl⟩
        obtain ⟨B, hB⟩ : ∃ B, (bh l2).length = B := ⟨_, rfl⟩
        have HBn := Lib.hid hB
        rw [hN] at HCut HCv
        rw [hB] at HCut HBad2 HGood
        obtain ⟨S, hS⟩ : ∃ S, strB (nm l2) = S := ⟨_, rfl⟩
        have HSn := Lib.hid hS
        rw [hS] at HCv cn
        have HM := Lib.hid (show modeT l = modeT l from rfl)
        obtain ⟨m, hm'⟩ : ∃ m, modeT l = m := ⟨_, rfl⟩
        have HMn := Lib.hid hm'
        have HLe := Lib.hid hl2e
        rw [hm'] at cm wv2
        obtain ⟨F, hF⟩ : ∃ F, decide (0 ≤ idx0 l2) = F := ⟨_, rfl⟩
        rw [hF] at HCut
        rw [hn]
        clear hb1 hm hv hg0 hg1 h hcap hl hne hn hm' hA hbl hone hA' hl' hl0' hln hnm2 hA1 hl2e hd2 hc2 hN hB hS hF HM
        have HZ3 := HZ
        cases hb2 : nameB (nm l2) with
        | false =>
          have HE := Lib.hid (HBad1.out hb2)
          rw [hb2] at cn
          clear hb2
          go_enter Tryz.func147, Tryz.ntmps147
          go_wp2_with (
            (first
              | (refine wpList_store_at rfl 212 _ _ rfl w.heap.size 0 212 _ zeroE rfl rfl (HZ3.out) (by decide) size_ent (entV_all default) ?_; intro w6 hw6 hf6)
              | (go_at_call 160; refine (cm _).mono ?_; rintro e w' ⟨rfl, rfl⟩)
              | (go_at_call 162; refine (cn _).mono ?_; rintro e w' ⟨rfl, rfl⟩)
              | (go_at_call 161; refine (HCut.out _ w1.heap.size (HF1.out.alloc _) (by rw [(Whole.new w1 5 #[.int .u8 0]).cell]; rfl)).mono ?_
                 rintro e w3 ⟨⟨A2, k1, k2, rfl, hp2, hk2, hl2⟩, bb⟩
                 have HF3 := Lib.hid ((HF1.out.alloc _).then_below bb)
                 have HZ3 := Lib.hid (HZ.out.fr (((Fr.refl (fun _ => False) w1).alloc _).then_below bb) (fun e => e))
                 have HK2 := Lib.hid hk2
                 have HP2 := Lib.hid hp2
                 have HL2 := Lib.hid (hl2 w HLA.out)
                 have HL20 := Lib.hid (hl2 w0 HLA0.out)
                 have cv := HCv.out w3 HF3.out k1
                 clear hp2 hk2 hl2 bb)))
          rw [laidAt_all _ _ rfl] at hw6
          (
            refine bodyPost_ret (v := .tuple #[.agg zeroE, .slice none 0 0, .int .i64 15]) (results_cell_slots (p := 2) (u := 3) (v := 4) rfl _ _ _ _ _ _ rfl hw6 underE rfl size_ent) rfl ?_
            obtain ⟨e1, e2⟩ := took_bad (l := l) (by rw [HE.out]; decide)
            refine ⟨⟨none, 0, by rw [e1, e2, HE.out]; rfl, .inl rfl, by rw [e2]; exact Nat.le_refl _, by rw [e2]; exact .inl rfl⟩, ?_⟩)
          exact (HF3.out.trans hf6 (fun i hi e => by omega)).below (fun _ _ e => e)
        | true =>
          by_cases hB32 : B < 32
          · have HE := Lib.hid (HBad2.out hb2 hB32)
            have hBz : (B : Int) < 32 := by omega
            rw [hb2] at cn
            clear hb2 hB32
            go_enter Tryz.func147, Tryz.ntmps147
            go_wp2_with (
              (first
                | (refine wpList_store_at rfl 212 _ _ rfl w.heap.size 0 212 _ zeroE rfl rfl (HZ3.out) (by decide) size_ent (entV_all default) ?_; intro w6 hw6 hf6)
                | (go_at_call 160; refine (cm _).mono ?_; rintro e w' ⟨rfl, rfl⟩)
                | (go_at_call 162; refine (cn _).mono ?_; rintro e w' ⟨rfl, rfl⟩)
                | (go_at_call 161; refine (HCut.out _ w1.heap.size (HF1.out.alloc _) (by rw [(Whole.new w1 5 #[.int .u8 0]).cell]; rfl)).mono ?_
                   rintro e w3 ⟨⟨A2, k1, k2, rfl, hp2, hk2, hl2⟩, bb⟩
                   have HF3 := Lib.hid ((HF1.out.alloc _).then_below bb)
                   have HZ3 := Lib.hid (HZ.out.fr (((Fr.refl (fun _ => False) w1).alloc _).then_below bb) (fun e => e))
                   have HK2 := Lib.hid hk2
                   have HP2 := Lib.hid hp2
                   have HL2 := Lib.hid (hl2 w HLA.out)
                   have HL20 := Lib.hid (hl2 w0 HLA0.out)
                   have cv := HCv.out w3 HF3.out k1
                   clear hp2 hk2 hl2 bb)))
            rw [laidAt_all _ _ rfl] at hw6
            (
              refine bodyPost_ret (v := .tuple #[.agg zeroE, .slice none 0 0, .int .i64 10]) (results_cell_slots (p := 2) (u := 3) (v := 4) rfl _ _ _ _ _ _ rfl hw6 underE rfl size_ent) rfl ?_
              obtain ⟨e1, e2⟩ := took_bad (l := l) (by rw [HE.out]; decide)
              refine ⟨⟨none, 0, by rw [e1, e2, HE.out]; rfl, .inl rfl, by rw [e2]; exact Nat.le_refl _, by rw [e2]; exact .inl rfl⟩, ?_⟩)
            exact (HF3.out.trans hf6 (fun i hi e => by omega)).below (fun _ _ e => e)
          · have HE := Lib.hid (HGood.out hb2 hB32)
            have hBz : ¬ (B : Int) < 32 := by omega
            have HCC := Lib.hid (took_cells (l := l) HE.out (by rw [HLe.out]; exact hb2) (by rw [HLe.out, HBn.out]; exact hB32))
            rw [hb2] at cn
            clear hb2 hB32
            go_enter Tryz.func147, Tryz.ntmps147
            go_wp2_with (
              (first
                | (refine wpList_store_at rfl 212 _ _ rfl w.heap.size 0 212 _ zeroE rfl rfl (HZ3.out) (by decide) size_ent (entV_all default) ?_; intro w6 hw6 hf6)
                | (go_at_call 160; refine (cm _).mono ?_; rintro e w' ⟨rfl, rfl⟩)
                | (go_at_call 162; refine (cn _).mono ?_; rintro e w' ⟨rfl, rfl⟩)
                | (go_at_call 161; refine (HCut.out _ w1.heap.size (HF1.out.alloc _) (by rw [(Whole.new w1 5 #[.int .u8 0]).cell]; rfl)).mono ?_
                   rintro e w3 ⟨⟨A2, k1, k2, rfl, hp2, hk2, hl2⟩, bb⟩
                   have HF3 := Lib.hid ((HF1.out.alloc _).then_below bb)
                   have HZ3 := Lib.hid (HZ.out.fr (((Fr.refl (fun _ => False) w1).alloc _).then_below bb) (fun e => e))
                   have HK2 := Lib.hid hk2
                   have HP2 := Lib.hid hp2
                   have HL2 := Lib.hid (hl2 w HLA.out)
                   have HL20 := Lib.hid (hl2 w0 HLA0.out)
                   have cv := HCv.out w3 HF3.out k1
                   clear hp2 hk2 hl2 bb)))
            obtain ⟨b2, o2, rfl⟩ := HL2.out.someB (by rw [HBn.out]; omega)
            have s5 : ∀ w, (Instr.slice 25 (.slice (some ⟨b2, o2, none⟩) B k2) none (some (.int .i64 32)) none).run Tryz.prog w = .ok (.slice (some ⟨b2, o2, none⟩) 32 k2) w := fun w => slice_hdB _ HP2.out B k2 32 (by have := HK2.out; omega) w
            have p5 := fun w => arr_ptr (some ⟨b2, o2, none⟩) k2 w
            have cv5 : ∀ q : Later w, (convert 25 9 (.slice A' N k1)).run Tryz.prog q.w' = .ok (.string S) q.w' := fun q => HCv.out _ q.fr k1
            clear hw1
            refine wp_region_held (S := fun w' => ∃ q : Later w, w' = q.w') (by kernel_rfl) ?_
            (
              refine wpAnyH_take (i := 0) (v := .slice A' N k1) rfl (by kernel_rfl) (by kernel_rfl) (by kernel_rfl) (fun _ _ _ h => h) (.inl ⟨by rfl, ?_⟩) ⟨⟨_, HF3.out.drew⟩, rfl⟩ ?_
              · rintro _ ⟨q, rfl⟩
                go_simp)
            (
              refine wpAnyH_take (i := 1) (v := .string S) rfl (by kernel_rfl) (by kernel_rfl) (by kernel_rfl) (fun _ _ _ h => h) (.inl ⟨by rfl, ?_⟩) ⟨⟨_, HF3.out.drew⟩, rfl⟩ ?_
              · rintro _ ⟨q, rfl⟩
                go_simp)
            (
              refine wpAnyH_take (i := 2) (v := .int .i64 m) rfl (by kernel_rfl) (by kernel_rfl) (by kernel_rfl) (fun _ _ _ h => h) (.inl ⟨by rfl, ?_⟩) ⟨⟨_, HF3.out.drew⟩, rfl⟩ ?_
              · rintro _ ⟨q, rfl⟩
                go_simp)
            (
              refine wpAnyH_take (i := 3) (v := .slice (some ⟨b2, o2, none⟩) B k2) rfl (by kernel_rfl) (by kernel_rfl) (by kernel_rfl) (fun _ _ _ h => h) (.inl ⟨by rfl, ?_⟩) ⟨⟨_, HF3.out.drew⟩, rfl⟩ ?_
              · rintro _ ⟨q, rfl⟩
                go_simp)
            (
              refine wpAnyH_take (i := 4) (v := .slice (some ⟨b2, o2, none⟩) 32 k2) rfl (by kernel_rfl) (by kernel_rfl) (by kernel_rfl) (fun _ _ _ h => h) (.inl ⟨by rfl, ?_⟩) ⟨⟨_, HF3.out.drew⟩, rfl⟩ ?_
              · rintro _ ⟨q, rfl⟩
                go_simp)
            refine wpAnyH_all (rs := [5]) (by kernel_rfl) (by simp) ?_
            intro i hi
            simp only [List.mem_cons, List.not_mem_nil, or_false] at hi
            subst hi
            refine wpOp_step rfl (fun K hK => ?_)
            go_simp
            refine hK _ _ ⟨⟨⟨_, HF3.out.drew⟩, rfl⟩, ?_⟩
            clear hK K
            have hIl : ((bh l2).take 32).length = 32 := by have := HBn.out; rw [List.length_take]; omega
            have HRG : Hid (∀ q : Later w, q.w'.rangeAt b2 o2 (bytesV ((bh l2).take 32))) := Lib.hid (fun q j u hu => by
              rcases (HL2.out.takeB 32).fr q.fr (fun _ _ e => e) with e | ⟨b', o', e, hc⟩
              · rw [e] at hu; simp at hu
              · cases e; exact hc j u hu)
            have hcc := HCC.out
            rw [HLe.out, HSn.out, HMn.out] at hcc
            obtain ⟨I, hI⟩ : ∃ I, (bh l2).take 32 = I := ⟨_, rfl⟩
            rw [hI] at hIl HRG hcc
            have hbe := build_entry S m I hIl
            rw [← hcc] at hbe
            have hcs := entV_size (entTTr l)
            have hca := entV_all (entTTr l)
            obtain ⟨cx, hcx⟩ : ∃ cx, (entV (entTTr l)).toArray = cx := ⟨_, rfl⟩
            rw [hcx] at hbe hcs hca
            have HCX := Lib.hid hcx
            clear hcx hcc
            refine wpAnyH_take (i := 6) (v := .agg (bytesV I).toArray) rfl (by kernel_rfl) (by kernel_rfl) (by kernel_rfl) (fun _ _ _ h => h) (yieldsIf_load_mid (by kernel_rfl) 48 (.tmp 59) rfl b2 o2 (by kernel_rfl) (bytesV I) _ (by rintro _ ⟨q, rfl⟩; exact HRG.out q) Tryz.underlying48 rfl (by rw [bytesV_length, hIl]; exact size_id)) ⟨⟨_, HF3.out.drew⟩, rfl⟩ ?_
            refine wpAnyH_take (i := 7) (v := .agg cx) rfl (by kernel_rfl) (by kernel_rfl) (by kernel_rfl) (fun _ _ _ h => h) (yieldsIf_buildT (by kernel_rfl) 212 #[(0, .tmp 55), (1, .tmp 56), (2, .tmp 60)] rfl #[(0, .string S), (1, .int .i64 m), (2, .agg (bytesV I).toArray)] (by kernel_rfl) (.agg cx) hbe) ⟨⟨_, HF3.out.drew⟩, rfl⟩ ?_
            refine wpAnyH_all (rs := [8]) (by kernel_rfl) (by simp) ?_
            intro i hi
            simp only [List.mem_cons, List.not_mem_nil, or_false] at hi
            subst hi
            refine wpOp_step rfl (fun K hK => ?_)
            rw [if_pos (by kernel_rfl)]
            refine wp_store_at 212 (.tmp 2) (.tmp 61) rfl w.heap.size 0 212 zeroE cx (by kernel_rfl) (by kernel_rfl) (HZ3.out.fr ((Fr.refl (fun _ => False) _).drew) (fun e => e)) (by rw [zeroE_size, hcs]; exact Nat.le_refl _) (by rw [hcs]; exact size_ent) hca ?_
            intro w6 hw6 hf6
            rw [laidAt_all _ _ (by rw [zeroE_size, hcs])] at hw6
            have HF6 := Lib.hid (show Fr (fun _ => False) w w6 from HF3.out.drew.trans hf6 (fun i hi e => by omega))
            have HS6 := Lib.hid (show Fr (fun _ => False) w w6.drew ∧ Whole w6.drew w.heap.size 212 cx from ⟨HF6.out.drew, hw6.fr ((Fr.refl (fun _ => False) _).drew) (fun e => e)⟩)
            clear hf6 hw6
            go_simp
            refine hK _ _ ⟨⟨⟨_, HF6.out⟩, rfl⟩, ?_⟩
            clear hK K
            refine wpAnyH_done (by kernel_rfl) ?_ _
            have hB3 : 32 ≤ B := by omega
            have s6 : ∀ w, (Instr.slice 25 (.slice (some ⟨b2, o2, none⟩) B k2) (some (.int .i64 32)) none none).run Tryz.prog w = .ok (.slice (tlB (some ⟨b2, o2, none⟩) k2 32) (B - 32) (k2 - 32)) w := fun w => slice_tlBT _ B k2 32 hB3 w
            have HR : Hid (restT l = (bh l2).drop 32) := Lib.hid (by rw [restT, if_pos HE.out, HLe.out])
            have HRl : Hid ((restT l).length = B - 32) := Lib.hid (by rw [HR.out, List.length_drop, HBn.out])
            have HR3 : Hid (Lies w0 (tlB (some ⟨b2, o2, none⟩) k2 32) (bytesV (restT l))) := Lib.hid (by rw [HR.out]; exact HL20.out.tlB k2 32 (by have := HK2.out; have := HBn.out; omega))
            have HP3 := Lib.hid (HP2.out.tlB k2 32)
            have HK3 : Hid (B - 32 ≤ k2 - 32) := Lib.hid (by have := HK2.out; have := HBn.out; omega)
            obtain ⟨A3, hA3⟩ : ∃ A3, tlB (some ⟨b2, o2, none⟩) k2 32 = A3 := ⟨_, rfl⟩
            obtain ⟨B3, hB3'⟩ : ∃ B3, B - 32 = B3 := ⟨_, rfl⟩
            obtain ⟨k3, hk3⟩ : ∃ k3, k2 - 32 = k3 := ⟨_, rfl⟩
            rw [hA3, hB3', hk3] at s6
            rw [hA3] at HR3 HP3
            rw [hB3'] at HRl HK3
            rw [hk3] at HK3
            clear hA3 hB3' hk3 hB3
            go_wp2_with fail
            refine wp_region_held (S := fun w' => Fr (fun _ => False) w w' ∧ Whole w' w.heap.size 212 cx) (by kernel_rfl) ?_
            refine wpAnyH_take (i := 0) (v := .agg cx) rfl (by kernel_rfl) (by kernel_rfl) (by kernel_rfl) (fun _ _ _ h => h) (yieldsIf_load_cx (by kernel_rfl) (.tmp 2) rfl w.heap.size 0 (by kernel_rfl) cx hcs (fun w' hS j u hu => by rw [Nat.zero_add, hS.2.cell, ← Array.getElem?_toList]; exact hu)) HS6.out ?_
            (
              refine wpAnyH_take (i := 1) (v := .slice (some ⟨b2, o2, none⟩) B k2) rfl (by kernel_rfl) (by kernel_rfl) (by kernel_rfl) (fun _ _ _ h => h) (.inl ⟨by rfl, ?_⟩) HS6.out ?_
              · rintro w' _
                go_simp)
            (
              refine wpAnyH_take (i := 2) (v := .slice A3 B3 k3) rfl (by kernel_rfl) (by kernel_rfl) (by kernel_rfl) (fun _ _ _ h => h) (.inl ⟨by rfl, ?_⟩) HS6.out ?_
              · rintro w' _
                go_simp)
            refine wpAnyH_all (rs := [3]) (by kernel_rfl) (by simp) ?_
            intro i hi
            simp only [List.mem_cons, List.not_mem_nil, or_false] at hi
            subst hi
            refine wpOp_step rfl (fun K hK => ?_)
            rw [if_pos (by kernel_rfl)]
            refine wp_store_at 212 (.tmp 2) (.tmp 62) rfl w.heap.size 0 212 cx cx (by kernel_rfl) (by kernel_rfl) HS6.out.2 (by omega) (by rw [hcs]; exact size_ent) hca ?_
            intro w7 hw7 hf7
            rw [laidAt_all _ _ rfl] at hw7
            have HS7 := Lib.hid (show Fr (fun _ => False) w w7 ∧ Whole w7 w.heap.size 212 cx from ⟨HS6.out.1.trans hf7 (fun i hi e => by omega), hw7⟩)
            clear hf7 hw7
            go_simp
            refine hK _ _ ⟨HS7.out, ?_⟩
            clear hK K
            refine wpAnyH_all (rs := [4]) (by kernel_rfl) (by simp) ?_
            intro i hi
            simp only [List.mem_cons, List.not_mem_nil, or_false] at hi
            subst hi
            refine wpOp_step rfl (fun K hK => ?_)
            go_simp
            refine hK _ _ ⟨HS7.out, ?_⟩
            clear hK K
            refine wpAnyH_all (rs := [5]) (by kernel_rfl) (by simp) ?_
            intro i hi
            simp only [List.mem_cons, List.not_mem_nil, or_false] at hi
            subst hi
            refine wpOp_step rfl (fun K hK => ?_)
            go_simp
            refine hK _ _ ⟨HS7.out, ?_⟩
            clear hK K
            refine wpAnyH_done (by kernel_rfl) ?_ _
            go_wp2_with fail
            refine bodyPost_ret (v := .tuple #[.agg cx, .slice A3 B3 k3, .int .i64 0]) (results_cell_slots (p := 2) (u := 3) (v := 4) rfl _ _ _ _ _ _ rfl HS7.out.2 underE rfl (by rw [hcs]; exact size_ent)) rfl ?_
            exact ⟨⟨A3, k3, by rw [HCX.out, HRl.out, HE.out], HP3.out, by rw [HRl.out]; exact HK3.out, HR3.out⟩, HS7.out.1.below (fun _ _ e => e)⟩
      · have HE : Hid (errT l = 16) := Lib.hid (by rw [errT, hb1, if_neg (by simp), if_pos ⟨by omega, hbl⟩])
        have hu : ¬ (((l.getD 1 0).toNat : Nat) : Int) = 32 := fun e => hbl (UInt8.toNat_inj.1 (by show _ = 32; omega))
        obtain ⟨u, hu'⟩ : ∃ u : Nat, (l.getD 1 0).toNat = u := ⟨_, rfl⟩
        obtain ⟨m, hm'⟩ : ∃ m, modeT l = m := ⟨_, rfl⟩
        rw [hm'] at cm wv2
        rw [hu'] at hu c1
        rw [hn]
        clear hb1 hm hv hg0 hg1 h hcap hl hne hn hm' hA hbl hu' hone
        go_enter Tryz.func147, Tryz.ntmps147
        go_wp2_with (first
          | (refine wpList_store_at rfl 212 _ _ rfl w.heap.size 0 212 _ zeroE rfl rfl HZ.out (by decide) size_ent (entV_all default) ?_; intro w6 hw6 hf6)
          | (go_at_call 160; refine (cm _).mono ?_; rintro e w' ⟨rfl, rfl⟩))
        rw [laidAt_all _ _ rfl] at hw6
        (
          refine bodyPost_ret (v := .tuple #[.agg zeroE, .slice none 0 0, .int .i64 16]) (results_cell_slots (p := 2) (u := 3) (v := 4) rfl _ _ _ _ _ _ rfl hw6 underE rfl size_ent) rfl ?_
          obtain ⟨e1, e2⟩ := took_bad (l := l) (by rw [HE.out]; decide)
          refine ⟨⟨none, 0, by rw [e1, e2, HE.out]; rfl, .inl rfl, by rw [e2]; exact Nat.le_refl _, by rw [e2]; exact .inl rfl⟩, ?_⟩)
        exact (HF1.out.trans hf6 (fun i hi e => by omega)).below (fun _ _ e => e)
end Go.Proofs.YtkaeoflgnnlbeaaGreatDoor
/- What is proved: what bytes tell as entries, plain; entries out of bytes, by the program. Conditions: the bytes' cells are there. -/
namespace Go.Proofs.YtkaeoflgnnlbeaaGreatDoor
open Go.RowKit Go.Sort Go.Shelf
set_option linter.unusedVariables false
theorem restT_lt {l : List UInt8} (h0 : l ≠ []) (h : errT l = 0) : (restT l).length < l.length := by
  have h1 : 0 < l.length := List.length_pos_iff.2 h0
  rw [restT, if_pos h, bh, List.length_drop, List.length_drop, List.length_drop]
  omega
/-- The entries that bytes tell, behind others; or the error. -/
def getW (l : List UInt8) (es : List EntTr) : List EntTr × Int :=
  if h0 : l = [] then (if chk es = 0 then es else [], chk es) else if h : errT l = 0 then getW (restT l) (es ++ [entTTr l]) else ([], errT l)
termination_by l.length
decreasing_by exact restT_lt h0 h
theorem getW_nil (es : List EntTr) : getW [] es = (if chk es = 0 then es else [], chk es) := by rw [getW, dif_pos rfl]
theorem getW_bad {l : List UInt8} (es : List EntTr) (h0 : l ≠ []) (h : errT l ≠ 0) : getW l es = ([], errT l) := by rw [getW, dif_neg h0, dif_neg h]
theorem getW_step {l : List UInt8} (es : List EntTr) (h0 : l ≠ []) (h : errT l = 0) : getW l es = getW (restT l) (es ++ [entTTr l]) := by rw [getW, dif_neg h0, dif_pos h]
end Go.Proofs.YtkaeoflgnnlbeaaGreatDoor
/- What is proved: entries out of bytes, by the program. Conditions: the bytes' cells are there. -/
namespace Go.Proofs.YtkaeoflgnnlbeaaGreatDoor
open Go.RowKit Go.Sort Go.Shelf
set_option linter.unusedVariables false
set_option maxHeartbeats 6400000 in
set_option maxRecDepth 100000 in
theorem TGet_all (A : Option Addr) (c : Nat) (l0 : List UInt8) (hl : l0.length ≤ 100000) (hcap : l0.length ≤ c) (w : World) (h : Lies w A (bytesV l0)) :
    Calls Tryz.prog 130 #[.slice A l0.length c] w fun e w' => ∃ v, e = .returned (.tuple #[v, .int .i64 (getW l0 []).2]) ∧ OwnE w w' v (getW l0 []).1 := by
  obtain ⟨i0, hi, hz0, hz1, hz2⟩ := info_parts info_ent
  have hz3 := zeroE_cells
  obtain ⟨Z, hZ⟩ : ∃ Z, (entV default).toArray = Z := ⟨_, rfl⟩
  rw [hZ] at hz0 hz3
  have HL := Lib.hid h
  have HC := Lib.hid hcap
  obtain ⟨G, hG⟩ : ∃ G, getW l0 [] = G := ⟨_, rfl⟩
  have HG := Lib.hid hG
  obtain ⟨L, hL⟩ : ∃ L, l0.length = L := ⟨_, rfl⟩
  have HLn := Lib.hid hL
  rw [hL] at hl ⊢
  rw [hG]
  clear h hL hZ hcap hG
  go_enter Tryz.func130, Tryz.ntmps130
  go_wp2_with fail
  go_loopg [0, 4] L (fun kx s0 s4 wr => ∃ (l : List UInt8) (es : List EntTr) (A2 : Option Addr) (c2 : Nat), s0 = .slice A2 l.length c2 ∧ l.length ≤ c2 ∧ Lies w A2 (bytesV l) ∧ l.length ≤ kx ∧ es.length + l.length ≤ L ∧ OwnE w wr s4 es ∧ Hid (getW l es = G))
  case atStart => exact ⟨l0, [], A, c, by rw [HLn.out], HC.out, HL.out, by rw [HLn.out]; exact Nat.le_refl _, by rw [HLn.out]; simp, OwnE.nil (Fr.refl _ w), HG⟩
  case round =>
    obtain ⟨l, es, A2, c2, rfl, hk2, hl2, hlx, hsum, ho, HGW⟩ := hrel
    obtain ⟨wo, rfl⟩ : ∃ wo, wo = wr := ⟨wr, rfl⟩
    have HO := Lib.hid ho
    have HFo := Lib.hid ho.2
    by_cases hn0 : l = []
    · subst hn0
      obtain ⟨Ae, ce, rfl, hce, hcem, hAe, hle⟩ := HO.out.shape
      have HGN := Lib.hid ((getW_nil es).symm.trans HGW.out)
      have hm6 : es.length ≤ 100000 := by omega
      have cc := Lib.hid (TCheck_any Ae ce es hm6 wo hle)
      obtain ⟨r, hr⟩ : ∃ r, chk es = r := ⟨_, rfl⟩
      obtain ⟨m, hm⟩ : ∃ m, es.length = m := ⟨_, rfl⟩
      rw [hr] at HGN cc
      rw [hm] at cc HO ⊢
      clear hk2 hl2 hlx hsum ho hr hm hce hcem hAe hle hm6
      have hz : ¬ (0 : Int) < ((0 : Nat) : Int) := by omega
      by_cases hr0 : r = 0
      · subst hr0
        go_wp2_with (go_at_call 148; refine cc.out.mono ?_; rintro e w1 ⟨rfl, bb⟩; have HF0 := Lib.hid ((Fr.refl (fun _ => False) wo).then_below bb); clear bb)
        go_ret2
        exact ⟨_, by rw [← HGN.out]; rfl, by rw [← HGN.out]; exact HO.out.fr HF0.out⟩
      · have hrz : (r == 0) = false := by simp [hr0]
        go_wp2_with (go_at_call 148; refine cc.out.mono ?_; rintro e w1 ⟨rfl, bb⟩; have HF0 := Lib.hid ((Fr.refl (fun _ => False) wo).then_below bb); clear bb)
        go_ret2
        exact ⟨.slice none 0 0, by rw [← HGN.out]; rfl, by rw [← HGN.out, if_neg hr0]; exact OwnE.nil (HFo.out.trans HF0.out (fun _ _ e => e))⟩
    · have hpos : 0 < l.length := List.length_pos_iff.2 hn0
      have hp2 : Plain A2 := .inr (Lies.someB hl2 hpos)
      have HTk := Lib.hid (fun w2 (f : Fr (fun _ => False) w w2) => Ttake_any A2 hp2 c2 l (by omega) hk2 hpos w2 (hl2.fr f (fun _ _ e => e)) w hl2)
      have hcs := entV_size (entTTr l)
      have HCA := Lib.hid (entV_all (entTTr l))
      obtain ⟨cx, hcx⟩ : ∃ cx, (entV (entTTr l)).toArray = cx := ⟨_, rfl⟩
      have HCX := Lib.hid hcx
      obtain ⟨n, hn⟩ : ∃ n, l.length = n := ⟨_, rfl⟩
      rw [hcx] at hcs HCA HTk
      by_cases he : errT l = 0
      · have HG1 := Lib.hid ((getW_step es hn0 he).symm.trans HGW.out)
        have hlt := restT_lt hn0 he
        rw [he] at HTk
        obtain ⟨m, hm⟩ : ∃ m, es.length = m := ⟨_, rfl⟩
        have HMn := Lib.hid hm
        have hO1 := ho.1
        rw [hm] at hO1
        obtain ⟨d, hd⟩ : ∃ d, (restT l).length = d := ⟨_, rfl⟩
        have HD := Lib.hid hd
        have hnp : (0 : Int) < n := by omega
        rw [hd] at HTk hlt
        rw [hn] at HTk hlt hlx hsum ⊢
        rw [hm] at hsum
        clear hcx hp2 hk2 hl2 ho hn hn0 hpos hm hd he hO1
        go_wp2_with (first
          | (refine wpList_build_cx rfl (.tmp 22) rfl (entTTr l) cx HCX.out rfl ?_)
          | (at_builtin; refine wpList_append_row _ rfl (.tmp 21) (.tmp 23) 184 184 rfl w.heap.size 212 i0 (.agg Z) 34 56 Tryz.underlying184 hi hz0 hz1 hz2 hz3 _ m _ rfl ((by have := N0.out.1; rw [HMn.out] at this; exact this : w5.ownsRow w.heap.size 212 34 u4 m (flatE es)).alloc _) _ 1 (flatE [entTTr l]) rfl (src_cx34 _ (entTTr l) cx HCX.out) (by unfold maxLen; omega) (by omega) (by have := N0.out.2.size; simp; omega) ?_
             intro v2 w7 o2 g2 at2
             have N2 := Lib.hid (show OwnE w w7 v2 (es ++ [entTTr l]) from ⟨(by rw [flatE_append, List.length_append, HMn.out]; exact o2), fr_append (N0.out.1.alloc _) (N0.out.2.alloc _) g2⟩)
             clear o2 g2 at2)
          | (refine wpList_load_cx rfl (.tmp 5) rfl w3.heap.size 0 rfl cx hcs (fun j u hu => (by rw [Nat.zero_add, HW5.out.cell, ← Array.getElem?_toList]; exact hu)) ?_)
          | (
            (go_at_call 147
             refine (HTk.out _ HFo.out).mono ?_
             rintro e w3 ⟨⟨A3, c3, rfl, hp3, hk3, hl3⟩, bb⟩
             have HF3 := Lib.hid ((Fr.refl (fun _ => False) wo).then_below bb)
             have HP3 := Lib.hid hp3
             have HK3 := Lib.hid hk3
             have HL3 := Lib.hid hl3
             obtain ⟨w4, hw4⟩ : ∃ w4, w3.alloc (.cells zeroE 212) = w4 := ⟨_, rfl⟩
             have HZ := Lib.hid (show Whole w4 w3.heap.size 212 zeroE from (by subst hw4; exact Whole.new w3 212 zeroE))
             have HF4 := Lib.hid (show Fr (fun _ => False) w3 w4 from (by subst hw4; exact (Fr.refl _ w3).alloc _))
             unfold zeroE at hw4
             simp [List.replicate] at hw4
             clear hp3 hk3 hl3 bb)) | (
               (refine wpList_store_at rfl 212 _ _ rfl w3.heap.size 0 212 zeroE cx rfl rfl HZ.out (by rw [zeroE_size, hcs]; exact Nat.le_refl _) (by rw [hcs]; exact size_ent) HCA.out ?_
                intro w5 hw5 hf5
                rw [laidAt_all _ _ (by rw [zeroE_size, hcs])] at hw5
                have HW5 := Lib.hid hw5
                have HF5 := Lib.hid (show Fr (fun _ => False) wo w5 from (HF3.out.trans HF4.out (fun _ _ e => e)).trans hf5 (fun i hi e => by have := HF3.out.size; omega))
                have N0 := Lib.hid (HO.out.fr HF5.out)
                clear hw5 hf5)))
        go_roundg d
        case measure => omega
        case rel => exact ⟨restT l, es ++ [entTTr l], A3, c3, by rw [HD.out], by rw [HD.out]; exact HK3.out, HL3.out, by rw [HD.out]; exact Nat.le_refl _, by rw [List.length_append, HD.out, HMn.out, List.length_singleton]; omega, N2.out, HG1⟩
      · have HG1 := Lib.hid ((getW_bad es hn0 he).symm.trans HGW.out)
        obtain ⟨x, hx⟩ : ∃ x, errT l = x := ⟨_, rfl⟩
        rw [hx] at HG1 HTk he
        have hxz : (x == 0) = false := by simp [he]
        have hnp : (0 : Int) < n := by omega
        rw [hn] at HTk ⊢
        clear hx hcx hp2 hk2 hl2 ho hn hn0 hpos hlx
        go_wp2_with (first | (
          (go_at_call 147
           refine (HTk.out _ HFo.out).mono ?_
           rintro e w3 ⟨⟨A3, c3, rfl, hp3, hk3, hl3⟩, bb⟩
           have HF3 := Lib.hid ((Fr.refl (fun _ => False) wo).then_below bb)
           have HP3 := Lib.hid hp3
           have HK3 := Lib.hid hk3
           have HL3 := Lib.hid hl3
           obtain ⟨w4, hw4⟩ : ∃ w4, w3.alloc (.cells zeroE 212) = w4 := ⟨_, rfl⟩
           have HZ := Lib.hid (show Whole w4 w3.heap.size 212 zeroE from (by subst hw4; exact Whole.new w3 212 zeroE))
           have HF4 := Lib.hid (show Fr (fun _ => False) w3 w4 from (by subst hw4; exact (Fr.refl _ w3).alloc _))
           unfold zeroE at hw4
           simp [List.replicate] at hw4
           clear hp3 hk3 hl3 bb)) | (
             (refine wpList_store_at rfl 212 _ _ rfl w3.heap.size 0 212 zeroE cx rfl rfl HZ.out (by rw [zeroE_size, hcs]; exact Nat.le_refl _) (by rw [hcs]; exact size_ent) HCA.out ?_
              intro w5 hw5 hf5
              rw [laidAt_all _ _ (by rw [zeroE_size, hcs])] at hw5
              have HW5 := Lib.hid hw5
              have HF5 := Lib.hid (show Fr (fun _ => False) wo w5 from (HF3.out.trans HF4.out (fun _ _ e => e)).trans hf5 (fun i hi e => by have := HF3.out.size; omega))
              have N0 := Lib.hid (HO.out.fr HF5.out)
              clear hw5 hf5)))
        go_ret2
        exact ⟨.slice none 0 0, by rw [← HG1.out]; rfl, by rw [← HG1.out]; exact OwnE.nil (HFo.out.trans HF5.out (fun _ _ e => e))⟩
end Go.Proofs.YtkaeoflgnnlbeaaGreatDoor

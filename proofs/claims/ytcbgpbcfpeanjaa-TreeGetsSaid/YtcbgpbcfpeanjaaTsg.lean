/- What is proved: plain facts on where an entry's name ends; one cell of a block is stored. Conditions: none. -/
import Derived.Test.YtcbgpbcfpeanjaaTsf
namespace Go.Proofs.Ytcbgpbcfpeanjaa
open Go.RowKit Go.Sort Go.Shelf
set_option linter.unusedVariables false

theorem slice_mdB (A : Option Addr) (n c lo hi : Nat) (h1 : lo ≤ hi) (h2 : hi ≤ c) (w : World) : (Instr.slice 30 (.slice A n c) (some (.int .i64 lo)) (some (.int .i64 hi)) none).run Try.prog w = .ok (.slice (tlB A c lo) (hi - lo) (c - lo)) w := by
  have hs : (sizeOf (Try.prog.elem 30)).run Try.prog w = .ok 1 w := by kernel_rfl
  have ht : Try.prog.underlying 30 = some (.slice (Try.prog.elem 30)) := by kernel_rfl
  have e := run_slice_lh (P := Try.prog) w 30 A n c ht .i64 .i64 (lo : Int) (hi : Int) (by omega) (by omega) (by omega)
  rw [e, hs]
  simp [sliced, tlB]
theorem laidAt_one (cs : Array Value) (i : Nat) (v : Value) (h : i < cs.size) : laidAt cs i #[v] = cs.setIfInBounds i v := by
  apply Array.toList_inj.1
  simp only [laidAt, Array.toList_setIfInBounds, List.size_toArray, List.length_cons, List.length_nil]
  rw [List.set_eq_take_append_cons_drop, if_pos (by simpa using h)]
  simp
theorem run_store_one {P : Program} {w : World} (g o : Nat) (t ty : TypeId) (cs : Array Value) (v : Value) (hg : Whole w g t cs) (hfit : o < cs.size) (hi : (P.info? ty).map (·.size) = some 1) (hc : v.cells = #[v]) (h1 : v.oneCell' = true) :
    (storeVar ty ⟨g, o, none⟩ v).run P w = .ok () (w.setRow g (cs.setIfInBounds o v)) := by
  have := run_storeCells_at P g o t [v] 0 cs w hg (by simp; omega) (fun u hu => by rw [List.mem_singleton] at hu; rw [hu]; exact h1)
  rw [← laidAt_one cs o v hfit]
  cases hq : P.info? ty with
  | none => simp [hq] at hi
  | some i =>
    have hs : 1 = i.size := by simp [hq] at hi; omega
    simp only [Nat.add_zero] at this
    simp [storeVar, sizeOf, typeInfo, hq, hc, ← hs, this, laidAt]
theorem wpList_store_one {P : Program} {w : World} {ops : Array Oper} {rest : List Oper} {op : Oper} {a : Act} {Q : Exit → Act → World → Prop} (hgd : op.guard = none) (ty : TypeId) (x y : Operand) (ho : op.op = .store ty x y)
    (g o : Nat) (t : TypeId) (cs : Array Value) (v : Value) (hx : a.eval x = .pointer (some ⟨g, o, none⟩)) (hy : a.eval y = v) (hg : Whole w g t cs) (hfit : o < cs.size)
    (hi : (P.info? ty).map (·.size) = some 1) (hc : v.cells = #[v]) (h1 : v.oneCell' = true)
    (h : ∀ w', Whole w' g t (cs.setIfInBounds o v) → Fr (fun k => k = g) w w' → wpList P ops Q rest (a.put op.dst undef) w') : wpList P ops Q (op :: rest) a w :=
  wpList_plain hgd fun _ hK => by
    unfold Oper.wp execOp
    simp only [ho, hx, hy, Instr.storeAt, Instr.sureAddr, Sem.run_bind, Sem.run_pure, Result.andThen_ok, run_store_one g o t ty cs v hg hfit hi hc h1]
    exact hK _ _ (h _ (hg.laid _) (Fr.laid w g _))

theorem drop_get {l0 : List UInt8} (p j : Nat) (h : p + j < l0.length) : l0[p + j]? = some ((l0.drop p).getD j 0) := by
  rw [List.getD_eq_getElem?_getD, List.getElem?_drop, List.getElem?_eq_getElem h]; rfl
theorem at_end {l0 : List UInt8} {p e : Nat} (h1 : p + 2 ≤ e) (h2 : e ≤ l0.length) (h3 : ∀ j, p + 2 ≤ j → j < e → l0[j]? ≠ some 0) (h4 : e = l0.length ∨ l0[e]? = some 0) :
    nm ((l0.drop p).drop 2) = (l0.drop (p + 2)).take (e - (p + 2)) ∧ bh ((l0.drop p).drop 2) = l0.drop (e + 1) := by
  have e1 : nm ((l0.drop p).drop 2) = (l0.drop (p + 2)).take (e - (p + 2)) := by
    rw [List.drop_drop]
    refine nm_of (fun j hj => ?_) ?_
    · rw [List.getElem?_drop]; exact h3 _ (by omega) (by omega)
    · rcases h4 with h4 | h4
      · left; rw [List.length_drop]; omega
      · right; rw [List.getElem?_drop, show p + 2 + (e - (p + 2)) = e by omega]; exact h4
  refine ⟨e1, ?_⟩
  rw [bh, e1, List.length_take, List.length_drop, List.drop_drop, List.drop_drop]
  congr 1
  omega
theorem err_mode {l : List UInt8} (h : modeB (modeT l) = false) : errT l = 16 := by rw [errT, if_pos h]
theorem err_one {l : List UInt8} (h : modeB (modeT l) = true) (h1 : l.length = 1) : errT l = 10 := by rw [errT, h, if_neg (by simp), if_neg (by omega), if_pos h1]
theorem err_blank {l : List UInt8} (h : modeB (modeT l) = true) (h1 : 1 < l.length) (h2 : l.getD 1 0 ≠ 32) : errT l = 16 := by rw [errT, h, if_neg (by simp), if_pos ⟨h1, h2⟩]
theorem err_name {l : List UInt8} (h : modeB (modeT l) = true) (h1 : 1 < l.length) (h2 : l.getD 1 0 = 32) (h3 : nameB (nm (l.drop 2)) = false) : errT l = 15 := by rw [errT, h, if_neg (by simp), if_neg (fun q => q.2 h2), if_neg (by omega), if_pos h3]
theorem err_end {l : List UInt8} (h : modeB (modeT l) = true) (h1 : 1 < l.length) (h2 : l.getD 1 0 = 32) (h3 : nameB (nm (l.drop 2)) = true) (h4 : (bh (l.drop 2)).length < 32) : errT l = 10 := by rw [errT, h, if_neg (by simp), if_neg (fun q => q.2 h2), if_neg (by omega), if_neg (by rw [h3]; simp), if_pos h4]
theorem err_ok {l : List UInt8} (h : modeB (modeT l) = true) (h1 : 1 < l.length) (h2 : l.getD 1 0 = 32) (h3 : nameB (nm (l.drop 2)) = true) (h4 : ¬ (bh (l.drop 2)).length < 32) : errT l = 0 := by rw [errT, h, if_neg (by simp), if_neg (fun q => q.2 h2), if_neg (by omega), if_neg (by rw [h3]; simp), if_neg h4]
theorem idTo_zero (m : Int) (id : List UInt8) : idTo (ByteArray.mk #[]) m id 0 = (.string (ByteArray.mk #[]) :: .int .i64 m :: bytesV (List.replicate 32 0)).toArray := by simp [idTo]
theorem idTo_named (S T : ByteArray) (m : Int) (id : List UInt8) (k : Nat) : (idTo S m id k).setIfInBounds 0 (.string T) = idTo T m id k := by simp [idTo]
theorem idTo_one (S : ByteArray) (m : Int) (id : List UInt8) (k : Nat) : (idTo S m id k).all (·.oneCell') = true := by
  rw [Array.all_eq_true_iff_forall_mem]
  intro v hv
  simp only [idTo, List.mem_toArray, List.mem_cons] at hv
  rcases hv with rfl | rfl | hv
  · rfl
  · rfl
  · exact bytesV_one _ _ hv
theorem build_mode (m : Int) (w : World) : (Instr.build 45 #[(1, .int .i64 m)]).run Try.prog w = .ok (.agg (.string (ByteArray.mk #[]) :: .int .i64 m :: bytesV (List.replicate 32 0)).toArray) w := by kernel_rfl
theorem size_str1 : (Try.prog.info? 9).map (·.size) = some 1 := by kernel_rfl
theorem size_u81 : (Try.prog.info? 5).map (·.size) = some 1 := by kernel_rfl
theorem entT_cells {l : List UInt8} (h : errT l = 0) (hn : nameB (nm (l.drop 2)) = true) (hb : ¬ (bh (l.drop 2)).length < 32) : (entV (entT l)).toArray = idTo (strB (nm (l.drop 2))) (modeT l) ((bh (l.drop 2)).take 32) 32 := by
  rw [took_cells h hn hb, idTo_all _ _ _ (by rw [List.length_take]; omega)]
end Go.Proofs.Ytcbgpbcfpeanjaa

/- What is proved: one ref is put into a row of the call's own, by the library. Conditions: the row is the call's own, the ref lies elsewhere. -/
import Derived.Test.YtoakbdmfoepdgaaDoorRgb
namespace Go.Proofs.YtoakbdmfoepdgaaDoor
open Go.RowKit Go.Sort Go.Shelf
set_option linter.unusedVariables false

theorem wpList_append_to {P : Program} {w : World} {ops : Array Oper} {rest : List Oper} {o : Oper} {a : Act} {Q : Exit → Act → World → Prop} (hgd : o.guard = none) (s x : Operand) (t tx : TypeId)
    (ho : o.op = .call { callee := .builtin .append, args := #[s, x], argTypes := #[t, tx] }) (u y v : Value) (w' : World) (hs : a.eval s = u) (hx : a.eval x = y) (hrun : ∀ ty, (Builtin.append_ #[t, tx] ty #[u, y]).run P w = .ok v w')
    (h : wpList P ops Q rest (a.put o.dst v) w') : wpList P ops Q (o :: rest) a w :=
  wpList_plain hgd fun K hK => by
    unfold Oper.wp execOp
    simp only [ho, resolve, invoke, builtin, Sem.run_bind, Sem.run_pure, Result.andThen_ok, List.map_toArray, List.map_cons, List.map_nil, hs, hx, hrun]
    exact hK _ _ h

set_option maxHeartbeats 3200000 in
set_option maxRecDepth 100000 in
/-- At the end. -/
theorem GrInsert_end (w0 : World) (A : Option Addr) (n c : Nat) (l : List Rf) (x : Rf) (gb : Nat) (hn : l.length ≤ 1000) (w : World) (h : OwnR w0 w (.slice A n c) l) (hb : Whole w gb 50 (refV x).toArray) :
    Calls Tryd.prog 41 #[.slice A n c, .int .i64 n, .slice (some ⟨gb, 0, none⟩) 1 1] w fun e w' => ∃ v, e = .returned v ∧ OwnR w0 w' v (l ++ [x]) := by
  obtain ⟨i0, hi, hz0, hz1, hz2⟩ := info_parts info_ref
  have hz3 := zeroR_cells
  obtain ⟨Z, hZ⟩ : ∃ Z, (refV default).toArray = Z := ⟨_, rfl⟩
  rw [hZ] at hz0 hz3
  have HOw := Lib.hid h
  obtain ⟨A', c', hv, hnc, hcm, -, -⟩ := h.slice
  injection hv with e1 e2 e3
  subst e1; subst e3
  have HNl := Lib.hid e2
  have hn1 : n ≤ 1000 := by omega
  have HSrc : Hid (Src Tryd.prog 33 22 (.slice (some ⟨gb, 0, none⟩) 1 1) 1 (flatR [x]) w) := Lib.hid (Lies.src33 (l := [x]) (by rw [flatR_one1]; exact Lies.of_whole hb) rfl 1)
  have s1 : ∀ w, (Instr.slice 22 (.slice A n c) (some (.int .i64 n)) none none).run Tryd.prog w = .ok (.slice (tlR A c n) (n - n) (c - n)) w := fun w => slice_tlR A n c n (Nat.le_refl _) w
  obtain ⟨A1, hA1⟩ : ∃ A1, tlR A c n = A1 := ⟨_, rfl⟩
  rw [hA1] at s1
  have HBase : Hid (w0.heap.size ≤ w.heap.size) := Lib.hid h.2.size
  clear h hb hnc hcm hZ hA1 e2
  go_enter Tryd.func41, Tryd.ntmps41
  go_wp2_with (first
    | (at_builtin; refine wpList_append_row _ rfl (.tmp 23) (.tmp 24) 22 22 rfl w0.heap.size 50 i0 (.agg Z) 33 48 Tryd.underlying22 hi hz0 hz1 hz2 hz3 (.slice A n c) n (flatR l) rfl (by have := HOw.out.1; rw [← HNl.out] at this; exact this) (.slice (some ⟨gb, 0, none⟩) 1 1) 1 (flatR [x]) rfl HSrc.out (by unfold maxLen; omega) (by omega) HBase.out ?_
       intro v' w4 o1 g1 at1
       have HO4 := Lib.hid (HOw.out.grow (ks := l ++ [x]) rfl HNl.out rfl o1 g1)
       clear o1 g1 at1))
  go_ret
  exact ⟨_, rfl, HO4.out⟩
end Go.Proofs.YtoakbdmfoepdgaaDoor

/- What is proved: what the walks of this seat need of layers below, merged out of the texts Tro Trp Trq Trr Trs (of each just what is needed). Conditions: each theorem names its own. -/
import Derived.Deep.CutBlock
import Derived.Test.YtinjednmamkjgaaBm
set_option maxRecDepth 100000
/- What is proved: whether entries may be a tree, by the document. Conditions: the list's cells are there. -/
namespace Go.Proofs.Ytinjednmamkjgaa
open Go.RowKit Go.Sort Go.Shelf
set_option linter.unusedVariables false
theorem lt_str (x y : List UInt8) : Op.bytesLess (strB x).toList (strB y).toList = ltB x y := by rw [strB_list, strB_list]; rfl
end Go.Proofs.Ytinjednmamkjgaa
/- What is proved: pieces of lists of entries; a list put in order by the document: one after another into its place. Conditions: the list's cells are there. -/
namespace Go.Proofs.Ytinjednmamkjgaa
open Go.RowKit Go.Sort Go.Shelf
set_option linter.unusedVariables false
theorem Lies.take {w : World} {A : Option Addr} {xs : List Value} (h : Lies w A xs) (m : Nat) : Lies w A (xs.take m) := by
  rcases h with rfl | ⟨b, o, rfl, hc⟩
  · exact .inl (by simp)
  · refine .inr ⟨b, o, rfl, fun j u hu => hc j u ?_⟩
    rw [List.getElem?_take] at hu
    split at hu
    · exact hu
    · simp at hu
/-- Where the rest of a list lies. -/
def tlE (A : Option Addr) (c m : Nat) : Option Addr := if c = m then A else A.map (·.add (m * 34))
theorem Lies.tlE {w : World} {A : Option Addr} {es : List Ent} (h : Lies w A (flatE es)) (c m : Nat) (hc : es.length ≤ c) : Lies w (tlE A c m) (flatE (es.drop m)) := by
  unfold Proofs.Ytinjednmamkjgaa.tlE
  split
  · rename_i e
    have hd : es.drop m = [] := List.drop_of_length_le (by omega)
    rw [hd]
    exact .inl rfl
  · rcases h with h | ⟨b, o, rfl, hcl⟩
    · have : es = [] := by
        have := flatE_len es
        rw [h] at this
        simp at this
        exact List.eq_nil_of_length_eq_zero (by omega)
      subst this
      exact .inl (by simp [flatE])
    · refine .inr ⟨b, o + m * 34, by simp [add_off], fun j u hu => ?_⟩
      rw [flatE_drop, List.getElem?_drop] at hu
      rw [Nat.add_assoc]
      exact hcl _ _ hu
theorem slice_hdE (A : Option Addr) (hA : A = none ∨ ∃ b o, A = some ⟨b, o, none⟩) (n c m : Nat) (h : m ≤ c) (w : World) : (Instr.slice 22 (.slice A n c) none (some (.int .i64 m)) none).run Try.prog w = .ok (.slice A m c) w := by
  have hs : (sizeOf (Try.prog.elem 22)).run Try.prog w = .ok 34 w := by kernel_rfl
  have ht : Try.prog.underlying 22 = some (.slice (Try.prog.elem 22)) := by kernel_rfl
  have e := run_slice_h (P := Try.prog) w 22 A n c ht .i64 (m : Int) (by omega) (by omega)
  rw [e, hs]
  rcases hA with rfl | ⟨b, o, rfl⟩
  · simp [sliced]
  · simp [sliced, add_off]
theorem slice_tlE (A : Option Addr) (n c m : Nat) (h : m ≤ n) (w : World) : (Instr.slice 22 (.slice A n c) (some (.int .i64 m)) none none).run Try.prog w = .ok (.slice (tlE A c m) (n - m) (c - m)) w := by
  have hs : (sizeOf (Try.prog.elem 22)).run Try.prog w = .ok 34 w := by kernel_rfl
  have ht : Try.prog.underlying 22 = some (.slice (Try.prog.elem 22)) := by kernel_rfl
  have e := run_slice_l (P := Try.prog) w 22 A n c ht .i64 (m : Int) (by omega) (by omega)
  rw [e, hs]
  simp [sliced, tlE]
/-- A list of one entry, made by the call. -/
theorem build_ent (e : Ent) (w : World) : (Instr.buildSlice 22 1 #[(0, .agg (entV e).toArray)]).run Try.prog w = .ok (.slice (some ⟨w.heap.size, 0, none⟩) 1 1) (w.alloc (.cells (entV e).toArray 27)) := by
  obtain ⟨nm, md, id, hn, hm, hi⟩ := e
  rcases id with _ | ⟨i0, _ | ⟨i1, _ | ⟨i2, _ | ⟨i3, _ | ⟨i4, _ | ⟨i5, _ | ⟨i6, _ | ⟨i7, _ | ⟨i8, _ | ⟨i9, _ | ⟨i10, _ | ⟨i11, _ | ⟨i12, _ | ⟨i13, _ | ⟨i14, _ | ⟨i15, _ | ⟨i16, _ | ⟨i17, _ | ⟨i18, _ | ⟨i19, _ | ⟨i20, _ | ⟨i21, _ | ⟨i22, _ | ⟨i23, _ | ⟨i24, _ | ⟨i25, _ | ⟨i26, _ | ⟨i27, _ | ⟨i28, _ | ⟨i29, _ | ⟨i30, _ | ⟨i31, _ | ⟨i32, id⟩⟩⟩⟩⟩⟩⟩⟩⟩⟩⟩⟩⟩⟩⟩⟩⟩⟩⟩⟩⟩⟩⟩⟩⟩⟩⟩⟩⟩⟩⟩⟩⟩
  all_goals first | (simp only [List.length_cons, List.length_nil] at hi; omega) | kernel_rfl
theorem wpList_build_cx {ops : Array Oper} {rest : List Oper} {o : Oper} {a : Act} {w : World} {Q : Exit → Act → World → Prop} (hgd : o.guard = none) (x : Operand) (ho : o.op = .buildSlice 22 1 #[(0, x)])
    (e : Ent) (cx : Array Value) (hc : (entV e).toArray = cx) (hx : a.eval x = .agg cx) (h : wpList Try.prog ops Q rest (a.put o.dst (.slice (some ⟨w.heap.size, 0, none⟩) 1 1)) (w.alloc (.cells cx 27))) : wpList Try.prog ops Q (o :: rest) a w := by
  subst hc
  exact wpList_plain hgd fun K hK => by
    unfold Oper.wp execOp
    have e : (#[((0 : Nat), x)].map fun (i, y) => (i, a.eval y)) = #[(0, .agg (entV e).toArray)] := by simp [hx]
    simp only [ho, e, Sem.run_bind, build_ent, Result.andThen_ok, Sem.run_pure]
    exact hK _ _ h
theorem src_cx34 (w : World) (e : Ent) (cx : Array Value) (hc : (entV e).toArray = cx) : Src Try.prog 34 22 (.slice (some ⟨w.heap.size, 0, none⟩) 1 1) 1 (flatE [e]) (w.alloc (.cells cx 27)) := by
  subst hc
  refine Lies.src34 (es := [e]) (.inr ⟨w.heap.size, 0, rfl, fun j u hu => ?_⟩) rfl 1
  rw [Nat.zero_add, (Whole.new w 27 (entV e).toArray).cell]
  simpa [flatE] using hu
theorem range_cx {w w' : World} {b o : Nat} {es : List Ent} {i : Nat} {e : Ent} (cx : Array Value) (hc : (entV e).toArray = cx) (h : Lies w (some ⟨b, o, none⟩) (flatE es)) (hi : es[i]? = some e) (f : Fr (fun _ => False) w w') : w'.rangeAt b (o + i * 34) cx.toList := by
  subst hc
  exact fun j v hv => cell_ent h hi f j v hv
theorem wpList_load_cx {ops : Array Oper} {rest : List Oper} {op : Oper} {a : Act} {w : World} {Q : Exit → Act → World → Prop} (hgd : op.guard = none) (x : Operand) (ho : op.op = .load 27 x)
    (b o : Nat) (hx : a.eval x = .pointer (some ⟨b, o, none⟩)) (cx : Array Value) (hs : cx.size = 34) (hc : w.rangeAt b o cx.toList)
    (h : wpList Try.prog ops Q rest (a.put op.dst (.agg cx)) w) : wpList Try.prog ops Q (op :: rest) a w :=
  wpList_load_mid hgd 27 x ho b o hx cx.toList _ hc underE rfl (by rw [Array.length_toList, hs]; exact size_ent) (by rw [Array.toArray_toList]; exact h)
theorem first_facts (w W w4 : World) (v1 : Value) (a : Nat) (xs : List Value) (f : Fr (fun _ => False) w W) (o1 : w4.ownsRow w.heap.size 27 34 v1 (0 + a) ([] ++ xs)) (g1 : W.grownBy w4 (Value.slice none 0 0).ownBlock) (at1 : v1.ownBlock = (Value.slice none 0 0).ownBlock ∨ v1.ownBlock = some W.heap.size) :
    (w4.ownsRow w.heap.size 27 34 v1 a xs ∧ Fr (fun _ => False) w w4) ∧ Fr (fun _ => False) W w4 ∧ (∀ j, v1.ownBlock = some j → W.heap.size ≤ j) := by
  refine ⟨⟨by simpa using o1, fr_append (World.ownsRow_nil W w.heap.size 27 34) f g1⟩, (Fr.refl (fun _ => False) W).grown g1 (fun j hj => by simp [Value.ownBlock] at hj), fun j hj => ?_⟩
  rcases at1 with e | e
  · rw [hj] at e; simp [Value.ownBlock] at e
  · rw [hj] at e; injection e with e; omega
theorem second_facts (w W w4 w5 : World) (v1 v2 : Value) (x : Ent) (a : Nat) (l : List Ent) (A : Option Addr) (c : Nat) (r : List Ent)
    (n1 : (w4.ownsRow w.heap.size 27 34 v1 a (flatE l) ∧ Fr (fun _ => False) w w4) ∧ Fr (fun _ => False) W w4 ∧ (∀ j, v1.ownBlock = some j → W.heap.size ≤ j)) (hl : Lies W (tlE A c a) (flatE r))
    (o2 : w5.ownsRow w.heap.size 27 34 v2 (a + 1) (flatE l ++ flatE [x])) (cx : Array Value) (g2 : (w4.alloc (.cells cx 27)).grownBy w5 v1.ownBlock) :
    (w5.ownsRow w.heap.size 27 34 v2 (a + 1) (flatE (l ++ [x])) ∧ Fr (fun _ => False) w w5) ∧ Lies w5 (tlE A c a) (flatE r) := by
  refine ⟨⟨by rw [flatE_append]; exact o2, fr_append (n1.1.1.alloc _) (n1.1.2.alloc _) g2⟩, hl.fr ((n1.2.1.alloc _).grown g2 (fun j hj hlt => ?_)) (fun _ _ e => e)⟩
  have := n1.2.2 j hj
  omega
theorem OwnE.shape {w0 w : World} {v : Value} {es : List Ent} (h : OwnE w0 w v es) : ∃ A c, v = .slice A es.length c ∧ es.length ≤ c ∧ c ≤ maxLen ∧ (A = none ∨ ∃ b o, A = some ⟨b, o, none⟩) ∧ Lies w A (flatE es) := by
  obtain ⟨A, c, hv, h1, h2, h3, _⟩ := h.slice
  refine ⟨A, c, hv, h1, h2, ?_, h3⟩
  rcases own_shape h.1 with ⟨hn, _, _⟩ | ⟨g, cap, hn, _⟩
  · rw [hn] at hv; injection hv with hv; exact .inl hv.symm
  · rw [hn] at hv; injection hv with hv; exact .inr ⟨g, 0, hv.symm⟩
theorem ents_snoc (es : List Ent) (k : Nat) (h : k < es.length) : es.take (k + 1) = es.take k ++ [es[k]!] := by
  rw [List.take_add_one, some_of_mem h]; rfl
end Go.Proofs.Ytinjednmamkjgaa
/- What is proved: works, the example of the laws, is true; the law TreeChecks is true of all lists. Conditions: the list's cells are there. -/
namespace Go.Proofs.Ytinjednmamkjgaa
open Go.RowKit Go.Sort Go.Shelf
set_option linter.unusedVariables false
theorem wpList_build_to {P : Program} {ops : Array Oper} {rest : List Oper} {o : Oper} {a : Act} {w : World} {Q : Exit → Act → World → Prop} (hgd : o.guard = none) (t : TypeId) (parts : Array (Nat × Operand)) (ho : o.op = .build t parts)
    (vals : Array (Nat × Value)) (hvals : (parts.map fun (i, x) => (i, a.eval x)) = vals) (v : Value) (hv : (Instr.build t vals).run P w = .ok v w) (h : wpList P ops Q rest (a.put o.dst v) w) : wpList P ops Q (o :: rest) a w :=
  wpList_plain hgd fun K hK => by
    unfold Oper.wp execOp
    simp only [ho, hvals, Sem.run_bind, hv, Result.andThen_ok, Sem.run_pure]
    exact hK _ _ h
theorem wpList_buildSlice_to {P : Program} {ops : Array Oper} {rest : List Oper} {o : Oper} {a : Act} {w : World} {Q : Exit → Act → World → Prop} (hgd : o.guard = none) (t : TypeId) (n : Nat) (parts : Array (Nat × Operand)) (ho : o.op = .buildSlice t n parts)
    (vals : Array (Nat × Value)) (hvals : (parts.map fun (i, x) => (i, a.eval x)) = vals) (v : Value) (w' : World) (hv : (Instr.buildSlice t n vals).run P w = .ok v w') (h : wpList P ops Q rest (a.put o.dst v) w') : wpList P ops Q (o :: rest) a w :=
  wpList_plain hgd fun K hK => by
    unfold Oper.wp execOp
    simp only [ho, hvals, Sem.run_bind, hv, Result.andThen_ok, Sem.run_pure]
    exact hK _ _ h
def exA : Ent := ⟨[97], 3, List.replicate 32 0, by decide, by decide, by decide⟩
def exA0 : Ent := ⟨[97, 48], 1, List.replicate 32 0, by decide, by decide, by decide⟩
def exAb : Ent := ⟨[97, 46, 98], 1, List.replicate 32 0, by decide, by decide, by decide⟩
theorem ex_sorted : srt (ltOf keyCmp) [exA, exA0, exAb] = [exAb, exA, exA0] := by kernel_rfl
theorem ex_chk : chk [exAb, exA, exA0] = 0 := by kernel_rfl
theorem ex_build (w : World) : (Instr.build 27 #[(0, .string ⟨#[97]⟩), (1, .int .i64 3)]).run Try.prog w = .ok (.agg (entV exA).toArray) w := by kernel_rfl
theorem ex_build0 (w : World) : (Instr.build 27 #[(0, .string ⟨#[97, 48]⟩), (1, .int .i64 1)]).run Try.prog w = .ok (.agg (entV exA0).toArray) w := by kernel_rfl
theorem ex_buildb (w : World) : (Instr.build 27 #[(0, .string ⟨#[97, 46, 98]⟩), (1, .int .i64 1)]).run Try.prog w = .ok (.agg (entV exAb).toArray) w := by kernel_rfl
theorem ex_slice (w : World) : (Instr.buildSlice 22 3 #[(0, .agg (entV exA).toArray), (1, .agg (entV exA0).toArray), (2, .agg (entV exAb).toArray)]).run Try.prog w = .ok (.slice (some ⟨w.heap.size, 0, none⟩) 3 3) (w.alloc (.cells (flatE [exA, exA0, exAb]).toArray 27)) := by kernel_rfl
theorem Lies.of_whole {w : World} {g : Nat} {t : TypeId} {xs : List Value} (h : Whole w g t xs.toArray) : Lies w (some ⟨g, 0, none⟩) xs :=
  .inr ⟨g, 0, rfl, fun j u hu => by rw [Nat.zero_add, h.cell, List.getElem?_toArray]; exact hu⟩
set_option maxHeartbeats 3200000 in
set_option maxRecDepth 100000 in
theorem works6_any (w : World) : Calls Try.prog 4 #[] w fun e w' => e = .returned (.bool true) ∧ Below w.heap.size w w' := by
  have hS := fun w1 g h => TSorted_any (some ⟨g, 0, none⟩) 3 [exA, exA0, exAb] (by decide) w1 h
  rw [ex_sorted] at hS
  have hC := fun w1 A c h => TCheck_any A c [exAb, exA, exA0] (by decide) w1 h
  rw [ex_chk] at hC
  have b1 := ex_build
  have b2 := ex_build0
  have b3 := ex_buildb
  have b4 := ex_slice
  have hl : ∀ (w : World), Lies (w.alloc (.cells (flatE [exA, exA0, exAb]).toArray 27)) (some ⟨w.heap.size, 0, none⟩) (flatE [exA, exA0, exAb]) := fun w => Lies.of_whole (Whole.new w 27 _)
  obtain ⟨c1, hc1⟩ : ∃ c, (entV exA).toArray = c := ⟨_, rfl⟩
  obtain ⟨c2, hc2⟩ : ∃ c, (entV exA0).toArray = c := ⟨_, rfl⟩
  obtain ⟨c3, hc3⟩ : ∃ c, (entV exAb).toArray = c := ⟨_, rfl⟩
  obtain ⟨F, hF⟩ : ∃ F, flatE [exA, exA0, exAb] = F := ⟨_, rfl⟩
  rw [hc1] at b1 b4
  rw [hc2] at b2 b4
  rw [hc3] at b3 b4
  rw [hF] at b4 hl hS
  have B1 := Lib.hid b1
  have B2 := Lib.hid b2
  have B3 := Lib.hid b3
  have B4 := Lib.hid b4
  have HS := Lib.hid hS
  have HC := Lib.hid hC
  have HL := Lib.hid hl
  clear b1 b2 b3 b4 hS hC hl hc1 hc2 hc3 hF
  go_enter Try.func4, Try.ntmps4
  go_wp2_with (first
    | (have _ := M2; refine wpList_build_to rfl 27 _ rfl #[(0, .string ⟨#[97, 46, 98]⟩), (1, .int .i64 1)] (by first | rfl | simp [Act.eval]) (.agg c3) (B3.out _) ?_)
    | (have _ := M1; refine wpList_build_to rfl 27 _ rfl #[(0, .string ⟨#[97, 48]⟩), (1, .int .i64 1)] (by first | rfl | simp [Act.eval]) (.agg c2) (B2.out _) ?_; have M2 := True.intro)
    | (refine wpList_build_to rfl 27 _ rfl #[(0, .string ⟨#[97]⟩), (1, .int .i64 3)] (by first | rfl | simp [Act.eval]) (.agg c1) (B1.out _) ?_; have M1 := True.intro)
    | (refine wpList_buildSlice_to rfl 22 3 _ rfl #[(0, .agg c1), (1, .agg c2), (2, .agg c3)] (by simp [Act.eval, Act.put]) _ _ (B4.out _) ?_)
    | (go_at_call 9
       refine (HS.out _ _ (HL.out w)).mono ?_
       rintro e w2 ⟨v, rfl, ho⟩
       obtain ⟨A, c, rfl, hlc, hcm, hA, hli⟩ := ho.shape
       have hF2 := Lib.hid ho.2
       obtain ⟨b, o, rfl⟩ := hli.someE (by decide)
       have d0 : w2.cell? ⟨b, o, none⟩ = some (.string { data := #[97, 46, 98] }) := (by have := name_at hli (i := 0) rfl (Fr.refl _ _); rwa [Nat.zero_mul, Nat.add_zero] at this)
       have d1 : w2.cell? ⟨b, o + 34, none⟩ = some (.string { data := #[97] }) := (by have := name_at hli (i := 1) rfl (Fr.refl _ _); rwa [Nat.one_mul] at this)
       have d2 : w2.cell? ⟨b, o + 68, none⟩ = some (.string { data := #[97, 48] }) := name_at hli (i := 2) rfl (Fr.refl _ _)
       have HCC := Lib.hid (HC.out w2 (some ⟨b, o, none⟩) c hli)
       clear ho hli hA
       simp only [List.length_cons, List.length_nil, Nat.zero_add, Nat.reduceAdd])
    | (go_at_call 10; refine HCC.out.mono ?_; rintro e w3 ⟨rfl, bb⟩))
  go_ret
  exact ⟨rfl, ((((Fr.refl (fun _ => False) w).alloc _).trans hF2.out (fun _ _ e => e)).then_below bb).below (fun _ _ e => e)⟩
end Go.Proofs.Ytinjednmamkjgaa

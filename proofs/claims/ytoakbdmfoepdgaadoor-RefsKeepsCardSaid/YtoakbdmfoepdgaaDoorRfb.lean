/- What is proved: refs in memory: a ref's cells, refs in a row, two refs held against one another whole, lists of the call's own. Conditions: none. -/
import Derived.Test.YtoakbdmfoepdgaaDoorRfa
import Derived.Test.YtoakbdmfoepdgaaDoorBe
import Derived.Laws.StructEq
import Derived.Deep.RegionLaw
import Derived.Shelf.SlSortCmp.KitK
namespace Go.Proofs.YtoakbdmfoepdgaaDoor
open Go.RowKit Go.Sort Go.Shelf
set_option linter.unusedVariables false

/-- A ref's cells. -/
def refV (r : Rf) : List Value := .string (strB r.name) :: (Ids.idC (Ids.dgt r.id)).toList
theorem refV_len (r : Rf) : (refV r).length = 33 := by simp [refV, Ids.idC_size]
theorem refV_one (r : Rf) : ∀ v ∈ refV r, v.oneCell' = true := by
  intro v hv
  rcases List.mem_cons.1 hv with rfl | hv
  · rfl
  · exact Array.all_eq_true_iff_forall_mem.1 (Ids.idC_one (Ids.dgt r.id)) v (by simpa using hv)
def flatR (l : List Rf) : List Value := l.flatMap refV
theorem flatR_cons (r : Rf) (l : List Rf) : flatR (r :: l) = refV r ++ flatR l := rfl
theorem flatR_append (a b : List Rf) : flatR (a ++ b) = flatR a ++ flatR b := List.flatMap_append
theorem flatR_one1 (r : Rf) : flatR [r] = refV r := by simp [flatR]
theorem flatR_len (l : List Rf) : (flatR l).length = l.length * 33 := by
  induction l with
  | nil => rfl
  | cons r l ih => rw [flatR_cons, List.length_append, ih, refV_len, List.length_cons]; omega
theorem flatR_one (l : List Rf) : ∀ u ∈ flatR l, u.oneCell' = true := fun u hu => by
  obtain ⟨e, _, he⟩ := List.mem_flatMap.1 hu
  exact refV_one e u he
theorem flatR_get (l : List Rf) (i j : Nat) (e : Rf) (h : l[i]? = some e) (hj : j < 33) : (flatR l)[i * 33 + j]? = (refV e)[j]? := by
  induction l generalizing i with
  | nil => simp at h
  | cons m l ih =>
    rw [flatR_cons]
    have hl := refV_len m
    cases i with
    | zero =>
      simp at h
      subst h
      rw [List.getElem?_append_left (by omega), Nat.zero_mul, Nat.zero_add]
    | succ i =>
      rw [List.getElem?_append_right (by omega), hl, show (i + 1) * 33 + j - 33 = i * 33 + j by omega]
      exact ih i (by simpa using h)
theorem flatR_take (l : List Rf) (k : Nat) : flatR (l.take k) = (flatR l).take (k * 33) := by
  induction l generalizing k with
  | nil => simp [flatR]
  | cons e l ih =>
    cases k with
    | zero => simp [flatR]
    | succ k => rw [List.take_succ_cons, flatR_cons, flatR_cons, ih, List.take_append, refV_len, List.take_of_length_le (l := refV e) (by rw [refV_len]; omega), show (k + 1) * 33 - 33 = k * 33 by omega]
theorem flatR_drop (l : List Rf) (k : Nat) : flatR (l.drop k) = (flatR l).drop (k * 33) := by
  induction l generalizing k with
  | nil => simp [flatR]
  | cons e l ih =>
    cases k with
    | zero => simp
    | succ k => rw [List.drop_succ_cons, flatR_cons, ih, List.drop_append, refV_len, List.drop_of_length_le (l := refV e) (by rw [refV_len]; omega), show (k + 1) * 33 - 33 = k * 33 by omega]; rfl

section
variable {w w' : World} {b o : Nat} {l : List Rf} {i : Nat} {e : Rf}
/-- Cell j of ref i. -/
theorem cell_ref (h : Lies w (some ⟨b, o, none⟩) (flatR l)) (hi : l[i]? = some e) (f : Fr (fun _ => False) w w') (j : Nat) (v : Value) (hv : (refV e)[j]? = some v) : w'.cell? ⟨b, o + i * 33 + j, none⟩ = some v := by
  have hj : j < 33 := by
    have := (List.getElem?_eq_some_iff.1 hv).1
    rwa [refV_len] at this
  have hg := flatR_get l i j e hi hj
  rw [hv] at hg
  rcases h with h | ⟨b', o', hA, hc⟩
  · rw [h] at hg; simp at hg
  · cases hA
    rw [Nat.add_assoc]
    exact f.cell (hc _ _ hg) (fun e => e)
theorem rname_at (h : Lies w (some ⟨b, o, none⟩) (flatR l)) (hi : l[i]? = some e) (f : Fr (fun _ => False) w w') : w'.cell? ⟨b, o + i * 33, none⟩ = some (.string (strB e.name)) := cell_ref h hi f 0 _ rfl
/-- One ref of a list is read; its id is. -/
theorem load_ref (h : Lies w (some ⟨b, o, none⟩) (flatR l)) (hi : l[i]? = some e) (f : Fr (fun _ => False) w w') (n : Nat) (hn : n = 33) : (loadCellsFrom ⟨b, o + i * 33, none⟩ 0 n #[]).run Tryd.prog w' = .ok (refV e).toArray w' := by
  have h2 := run_loadCells_list (P := Tryd.prog) w' ⟨b, o + i * 33, none⟩ (refV e) (fun j v hv => by
    rw [add_off]
    exact cell_ref h hi f j v hv)
  rw [refV_len] at h2
  rw [hn]
  simpa [loadCells] using h2
theorem load_rid (h : Lies w (some ⟨b, o, none⟩) (flatR l)) (hi : l[i]? = some e) (f : Fr (fun _ => False) w w') (n : Nat) (hn : n = 32) : (loadCellsFrom ⟨b, o + i * 33 + 1, none⟩ 0 n #[]).run Tryd.prog w' = .ok (Ids.idC (Ids.dgt e.id)) w' := by
  have h2 := run_loadCells_list (P := Tryd.prog) w' ⟨b, o + i * 33 + 1, none⟩ (Ids.idC (Ids.dgt e.id)).toList (fun j v hv => by
    rw [add_off, Nat.add_assoc, Nat.add_comm 1 j]
    exact cell_ref h hi f (j + 1) v (by simpa [refV] using hv))
  rw [Array.length_toList, Ids.idC_size] at h2
  rw [hn]
  simpa [loadCells] using h2
end
theorem Lies.someR {w : World} {A : Option Addr} {l : List Rf} (h : Lies w A (flatR l)) (hn : 0 < l.length) : ∃ b o, A = some ⟨b, o, none⟩ := by
  rcases h with h | ⟨b, o, rfl, _⟩
  · have := flatR_len l
    rw [h] at this
    simp at this
    omega
  · exact ⟨b, o, rfl⟩
theorem flatR_nil {l : List Rf} (h : flatR l = []) : l = [] := by
  have := flatR_len l
  rw [h] at this
  simp at this
  exact List.eq_nil_of_length_eq_zero (by omega)
theorem Lies.src33 {w : World} {A : Option Addr} {l : List Rf} (h : Lies w A (flatR l)) {n : Nat} (hn : l.length = n) (c : Nat) : Src Tryd.prog 33 22 (.slice A n c) n (flatR l) w := by
  subst hn
  rcases A with _ | ad
  · have h0 : l = [] := by
      rcases h with h | ⟨b, o, h, _⟩
      · exact flatR_nil h
      · cases h
    subst h0
    exact Src.ofNil w Tryd.underlying22 c
  · refine Src.ofSlice w Tryd.underlying22 ad l.length c (flatR l) (flatR_len l) (fun j u hu => ?_) (flatR_one l)
    rcases h with h | ⟨b, o, h, hc⟩
    · rw [h] at hu; simp at hu
    · injection h with h
      subst h
      rw [add_off]
      exact hc j u hu

/-! Two refs held against one another whole. -/
theorem fieldsR : (Tryd.prog.fieldsOf 50).toList.map (fun f => (f.name, f.type, f.offset)) = [("Name", 9, 0), ("ID", 41, 1)] := by kernel_rfl
theorem underR : Tryd.prog.underlying 50 = some (.struct (Tryd.prog.fieldsOf 50)) := by kernel_rfl
theorem stoodR : Tryd.prog.stoodInHeld 50 = false := by kernel_rfl
theorem aggIdR (w : World) : (isAgg 41).run Tryd.prog w = .ok true w := by kernel_rfl
theorem sizIdR (w : World) : (sizeOf 41).run Tryd.prog w = .ok 32 w := by kernel_rfl
theorem aggStrR (w : World) : (isAgg 9).run Tryd.prog w = .ok false w := by kernel_rfl
theorem partNameR (e : Rf) (w : World) : (part 9 (refV e).toArray 0).run Tryd.prog w = .ok (.string (strB e.name)) w := by
  simp [part, refV]
theorem refV_id (e : Rf) : (refV e).toArray.extract 1 (1 + 32) = Ids.idC (Ids.dgt e.id) := by
  apply Array.toList_inj.1
  rw [Array.toList_extract, List.extract, refV]
  show List.take 32 (Ids.idC (Ids.dgt e.id)).toList = _
  exact List.take_of_length_le (by rw [Array.length_toList, Ids.idC_size]; decide)
theorem partIdR (e : Rf) (w : World) : (part 41 (refV e).toArray 1).run Tryd.prog w = .ok (.agg (Ids.idC (Ids.dgt e.id))) w := by
  simp only [part, Sem.run_bind, aggIdR, sizIdR, Result.andThen_ok, if_true, Sem.run_pure]
  rw [refV_id]
theorem eq_refs (a b : Rf) (m : Nat) (hm : 3 ≤ m) (w : World) : (Op.equalIn m 50 (.agg (refV a).toArray) (.agg (refV b).toArray)).run Tryd.prog w = .ok (rfEq a b) w := by
  obtain ⟨d, rfl⟩ : ∃ d, m = d + 2 + 1 := ⟨m - 3, by omega⟩
  rw [run_equalIn_struct w (d + 2) 50 _ _ underR stoodR]
  have hf := fieldsR
  generalize (Tryd.prog.fieldsOf 50).toList = fs at hf
  rcases fs with _ | ⟨f, _ | ⟨g, _ | ⟨f', fs'⟩⟩⟩
  · simp at hf
  · simp at hf
  · simp only [List.map_cons, List.map_nil, List.cons.injEq, Prod.mk.injEq, and_true] at hf
    obtain ⟨⟨f1, f2, f3⟩, g1, g2, g3⟩ := hf
    have es : (Op.equalIn (d + 2) 9 (.string (strB a.name)) (.string (strB b.name))).run Tryd.prog w = .ok (a.name == b.name) w := by
      rw [← str_eq]
      exact run_equalIn_string w (d + 1) 9 _ _ Tryd.underlying9
    have ei := Ids.eq_ids (Ids.dgt a.id) (Ids.dgt b.id) (Ids.dgt_lt a.id) (Ids.dgt_lt b.id) (d + 2) (by omega) w
    rw [Ids.sameD_dgt a.id b.id a.hi b.hi] at ei
    simp only [Op.eqFields, f1, f2, f3, g1, g2, g3, Sem.run_bind, partNameR, es, Result.andThen_ok, ne_eq, show ¬ ("Name" = "_") by decide, show ¬ ("ID" = "_") by decide, not_false_eq_true, if_true, rfEq]
    cases (a.name == b.name)
    · simp
    · simp only [Bool.not_true, Bool.false_eq_true, if_false, Sem.run_bind, partIdR, ei, Result.andThen_ok, Bool.true_and]
      cases (a.id == b.id) <;> simp
  · simp at hf
theorem guardR : Tryd.prog.eqGuardType Tryd.prog.depth 50 = false := by kernel_rfl

/-! Sizes, zero values. -/
theorem size_ref : (Tryd.prog.info? 50).map (·.size) = some 33 := by kernel_rfl
theorem info_ref : (Tryd.prog.info? 50).map (fun i => (i.zero, i.size, i.bytes)) = some (some (.agg (refV default).toArray), 33, 48) := by kernel_rfl
theorem zeroR_cells : (Value.agg (refV default).toArray).cells.size = 33 := by kernel_rfl
def zeroR : Array Value := (.string { data := #[] } :: List.replicate 32 (Value.int .u8 0)).toArray
theorem zeroR_eq : (refV default).toArray = zeroR := by kernel_rfl
theorem zeroR_size : zeroR.size = 33 := rfl
theorem refV_size (e : Rf) : (refV e).toArray.size = 33 := by rw [List.size_toArray, refV_len]
theorem refV_all (e : Rf) : (refV e).toArray.all (·.oneCell') = true := Array.all_eq_true_iff_forall_mem.2 (fun v hv => refV_one e v (by simpa using hv))
theorem refV_name (e : Rf) : (refV e).toArray[0]? = some (.string (strB e.name)) := rfl

/-! Lists of the call's own. -/
def OwnR (w0 w : World) (v : Value) (l : List Rf) : Prop := w.ownsRow w0.heap.size 50 33 v l.length (flatR l) ∧ Fr (fun _ => False) w0 w
theorem OwnR.fr {w0 w w' : World} {v : Value} {l : List Rf} (h : OwnR w0 w v l) (f : Fr (fun _ => False) w w') : OwnR w0 w' v l := ⟨own_fr h.1 f (fun _ _ e => e), h.2.trans f (fun _ _ e => e)⟩
theorem OwnR.nil {w0 w : World} (f : Fr (fun _ => False) w0 w) : OwnR w0 w (.slice none 0 0) [] := ⟨World.ownsRow_nil w w0.heap.size 50 33, f⟩
theorem OwnR.grow {w0 w w' : World} {v v' : Value} {es ms ks : List Rf} (h : OwnR w0 w v es) (hk : ks = es ++ ms) {m n : Nat} (hn : n = es.length) (hm : m = ms.length) (o : w'.ownsRow w0.heap.size 50 33 v' (n + m) (flatR es ++ flatR ms)) (g : w.grownBy w' v.ownBlock) : OwnR w0 w' v' ks := by
  subst hk
  refine ⟨?_, fr_append h.1 h.2 g⟩
  rw [List.length_append, flatR_append, ← hn, ← hm]
  exact o
theorem Lies.of_own33 {w : World} {base : Nat} {A : Option Addr} {n c : Nat} {xs : List Value} (h : w.ownsRow base 50 33 (.slice A n c) n xs) : Lies w A xs := by
  rcases own_shape h with ⟨_, _, h0⟩ | ⟨g, cap, hv, _⟩
  · exact .inl h0
  · injection hv with h1 h2 h3
    subst h1; subst h3
    refine .inr ⟨g, 0, rfl, fun j u hu => ?_⟩
    have hj : j < n * 33 := by
      have := (List.getElem?_eq_some_iff.1 hu).1
      rwa [h.1] at this
    rw [Nat.zero_add, World.ownsRow.cellAt h j hj]
    exact hu
theorem OwnR.slice {w0 w : World} {v : Value} {l : List Rf} (h : OwnR w0 w v l) : ∃ A c, v = .slice A l.length c ∧ l.length ≤ c ∧ c ≤ maxLen ∧ (A = none ∨ ∃ b o, A = some ⟨b, o, none⟩) ∧ Lies w A (flatR l) := by
  obtain ⟨A, c, hv, h1, h2⟩ := own_slice h.1
  have h3 := h.1
  refine ⟨A, c, hv, h1, h2, ?_, ?_⟩
  · rcases own_shape h.1 with ⟨hn, _, _⟩ | ⟨g, cap, hn, _⟩
    · rw [hn] at hv; injection hv with hv; exact .inl hv.symm
    · rw [hn] at hv; injection hv with hv; exact .inr ⟨g, 0, hv.symm⟩
  · rw [hv] at h3
    exact Lies.of_own33 h3
theorem OwnR.form {w0 w : World} {v : Value} {l : List Rf} {n : Nat} (h : OwnR w0 w v l) (hn : l.length = n) : ∃ A c, v = .slice A n c ∧ n ≤ c ∧ Lies w A (flatR l) ∧ Fr (fun _ => False) w0 w := by
  obtain ⟨A, c, hv, hc, _, _, hl⟩ := h.slice
  exact ⟨A, c, by rw [hv, hn], by omega, hl, h.2⟩

/-! Pieces of lists. -/
theorem Lies.takeR {w : World} {A : Option Addr} {l : List Rf} (h : Lies w A (flatR l)) (m : Nat) : Lies w A (flatR (l.take m)) := by
  rw [flatR_take]
  rcases h with h | ⟨b, o, rfl, hc⟩
  · rw [h]; exact .inl (by simp)
  · refine .inr ⟨b, o, rfl, fun j u hu => hc j u ?_⟩
    rw [List.getElem?_take] at hu
    split at hu
    · exact hu
    · simp at hu
/-- Where the rest of a list lies. -/
def tlR (A : Option Addr) (c m : Nat) : Option Addr := if c = m then A else A.map (·.add (m * 33))
theorem Lies.tlR {w : World} {A : Option Addr} {l : List Rf} (h : Lies w A (flatR l)) (c m : Nat) (hc : l.length ≤ c) : Lies w (tlR A c m) (flatR (l.drop m)) := by
  unfold Proofs.YtoakbdmfoepdgaaDoor.tlR
  split
  · rename_i e
    have hd : l.drop m = [] := List.drop_of_length_le (by omega)
    rw [hd]
    exact .inl rfl
  · rcases h with h | ⟨b, o, rfl, hcl⟩
    · obtain rfl := flatR_nil h
      exact .inl (by simp [flatR])
    · refine .inr ⟨b, o + m * 33, by simp [add_off], fun j u hu => ?_⟩
      rw [flatR_drop, List.getElem?_drop] at hu
      rw [Nat.add_assoc]
      exact hcl _ _ hu
theorem slice_hdR (A : Option Addr) (hA : A = none ∨ ∃ b o, A = some ⟨b, o, none⟩) (n c m : Nat) (h : m ≤ c) (w : World) : (Instr.slice 22 (.slice A n c) none (some (.int .i64 m)) none).run Tryd.prog w = .ok (.slice A m c) w := by
  have hs : (sizeOf (Tryd.prog.elem 22)).run Tryd.prog w = .ok 33 w := by kernel_rfl
  have ht : Tryd.prog.underlying 22 = some (.slice (Tryd.prog.elem 22)) := by kernel_rfl
  have e := run_slice_h (P := Tryd.prog) w 22 A n c ht .i64 (m : Int) (by omega) (by omega)
  rw [e, hs]
  rcases hA with rfl | ⟨b, o, rfl⟩
  · simp [sliced]
  · simp [sliced, add_off]
theorem slice_tlR (A : Option Addr) (n c m : Nat) (h : m ≤ n) (w : World) : (Instr.slice 22 (.slice A n c) (some (.int .i64 m)) none none).run Tryd.prog w = .ok (.slice (tlR A c m) (n - m) (c - m)) w := by
  have hs : (sizeOf (Tryd.prog.elem 22)).run Tryd.prog w = .ok 33 w := by kernel_rfl
  have ht : Tryd.prog.underlying 22 = some (.slice (Tryd.prog.elem 22)) := by kernel_rfl
  have e := run_slice_l (P := Tryd.prog) w 22 A n c ht .i64 (m : Int) (by omega) (by omega)
  rw [e, hs]
  simp [sliced, tlR]
end Go.Proofs.YtoakbdmfoepdgaaDoor

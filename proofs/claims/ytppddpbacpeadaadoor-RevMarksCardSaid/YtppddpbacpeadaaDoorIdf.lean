/- What is proved: plain facts on lists of ids in memory: where each lies, pieces of them, lists of the call's own. Conditions: none. -/
import Derived.Test.YtppddpbacpeadaaDoorIde
import Derived.Test.YtppddpbacpeadaaDoorTrn
namespace Go.Proofs.YtppddpbacpeadaaDoor
open Go.RowKit
open Ids (idC dgt big idC_size idC_get idC_one cellD zero32 size32 dgt_lt)
set_option linter.unusedVariables false

/-- A list's cells. -/
def flatI (ns : List Nat) : List Value := ns.flatMap fun n => (idC (dgt n)).toList
theorem flatI_cons (n : Nat) (ns : List Nat) : flatI (n :: ns) = (idC (dgt n)).toList ++ flatI ns := rfl
theorem flatI_append (a b : List Nat) : flatI (a ++ b) = flatI a ++ flatI b := List.flatMap_append
theorem flatI_len (ns : List Nat) : (flatI ns).length = ns.length * 32 := by
  induction ns with
  | nil => rfl
  | cons n ns ih => rw [flatI_cons, List.length_append, ih, Array.length_toList, idC_size, List.length_cons]; omega
theorem flatI_get (ns : List Nat) (i n j : Nat) (h : ns[i]? = some n) (hj : j < 32) : (flatI ns)[i * 32 + j]? = some (cellD (dgt n) j) := by
  induction ns generalizing i with
  | nil => simp at h
  | cons m ns ih =>
    rw [flatI_cons]
    have hl : (idC (dgt m)).toList.length = 32 := by rw [Array.length_toList, idC_size]
    cases i with
    | zero =>
      simp at h
      subst h
      rw [List.getElem?_append_left (by omega), Nat.zero_mul, Nat.zero_add, Array.getElem?_toList, idC_get _ j hj]
    | succ i =>
      rw [List.getElem?_append_right (by omega), hl, show (i + 1) * 32 + j - 32 = i * 32 + j by omega]
      exact ih i (by simpa using h)
theorem flatI_one (ns : List Nat) : ∀ u ∈ flatI ns, u.oneCell' = true := fun u hu => by
  obtain ⟨n, _, hn⟩ := List.mem_flatMap.1 hu
  exact (Array.all_eq_true_iff_forall_mem.1 (idC_one (dgt n))) u (by simpa using hn)
/-- One id of a list is read. -/
theorem load_at {w w' : World} {b o : Nat} {ns : List Nat} {i n : Nat} (h : Lies w (some ⟨b, o, none⟩) (flatI ns)) (hi : ns[i]? = some n) (f : Fr (fun _ => False) w w') : (loadCellsFrom ⟨b, o + i * 32, none⟩ 0 32 #[]).run Tryd.prog w' = .ok (idC (dgt n)) w' := by
  have hc : ∀ j v, (idC (dgt n)).toList[j]? = some v → w.cell? ⟨b, o + i * 32 + j, none⟩ = some v := fun j v hv => by
    have hj : j < 32 := by
      have := (List.getElem?_eq_some_iff.1 hv).1
      rwa [Array.length_toList, idC_size] at this
    rw [Array.getElem?_toList, idC_get _ j hj] at hv
    rcases h with h | ⟨b', o', hA, hc⟩
    · have := flatI_get ns i n j hi hj
      rw [h] at this
      simp at this
    · cases hA
      rw [Nat.add_assoc, ← hv]
      exact hc _ _ (flatI_get ns i n j hi hj)
  have h2 := run_loadCells_list (P := Tryd.prog) w' ⟨b, o + i * 32, none⟩ (idC (dgt n)).toList (fun j v hv => by
    rw [add_off]
    exact f.cell (hc j v hv) (fun e => e))
  rw [Array.length_toList, idC_size, Array.toArray_toList] at h2
  simpa [loadCells] using h2
theorem range_at {w w' : World} {b o : Nat} {ns : List Nat} {i n : Nat} (h : Lies w (some ⟨b, o, none⟩) (flatI ns)) (hi : ns[i]? = some n) (f : Fr (fun _ => False) w w') : w'.rangeAt b (o + i * 32) (idC (dgt n)).toList := fun j v hv => by
  have hj : j < 32 := by
    have := (List.getElem?_eq_some_iff.1 hv).1
    rwa [Array.length_toList, idC_size] at this
  rw [Array.getElem?_toList, idC_get _ j hj] at hv
  rcases h with h | ⟨b', o', hA, hc⟩
  · have := flatI_get ns i n j hi hj
    rw [h] at this
    simp at this
  · cases hA
    rw [← hv]
    refine f.cell ?_ (fun e => e)
    have := hc _ _ (flatI_get ns i n j hi hj)
    rw [← Nat.add_assoc] at this
    exact this
theorem Lies.some_of {w : World} {A : Option Addr} {ns : List Nat} (h : Lies w A (flatI ns)) (hn : 0 < ns.length) : ∃ b o, A = some ⟨b, o, none⟩ := by
  rcases h with h | ⟨b, o, rfl, _⟩
  · have := flatI_len ns
    rw [h] at this
    simp at this
    omega
  · exact ⟨b, o, rfl⟩

/-! Rising lists. -/
abbrev gt (ns : List Nat) (i : Nat) : Nat := ns.getD i 0
theorem gt_some (ns : List Nat) (i : Nat) (h : i < ns.length) : ns[i]? = some (gt ns i) := by
  rw [gt, List.getD_eq_getElem?_getD, List.getElem?_eq_getElem h]; rfl
theorem gt_mem (ns : List Nat) (i : Nat) (h : i < ns.length) : gt ns i ∈ ns := by
  rw [gt, List.getD_eq_getElem?_getD, List.getElem?_eq_getElem h]
  exact List.getElem_mem h
theorem flatI_take (ns : List Nat) (m : Nat) : flatI (ns.take m) = (flatI ns).take (m * 32) := by
  induction ns generalizing m with
  | nil => simp [flatI]
  | cons n ns ih =>
    cases m with
    | zero => simp [flatI]
    | succ m =>
      have hl : (idC (dgt n)).toList.length = 32 := by rw [Array.length_toList, idC_size]
      rw [List.take_succ_cons, flatI_cons, flatI_cons, ih, show (m + 1) * 32 = 32 + m * 32 by omega, List.take_append, hl, List.take_of_length_le (l := (idC (dgt n)).toList) (by omega), show 32 + m * 32 - 32 = m * 32 by omega]
theorem flatI_drop (ns : List Nat) (m : Nat) : flatI (ns.drop m) = (flatI ns).drop (m * 32) := by
  induction ns generalizing m with
  | nil => simp [flatI]
  | cons n ns ih =>
    cases m with
    | zero => simp
    | succ m =>
      have hl : (idC (dgt n)).toList.length = 32 := by rw [Array.length_toList, idC_size]
      rw [List.drop_succ_cons, flatI_cons, ih, show (m + 1) * 32 = 32 + m * 32 by omega, List.drop_append, hl, List.drop_of_length_le (l := (idC (dgt n)).toList) (by omega), List.nil_append, show 32 + m * 32 - 32 = m * 32 by omega]
theorem Lies.take {w : World} {A : Option Addr} {xs : List Value} (h : Lies w A xs) (m : Nat) : Lies w A (xs.take m) := by
  rcases h with rfl | ⟨b, o, rfl, hc⟩
  · exact .inl (by simp)
  · refine .inr ⟨b, o, rfl, fun j u hu => hc j u ?_⟩
    rw [List.getElem?_take] at hu
    split at hu
    · exact hu
    · simp at hu
/-- Where the rest of a list lies. -/
def tlA (A : Option Addr) (c m : Nat) : Option Addr := if c = m then A else A.map (·.add (m * 32))
theorem Lies.tl {w : World} {A : Option Addr} {ns : List Nat} (h : Lies w A (flatI ns)) (c m : Nat) (hc : ns.length ≤ c) : Lies w (tlA A c m) (flatI (ns.drop m)) := by
  unfold tlA
  split
  · rename_i e
    have hd : ns.drop m = [] := List.drop_of_length_le (by omega)
    rw [hd]
    exact .inl rfl
  · rcases h with h | ⟨b, o, rfl, hcl⟩
    · have : ns = [] := by
        have := flatI_len ns
        rw [h] at this
        simp at this
        exact List.eq_nil_of_length_eq_zero (by omega)
      subst this
      exact .inl (by simp [flatI])
    · refine .inr ⟨b, o + m * 32, by simp [add_off], fun j u hu => ?_⟩
      rw [flatI_drop, List.getElem?_drop] at hu
      rw [Nat.add_assoc]
      exact hcl _ _ hu
theorem Lies.src32 {w : World} {A : Option Addr} {ns : List Nat} (h : Lies w A (flatI ns)) {n : Nat} (hn : ns.length = n) (c : Nat) : Src Tryd.prog 32 24 (.slice A n c) n (flatI ns) w := by
  subst hn
  rcases A with _ | ad
  · have h0 : ns = [] := by
      rcases h with h | ⟨b, o, h, _⟩
      · have := flatI_len ns
        rw [h] at this
        simp at this
        exact List.eq_nil_of_length_eq_zero (by omega)
      · cases h
    subst h0
    exact Src.ofNil w Tryd.underlying24 c
  · refine Src.ofSlice w Tryd.underlying24 ad ns.length c (flatI ns) (flatI_len ns) (fun j u hu => ?_) (flatI_one ns)
    rcases h with h | ⟨b, o, h, hc⟩
    · rw [h] at hu; simp at hu
    · injection h with h
      subst h
      rw [add_off]
      exact hc j u hu
theorem Lies.of_own32 {w : World} {base : Nat} {e : TypeId} {A : Option Addr} {n c : Nat} {xs : List Value} (h : w.ownsRow base e 32 (.slice A n c) n xs) : Lies w A xs := by
  rcases own_shape h with ⟨_, _, h0⟩ | ⟨g, cap, hv, _⟩
  · exact .inl h0
  · injection hv with h1 h2 h3
    subst h1; subst h3
    refine .inr ⟨g, 0, rfl, fun j u hu => ?_⟩
    have := World.ownsRow.cells h (g := g) rfl j u hu
    rwa [add_off] at this
theorem slice_hd (A : Option Addr) (hA : A = none ∨ ∃ b o, A = some ⟨b, o, none⟩) (n c m : Nat) (h : m ≤ c) (w : World) : (Instr.slice 24 (.slice A n c) none (some (.int .i64 m)) none).run Tryd.prog w = .ok (.slice A m c) w := by
  have hs : (sizeOf (Tryd.prog.elem 24)).run Tryd.prog w = .ok 32 w := by kernel_rfl
  have ht : Tryd.prog.underlying 24 = some (.slice (Tryd.prog.elem 24)) := by kernel_rfl
  have e := run_slice_h (P := Tryd.prog) w 24 A n c ht .i64 (m : Int) (by omega) (by omega)
  rw [e, hs]
  rcases hA with rfl | ⟨b, o, rfl⟩
  · simp [sliced]
  · simp [sliced, add_off]
theorem slice_tl (A : Option Addr) (n c m : Nat) (h : m ≤ n) (w : World) : (Instr.slice 24 (.slice A n c) (some (.int .i64 m)) none none).run Tryd.prog w = .ok (.slice (tlA A c m) (n - m) (c - m)) w := by
  have hs : (sizeOf (Tryd.prog.elem 24)).run Tryd.prog w = .ok 32 w := by kernel_rfl
  have ht : Tryd.prog.underlying 24 = some (.slice (Tryd.prog.elem 24)) := by kernel_rfl
  have e := run_slice_l (P := Tryd.prog) w 24 A n c ht .i64 (m : Int) (by omega) (by omega)
  rw [e, hs]
  simp [sliced, tlA]
theorem info_id : (Tryd.prog.info? 23).map (fun i => (i.zero, i.size, i.bytes)) = some (some (.agg zero32), 32, 32) := by kernel_rfl
theorem zero32_cells : (Value.agg zero32).cells.size = 32 := by kernel_rfl

/-- A list of one id, made by the call. -/
theorem build_one (D : Nat → Nat) (w : World) : (Instr.buildSlice 24 1 #[(0, .agg (idC D))]).run Tryd.prog w = .ok (.slice (some ⟨w.heap.size, 0, none⟩) 1 1) (w.alloc (.cells (idC D) 23)) := by kernel_rfl
theorem wpList_build_one {ops : Array Oper} {rest : List Oper} {o : Oper} {a : Act} {w : World} {Q : Exit → Act → World → Prop} (hgd : o.guard = none) (x : Operand) (ho : o.op = .buildSlice 24 1 #[(0, x)])
    (D : Nat → Nat) (hx : a.eval x = .agg (idC D)) (h : wpList Tryd.prog ops Q rest (a.put o.dst (.slice (some ⟨w.heap.size, 0, none⟩) 1 1)) (w.alloc (.cells (idC D) 23))) : wpList Tryd.prog ops Q (o :: rest) a w :=
  wpList_plain hgd fun K hK => by
    unfold Oper.wp execOp
    have e : (#[((0 : Nat), x)].map fun (i, y) => (i, a.eval y)) = #[(0, .agg (idC D))] := by simp [hx]
    simp only [ho, e, Sem.run_bind, build_one, Result.andThen_ok, Sem.run_pure]
    exact hK _ _ h
theorem src_one32 (w : World) (n : Nat) : Src Tryd.prog 32 24 (.slice (some ⟨w.heap.size, 0, none⟩) 1 1) 1 (flatI [n]) (w.alloc (.cells (idC (dgt n)) 23)) := by
  refine Lies.src32 (ns := [n]) (.inr ⟨w.heap.size, 0, rfl, fun j u hu => ?_⟩) rfl 1
  rw [Nat.zero_add, (Whole.new w 23 (idC (dgt n))).cell]
  simpa [flatI] using hu

/-- A list of the call's own. -/
def OwnI (w0 w : World) (v : Value) (ns : List Nat) : Prop := w.ownsRow w0.heap.size 23 32 v ns.length (flatI ns) ∧ Fr (fun _ => False) w0 w
theorem OwnI.slice {w0 w : World} {v : Value} {ns : List Nat} (h : OwnI w0 w v ns) : ∃ A c, v = .slice A ns.length c ∧ ns.length ≤ c ∧ c ≤ maxLen ∧ (A = none ∨ ∃ b o, A = some ⟨b, o, none⟩) ∧ Lies w A (flatI ns) := by
  rcases own_shape h.1 with ⟨hv, h0, _⟩ | ⟨g, cap, hv, h1, h2, _⟩
  · subst hv
    exact ⟨none, 0, by rw [h0], by omega, Nat.zero_le _, .inl rfl, .inl (by rw [List.eq_nil_of_length_eq_zero h0]; rfl)⟩
  · subst hv
    exact ⟨_, cap, rfl, h1, h2, .inr ⟨g, 0, rfl⟩, Lies.of_own32 h.1⟩
theorem OwnI.fr {w0 w w' : World} {v : Value} {ns : List Nat} (h : OwnI w0 w v ns) (f : Fr (fun _ => False) w w') : OwnI w0 w' v ns := ⟨own_fr h.1 f (fun _ _ e => e), h.2.trans f (fun _ _ e => e)⟩
theorem OwnI.nil {w0 w : World} (f : Fr (fun _ => False) w0 w) : OwnI w0 w (.slice none 0 0) [] := ⟨World.ownsRow_nil w w0.heap.size 23 32, f⟩
theorem OwnI.grow {w0 w w' : World} {v v' : Value} {ns ms ks : List Nat} (h : OwnI w0 w v ns) (hk : ks = ns ++ ms) {m n : Nat} (hn : n = ns.length) (hm : m = ms.length) (o : w'.ownsRow w0.heap.size 23 32 v' (n + m) (flatI ns ++ flatI ms)) (g : w.grownBy w' v.ownBlock) : OwnI w0 w' v' ks := by
  subst hk
  refine ⟨?_, fr_append h.1 h.2 g⟩
  rw [List.length_append, flatI_append, ← hn, ← hm]
  exact o
/-- A stretch of a row, as a load reads it. -/
theorem load_mid {w w' : World} {g o n : Nat} {t : TypeId} {Z cs : Array Value} (h : Whole w g t Z) (f : Fr (fun _ => False) w w') (hn : n = cs.size) (hz : ∀ j v, cs.toList[j]? = some v → Z[o + j]? = some v) : (loadCellsFrom ⟨g, o, none⟩ 0 n #[]).run Tryd.prog w' = .ok cs w' := by
  subst hn
  have k := h.fr f (fun e => e)
  have h2 := run_loadCells_list (P := Tryd.prog) w' ⟨g, o, none⟩ cs.toList (fun j v hv => by
    rw [add_off, k.cell]
    exact hz j v hv)
  rw [Array.length_toList, Array.toArray_toList] at h2
  simpa [loadCells] using h2
end Go.Proofs.YtppddpbacpeadaaDoor

/- What is proved: lists of ids of the call's own, pieces of lists, and a list put in order by putting one after another into its place. Conditions: none. -/
import Derived.Test.YtbfbgopbelmghaaOjd
namespace Go.Proofs.Ytbfbgopbelmghaa
open Go.RowKit
set_option linter.unusedVariables false

theorem flatI_take (ns : List Nat) (m : Nat) : flatI (ns.take m) = (flatI ns).take (m * 32) := by
  induction ns generalizing m with
  | nil => simp [flatI]
  | cons n ns ih =>
    cases m with
    | zero => simp [flatI]
    | succ m =>
      have hl : (idC (dgt n)).toList.length = 32 := by rw [Array.length_toList, idC_size]
      rw [List.take_succ_cons, flatI_cons, flatI_cons, ih, show (m + 1) * 32 = 32 + m * 32 by omega, List.take_append, hl, List.take_of_length_le (l := (idC (dgt n)).toList) (by omega), show 32 + m * 32 - 32 = m * 32 by omega]
theorem flatI_drop (ns : List Nat) (m : Nat) : flatI (ns.drop m) = (flatI ns).drop (m * 32) := by
  induction ns generalizing m with
  | nil => simp [flatI]
  | cons n ns ih =>
    cases m with
    | zero => simp
    | succ m =>
      have hl : (idC (dgt n)).toList.length = 32 := by rw [Array.length_toList, idC_size]
      rw [List.drop_succ_cons, flatI_cons, ih, show (m + 1) * 32 = 32 + m * 32 by omega, List.drop_append, hl, List.drop_of_length_le (l := (idC (dgt n)).toList) (by omega), List.nil_append, show 32 + m * 32 - 32 = m * 32 by omega]
theorem Lies.take {w : World} {A : Option Addr} {xs : List Value} (h : Lies w A xs) (m : Nat) : Lies w A (xs.take m) := by
  rcases h with rfl | ⟨b, o, rfl, hc⟩
  · exact .inl (by simp)
  · refine .inr ⟨b, o, rfl, fun j u hu => hc j u ?_⟩
    rw [List.getElem?_take] at hu
    split at hu
    · exact hu
    · simp at hu
/-- Where the rest of a list lies. -/
def tlA (A : Option Addr) (c m : Nat) : Option Addr := if c = m then A else A.map (·.add (m * 32))
theorem Lies.tl {w : World} {A : Option Addr} {ns : List Nat} (h : Lies w A (flatI ns)) (c m : Nat) (hc : ns.length ≤ c) : Lies w (tlA A c m) (flatI (ns.drop m)) := by
  unfold tlA
  split
  · rename_i e
    have hd : ns.drop m = [] := List.drop_of_length_le (by omega)
    rw [hd]
    exact .inl rfl
  · rcases h with h | ⟨b, o, rfl, hcl⟩
    · have : ns = [] := by
        have := flatI_len ns
        rw [h] at this
        simp at this
        exact List.eq_nil_of_length_eq_zero (by omega)
      subst this
      exact .inl (by simp [flatI])
    · refine .inr ⟨b, o + m * 32, by simp [add_off], fun j u hu => ?_⟩
      rw [flatI_drop, List.getElem?_drop] at hu
      rw [Nat.add_assoc]
      exact hcl _ _ hu
theorem Lies.src32 {w : World} {A : Option Addr} {ns : List Nat} (h : Lies w A (flatI ns)) {n : Nat} (hn : ns.length = n) (c : Nat) : Src Try.prog 32 44 (.slice A n c) n (flatI ns) w := by
  subst hn
  rcases A with _ | ad
  · have h0 : ns = [] := by
      rcases h with h | ⟨b, o, h, _⟩
      · have := flatI_len ns
        rw [h] at this
        simp at this
        exact List.eq_nil_of_length_eq_zero (by omega)
      · cases h
    subst h0
    exact Src.ofNil w Try.underlying44 c
  · refine Src.ofSlice w Try.underlying44 ad ns.length c (flatI ns) (flatI_len ns) (fun j u hu => ?_) (flatI_one ns)
    rcases h with h | ⟨b, o, h, hc⟩
    · rw [h] at hu; simp at hu
    · injection h with h
      subst h
      rw [add_off]
      exact hc j u hu
theorem Lies.of_own32 {w : World} {base : Nat} {e : TypeId} {A : Option Addr} {n c : Nat} {xs : List Value} (h : w.ownsRow base e 32 (.slice A n c) n xs) : Lies w A xs := by
  rcases own_shape h with ⟨_, _, h0⟩ | ⟨g, cap, hv, _⟩
  · exact .inl h0
  · injection hv with h1 h2 h3
    subst h1; subst h3
    refine .inr ⟨g, 0, rfl, fun j u hu => ?_⟩
    have := World.ownsRow.cells h (g := g) rfl j u hu
    rwa [add_off] at this
theorem slice_hd (A : Option Addr) (hA : A = none ∨ ∃ b o, A = some ⟨b, o, none⟩) (n c m : Nat) (h : m ≤ c) (w : World) : (Instr.slice 44 (.slice A n c) none (some (.int .i64 m)) none).run Try.prog w = .ok (.slice A m c) w := by
  have hs : (sizeOf (Try.prog.elem 44)).run Try.prog w = .ok 32 w := by kernel_rfl
  have ht : Try.prog.underlying 44 = some (.slice (Try.prog.elem 44)) := by kernel_rfl
  have e := run_slice_h (P := Try.prog) w 44 A n c ht .i64 (m : Int) (by omega) (by omega)
  rw [e, hs]
  rcases hA with rfl | ⟨b, o, rfl⟩
  · simp [sliced]
  · simp [sliced, add_off]
theorem slice_tl (A : Option Addr) (n c m : Nat) (h : m ≤ n) (w : World) : (Instr.slice 44 (.slice A n c) (some (.int .i64 m)) none none).run Try.prog w = .ok (.slice (tlA A c m) (n - m) (c - m)) w := by
  have hs : (sizeOf (Try.prog.elem 44)).run Try.prog w = .ok 32 w := by kernel_rfl
  have ht : Try.prog.underlying 44 = some (.slice (Try.prog.elem 44)) := by kernel_rfl
  have e := run_slice_l (P := Try.prog) w 44 A n c ht .i64 (m : Int) (by omega) (by omega)
  rw [e, hs]
  simp [sliced, tlA]
theorem info_id : (Try.prog.info? 23).map (fun i => (i.zero, i.size, i.bytes)) = some (some (.agg zero32), 32, 32) := by kernel_rfl
theorem zero32_cells : (Value.agg zero32).cells.size = 32 := by kernel_rfl

/-- A list of one id, made by the call. -/
theorem build_one (D : Nat → Nat) (w : World) : (Instr.buildSlice 44 1 #[(0, .agg (idC D))]).run Try.prog w = .ok (.slice (some ⟨w.heap.size, 0, none⟩) 1 1) (w.alloc (.cells (idC D) 23)) := by kernel_rfl
theorem wpList_build_one {ops : Array Oper} {rest : List Oper} {o : Oper} {a : Act} {w : World} {Q : Exit → Act → World → Prop} (hgd : o.guard = none) (x : Operand) (ho : o.op = .buildSlice 44 1 #[(0, x)])
    (D : Nat → Nat) (hx : a.eval x = .agg (idC D)) (h : wpList Try.prog ops Q rest (a.put o.dst (.slice (some ⟨w.heap.size, 0, none⟩) 1 1)) (w.alloc (.cells (idC D) 23))) : wpList Try.prog ops Q (o :: rest) a w :=
  wpList_plain hgd fun K hK => by
    unfold Oper.wp execOp
    have e : (#[((0 : Nat), x)].map fun (i, y) => (i, a.eval y)) = #[(0, .agg (idC D))] := by simp [hx]
    simp only [ho, e, Sem.run_bind, build_one, Result.andThen_ok, Sem.run_pure]
    exact hK _ _ h
theorem src_one32 (w : World) (n : Nat) : Src Try.prog 32 44 (.slice (some ⟨w.heap.size, 0, none⟩) 1 1) 1 (flatI [n]) (w.alloc (.cells (idC (dgt n)) 23)) := by
  refine Lies.src32 (ns := [n]) (.inr ⟨w.heap.size, 0, rfl, fun j u hu => ?_⟩) rfl 1
  rw [Nat.zero_add, (Whole.new w 23 (idC (dgt n))).cell]
  simpa [flatI] using hu

/-! One after another into its place. -/
def insN (out : List Nat) (x : Nat) : List Nat := if hasN out x = true then out else out.take (posN out x) ++ x :: out.drop (posN out x)
def srtN (l : List Nat) : List Nat := l.foldl insN []
theorem hasN_mem (out : List Nat) (x : Nat) (h : hasN out x = true) : x ∈ out := by
  have := of_decide_eq_true h
  rw [← this.2]
  exact gt_mem out _ this.1
theorem mem_ins (out : List Nat) (x y : Nat) : y ∈ insN out x ↔ y = x ∨ y ∈ out := by
  unfold insN
  split
  · rename_i h
    have := hasN_mem out x h
    constructor
    · exact .inr
    · rintro (rfl | h) <;> assumption
  · conv => rhs; rw [← List.take_append_drop (posN out x) out]
    simp only [List.mem_append, List.mem_cons]
    constructor
    · rintro (h | h | h) <;> simp [h]
    · rintro (h | h | h) <;> simp [h]
theorem ins_len (out : List Nat) (x : Nat) : (insN out x).length ≤ out.length + 1 := by
  unfold insN
  split
  · omega
  · have := pos_le out x
    simp
    omega
theorem gt_ins (out : List Nat) (x p : Nat) (hp : p ≤ out.length) (j : Nat) : gt (out.take p ++ x :: out.drop p) j = if j < p then gt out j else if j = p then x else gt out (j - 1) := by
  have hl : (out.take p).length = p := by rw [List.length_take]; omega
  unfold gt
  rw [List.getD_eq_getElem?_getD, List.getD_eq_getElem?_getD, List.getD_eq_getElem?_getD]
  split
  · rename_i h
    rw [List.getElem?_append_left (by omega), List.getElem?_take, if_pos h]
  · rename_i h
    rw [List.getElem?_append_right (by omega), hl]
    split
    · rename_i e
      subst e
      simp
    · rename_i e
      rw [show j - p = (j - p - 1) + 1 by omega, List.getElem?_cons_succ, List.getElem?_drop, show p + (j - p - 1) = j - 1 by omega]
theorem ris_ins (out : List Nat) (x : Nat) (h : ris out) : ris (insN out x) := by
  unfold insN
  split
  · exact h
  · rename_i hno
    have hp := pos_le out x
    have hb := pos_below out x
    have ha := pos_above' out h x
    have hne : ∀ j, posN out x ≤ j → j < out.length → x < gt out j := fun j h1 h2 => by
      have h3 := ha j h1 h2
      rcases Nat.lt_or_ge (posN out x) j with h4 | h4
      · have h5 := ha (posN out x) (Nat.le_refl _) (by omega)
        have := h _ j h4 h2
        omega
      · obtain rfl : j = posN out x := by omega
        rcases Nat.lt_or_ge x (gt out (posN out x)) with h5 | h5
        · exact h5
        · exact absurd (decide_eq_true ⟨h2, by omega⟩) hno
    intro i j hij hj
    have hlen : (out.take (posN out x) ++ x :: out.drop (posN out x)).length = out.length + 1 := by simp; omega
    rw [hlen] at hj
    rw [gt_ins out x _ hp i, gt_ins out x _ hp j]
    by_cases h1 : j < posN out x
    · rw [if_pos h1, if_pos (by omega)]
      exact h i j hij (by omega)
    · rw [if_neg h1]
      by_cases h2 : j = posN out x
      · rw [if_pos h2, if_pos (by omega)]
        exact hb i (by omega)
      · rw [if_neg h2]
        have h3 := hne (j - 1) (by omega) (by omega)
        by_cases h4 : i < posN out x
        · rw [if_pos h4]
          have := hb i h4
          omega
        · rw [if_neg h4]
          by_cases h5 : i = posN out x
          · rw [if_pos h5]; exact h3
          · rw [if_neg h5]
            exact h (i - 1) (j - 1) (by omega) (by omega)
theorem srt_snoc (l : List Nat) (x : Nat) : srtN (l ++ [x]) = insN (srtN l) x := by simp [srtN]
theorem ris_nil : ris [] := fun i j h1 h2 => by simp at h2
theorem srt_props (l : List Nat) : ris (srtN l) ∧ (srtN l).length ≤ l.length ∧ ∀ y, y ∈ srtN l ↔ y ∈ l := by
  have key : ∀ (r : List Nat), ∀ l, l = r.reverse → ris (srtN l) ∧ (srtN l).length ≤ l.length ∧ ∀ y, y ∈ srtN l ↔ y ∈ l := by
    intro r
    induction r with
    | nil => rintro l rfl; exact ⟨ris_nil, by simp [srtN], by simp [srtN]⟩
    | cons x r ih =>
      rintro l rfl
      obtain ⟨h1, h2, h3⟩ := ih _ rfl
      rw [List.reverse_cons, srt_snoc]
      refine ⟨ris_ins _ x h1, ?_, fun y => ?_⟩
      · have := ins_len (srtN r.reverse) x
        simp at h2 ⊢
        omega
      · rw [mem_ins, h3 y]
        simp only [List.mem_append, List.mem_cons, List.not_mem_nil, or_false]
        exact Or.comm
  exact key l.reverse l (by simp)

/-- A list of the call's own. -/
def OwnI (w0 w : World) (v : Value) (ns : List Nat) : Prop := w.ownsRow w0.heap.size 23 32 v ns.length (flatI ns) ∧ Fr (fun _ => False) w0 w
theorem OwnI.slice {w0 w : World} {v : Value} {ns : List Nat} (h : OwnI w0 w v ns) : ∃ A c, v = .slice A ns.length c ∧ ns.length ≤ c ∧ c ≤ maxLen ∧ (A = none ∨ ∃ b o, A = some ⟨b, o, none⟩) ∧ Lies w A (flatI ns) := by
  rcases own_shape h.1 with ⟨hv, h0, _⟩ | ⟨g, cap, hv, h1, h2, _⟩
  · subst hv
    exact ⟨none, 0, by rw [h0], by omega, Nat.zero_le _, .inl rfl, .inl (by rw [List.eq_nil_of_length_eq_zero h0]; rfl)⟩
  · subst hv
    exact ⟨_, cap, rfl, h1, h2, .inr ⟨g, 0, rfl⟩, Lies.of_own32 h.1⟩
theorem OwnI.fr {w0 w w' : World} {v : Value} {ns : List Nat} (h : OwnI w0 w v ns) (f : Fr (fun _ => False) w w') : OwnI w0 w' v ns := ⟨own_fr h.1 f (fun _ _ e => e), h.2.trans f (fun _ _ e => e)⟩
theorem OwnI.nil {w0 w : World} (f : Fr (fun _ => False) w0 w) : OwnI w0 w (.slice none 0 0) [] := ⟨World.ownsRow_nil w w0.heap.size 23 32, f⟩
theorem OwnI.grow {w0 w w' : World} {v v' : Value} {ns ms ks : List Nat} (h : OwnI w0 w v ns) (hk : ks = ns ++ ms) {m n : Nat} (hn : n = ns.length) (hm : m = ms.length) (o : w'.ownsRow w0.heap.size 23 32 v' (n + m) (flatI ns ++ flatI ms)) (g : w.grownBy w' v.ownBlock) : OwnI w0 w' v' ks := by
  subst hk
  refine ⟨?_, fr_append h.1 h.2 g⟩
  rw [List.length_append, flatI_append, ← hn, ← hm]
  exact o
end Go.Proofs.Ytbfbgopbelmghaa

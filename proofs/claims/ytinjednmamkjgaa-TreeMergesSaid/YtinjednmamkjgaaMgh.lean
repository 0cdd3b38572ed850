/- What is proved: the program's Merge: the rows of two lists, in memory of the call's own. Conditions: the lists' cells are there. -/
import Derived.Test.YtinjednmamkjgaaMgg
import Derived.Test.YtinjednmamkjgaaMge
import Derived.RangeFuncLeaves
import Derived.Great.BuildSlice
namespace Go.Proofs.Ytinjednmamkjgaa
open Go.RowKit Go.Sort Go.Shelf
set_option linter.unusedVariables false

theorem infoB : (Try.prog.info? 35).map (fun i => (i.zero, i.size, i.bytes)) = some (some (.agg zeroB), 71, 136) := by kernel_rfl
theorem zeroB_cells : (Value.agg zeroB).cells.size = 71 := zeroB_size
def flatR (rs : List Rw) : List Value := rs.flatMap fun r => (rwC r).toList
theorem flatR_append (a b : List Rw) : flatR (a ++ b) = flatR a ++ flatR b := by simp [flatR]
theorem flatR_one (r : Rw) : flatR [r] = (rwC r).toList := by simp [flatR]
theorem flatR_len (rs : List Rw) : (flatR rs).length = rs.length * 71 := by
  induction rs with
  | nil => rfl
  | cons r rs ih =>
    rw [show flatR (r :: rs) = (rwC r).toList ++ flatR rs from rfl, List.length_append, ih, Array.length_toList, rwC_size, List.length_cons]; omega
theorem build_row (cr : Array Value) (hs : cr.size = 71) (w : World) : (Instr.buildSlice 30 1 #[(0, .agg cr)]).run Try.prog w = .ok (.slice (some ⟨w.heap.size, 0, none⟩) 1 1) (w.alloc (.cells cr 35)) := by
  obtain ⟨i, hi, hz0, hz1, hz2⟩ := info_parts infoB
  refine run_buildSlice w 30 35 1 _ cr i (.agg zeroB) Try.underlying30 hi hz0 (by rw [hz1]; decide) (by rw [hz1]; decide) ?_
  rw [hz1]
  have := Great.fill_whole (s := 71) (by decide) [.agg cr] ((Array.range (1 * 71)).map ((Value.agg zeroB).cells[· % (Value.agg zeroB).cells.size]!)) (fun v hv => by rw [List.mem_singleton.1 hv]; exact hs) (by simp)
  simpa [Value.cells] using this
theorem src_row (w : World) (cr : Array Value) (hs : cr.size = 71) (h1 : cr.all (·.oneCell') = true) : Src Try.prog 71 30 (.slice (some ⟨w.heap.size, 0, none⟩) 1 1) 1 cr.toList (w.alloc (.cells cr 35)) :=
  Src.ofSlice _ Try.underlying30 ⟨w.heap.size, 0, none⟩ 1 1 cr.toList (by rw [Array.length_toList, hs]) (fun j u hu => by
    rw [add_off, Nat.zero_add, (Whole.new w 35 cr).cell, ← Array.getElem?_toList]; exact hu) (fun v hv => (Array.all_eq_true_iff_forall_mem.1 h1) v (by simpa using hv))

/-! A region of a round is walked as any other. -/
theorem wpIn_of_op {P : Program} {lp n : Nat} {o : Oper} {a : Act} {w : World} {K : Act → World → Prop} {Q : Exit → Act → World → Prop} (hd : ∀ c, o.op ≠ .defer c) (h : o.wp P a w K Q) : o.wpIn (Fence.wide.inRound lp) n P a w K Q := by
  refine ⟨fun _ _ => trivial, ?_⟩
  show o.uponIn _ _ _ a K Q ((o.semAt (some lp) a.eval).run P w)
  rw [Oper.semAt_some lp a.eval o hd]
  unfold Oper.wp at h
  generalize (execOp a.eval o).run P w = r at h ⊢
  cases r with
  | ok nx w' =>
    cases nx with
    | value v => exact h
    | skip => exact h
    | defer d => exact h
    | enter f args => exact ⟨fun e => (by cases e), CallsIn.inRound lp (callsIn_wide.2 h)⟩
    | row row args => exact ⟨fun e => (by cases e), fun c cs _ => let ⟨v, w1, h1, h2⟩ := h c cs; ⟨v, w1, h1, stepsIn_wide.2 h2⟩⟩
    | _ => exact h.elim
  | halt x w' =>
    cases x with
    | panic v => exact h
    | _ => exact h.elim
theorem wpListIn_of_wpList {P : Program} {lp n : Nat} {ops : Array Oper} {Q : Exit → Act → World → Prop} (hQ : ¬ LetsOut Q) : ∀ (l : List Oper), (∀ o ∈ l, ∀ c, o.op ≠ .defer c) → ∀ a w, wpList P ops Q l a w → wpListIn (Fence.wide.inRound lp) n P ops Q l a w := by
  intro l
  induction l with
  | nil => exact fun _ a w h => h
  | cons o l ih =>
    intro hd a w h
    unfold wpList at h
    unfold wpListIn
    split
    · rename_i hw
      rw [if_pos hw] at h
      rcases h with h | h
      · exact wpIn_of_op (hd o (by simp)) (Oper.wp_mono (fun a w h => ih (fun o ho => hd o (List.mem_cons_of_mem _ ho)) a w h) h)
      · exact absurd h.2 hQ
    · rename_i hw
      rw [if_neg hw] at h
      exact ⟨fun _ _ => trivial, ih (fun o ho => hd o (List.mem_cons_of_mem _ ho)) _ _ h⟩

/-- Rows in memory of the call's own. -/
def OwnR (w0 w : World) (v : Value) (rs : List Rw) : Prop := w.ownsRow w0.heap.size 35 71 v rs.length (flatR rs) ∧ Fr (fun _ => False) w0 w

/-! A range over a function that keeps state in cells of its own: what lies in [n1, n2) is the function's, and nobody else's. -/
theorem range_geo {α : Type} {P : Program} {g : Operand} {ps : Array Tmp} {assign body : Code} {Q : Exit → Act → World → Prop} {a : Act} {w1 : World} {n : Nat} {gf : Nat} {lb : Array Value}
    (hg : a.eval g = .func (.func gf) #[] lb) (eg : ∀ args w, (callFunc gf args).run P w = .ok (.enter gf args) w)
    (encs : α → Array Value) (hps : ∀ x, (encs x).size = ps.size) (rs : List α)
    (hseq : ∀ (l : Nat) (W : World) (J : Nat → List α → World → Prop), l < W.heap.size → Fr (fun _ => False) w1 W → (∀ W2, Fr (fun _ => False) W W2 → J W2.heap.size [] W2) →
      (∀ n2 pre r W0 W1, W.heap.size ≤ n2 → n2 ≤ W0.heap.size → J n2 pre W0 → Fr (fun k => W.heap.size ≤ k ∧ k < n2) W0 W1 → pre.length < rs.length →
        YieldAt Fence.wide 0 P l (encs r) W1 fun e W' => e = .returned (.bool true) ∧ J n2 (pre ++ [r]) W' ∧ Fr (fun k => k < W.heap.size ∨ (n2 ≤ k ∧ k < W0.heap.size)) W1 W') →
      Calls P gf (#[.func (.yield l) #[] #[]] ++ lb) W fun e W' => (∃ v, e = .returned v) ∧ ∃ n2 W0, J n2 rs W0 ∧ Fr (fun k => W.heap.size ≤ k ∧ k < n2) W0 W')
    (I : Nat → List α → World → Prop)
    (hIfr : ∀ n2 pre W W', I n2 pre W → Fr (fun k => w1.heap.size ≤ k ∧ k < n2) W W' → I n2 pre W')
    (h0 : ∀ W2, Fr (fun _ => False) w1 W2 → I W2.heap.size [] W2)
    (hround : ∀ (l n2 : Nat) (pre : List α) (r : α) (W0 W : World), w1.heap.size + 2 ≤ n2 → n2 ≤ W0.heap.size → I n2 pre W0 → Fr (fun k => w1.heap.size ≤ k ∧ k < n2) W0 W → pre.length < rs.length →
      ∀ K : Act → World → Prop, (∀ a' Wa, Fr (fun _ => False) W Wa → (∀ Wb, Fr (fun k => k = w1.heap.size + 1) Wa Wb →
        body.wpIn (Fence.wide.inRound l) 0 P (fun e a3 W3 => e = .normal ∧ I n2 (pre ++ [r]) W3 ∧ Fr (fun k => k < w1.heap.size ∨ (n2 ≤ k ∧ k < W0.heap.size)) Wb W3) a' Wb) → K a' Wa) →
      assign.wpIn (Fence.wide.inRound l) 0 P (Exit.then K (fun _ _ _ => False)) { tmps := (ps.zip (encs r)).foldl (fun t (p, v) => t.setIfInBounds p v) a.tmps, defers := [] } W)
    (hdone : ∀ n2 W, I n2 rs W → W.heap[w1.heap.size]? = some (.deferred (some [])) → w1.heap.size + 2 ≤ n2 → Q .normal { a with defers := { target := .collected w1.heap.size, args := #[] } :: a.defers } W) :
    (Code.rangeFunc g ps assign body).wpIn Fence.wide n P Q a w1 := by
  refine wpIn_rangeFunc ?_
  intro fn hfn
  obtain ⟨rec, hrec⟩ : ∃ rec : LoopState → Option Code → Loop, rec = fun st pe => { state := st, pending := pe, fn, tmps := a.tmps, params := ps, assign, body, defers := w1.heap.size } := ⟨_, rfl⟩
  obtain ⟨W1, hW1⟩ : ∃ W1, (w1.alloc (.deferred (some []))).alloc (.loop (rec .ready none)) = W1 := ⟨_, rfl⟩
  have hL1 : W1.heap[w1.heap.size + 1]? = some (.loop (rec .ready none)) := by
    rw [← hW1]; have := World.alloc_heap_new (w1.alloc (.deferred (some []))) (.loop (rec .ready none)); rwa [World.size_alloc] at this
  have hK1 : W1.heap[w1.heap.size]? = some (.deferred (some [])) := by
    rw [← hW1]; exact (Below.heap_alloc _ _ _ (by simp)).trans (World.alloc_heap_new w1 _)
  have hS1 : W1.heap.size = w1.heap.size + 2 := by rw [← hW1]; simp
  have hF1 : Fr (fun _ => False) w1 W1 := by rw [← hW1]; exact ((Fr.refl _ w1).alloc _).alloc _
  refine ⟨w1.heap.size + 1, [{ target := .collected w1.heap.size, args := #[] }], W1, { target := .fn (.func gf) lb, args := #[.func (.yield (w1.heap.size + 1)) #[] #[]] }, W1, gf,
    #[.func (.yield (w1.heap.size + 1)) #[] #[]] ++ lb, W1, ?_, ?_, fun _ _ => trivial, ?_, fun e => (by cases e), ?_⟩
  · rw [← hW1, hrec]; exact run_enterLoop_outer _ _ _ _ _
  · simp only [resolve, hg]
    simp [go_sem]
  · simp [invoke, go_sem, eg]
  · refine (callsIn_wide.2 (hseq (w1.heap.size + 1) W1 (fun n2 pre W => I n2 pre W ∧ W.heap[w1.heap.size + 1]? = some (.loop (rec .ready none)) ∧ W.heap[w1.heap.size]? = some (.deferred (some [])) ∧ w1.heap.size + 2 ≤ n2)
      (by omega) hF1 (fun W2 f => ⟨h0 W2 (hF1.trans f (fun _ _ e => e)), (f.block _ (by omega) (fun e => e)).trans hL1, (f.block _ (by omega) (fun e => e)).trans hK1, by have := f.size; omega⟩) ?_)).mono ?_
    · rintro n2 pre r W0 W hn1 hn2 ⟨hi, hl0, hk0, hn3⟩ hf hlen
      have hl : W.heap[w1.heap.size + 1]? = some (.loop (rec .ready none)) := (hf.block _ (Array.getElem?_eq_some_iff.1 hl0).1 (fun e => by omega)).trans hl0
      have hk : W.heap[w1.heap.size]? = some (.deferred (some [])) := (hf.block _ (Array.getElem?_eq_some_iff.1 hk0).1 (fun e => by omega)).trans hk0
      have hlt : w1.heap.size + 1 < W.heap.size := (Array.getElem?_eq_some_iff.1 hl).1
      have hy := run_yield (P := P) (args := encs r) hl (by rw [hrec]; exact hps r)
      rw [hrec] at hy
      refine ⟨fn, _, assign, body, hy, roundIn_of_wpIn hfn (hround _ n2 pre r W0 W (by omega) hn2 hi (hf.mono (fun i _ e => by omega)) hlen _ ?_)⟩
      clear hy
      intro a' Wa hfa hb
      have hla : Wa.heap[w1.heap.size + 1]? = some (.loop (rec .ready none)) := (hfa.block _ hlt (fun e => e)).trans hl
      have hka : Wa.heap[w1.heap.size]? = some (.deferred (some [])) := (hfa.block _ (by omega) (fun e => e)).trans hk
      have hlta := (Array.getElem?_eq_some_iff.1 hla).1
      refine ⟨_, run_beginRound hla (by rw [hrec]), ?_⟩
      have hput : ∀ (X : World) (o : Obj), Fr (fun k => k = w1.heap.size + 1) X (X.putObj (w1.heap.size + 1) o) := fun X o =>
        ⟨rfl, rfl, rfl, by simp, fun k _ hk => World.putObj_heap_other hk⟩
      have hl2 : (Wa.putObj (w1.heap.size + 1) (.loop { rec .ready none with state := .busy })).heap[w1.heap.size + 1]? = some (.loop { rec .ready none with state := .busy }) := World.putObj_heap_same hlta
      have hk2 : (Wa.putObj (w1.heap.size + 1) (.loop { rec .ready none with state := .busy })).heap[w1.heap.size]? = some (.deferred (some [])) := (World.putObj_heap_other (by omega)).trans hka
      refine wpIn_mono (hb _ (hput Wa _)) ?_
      rintro e a3 W3 ⟨rfl, hi3, hf3⟩
      have hsz : (Wa.putObj (w1.heap.size + 1) (.loop { rec .ready none with state := .busy })).heap.size = Wa.heap.size := by simp
      have hl3 := (hf3.block _ (by rw [hsz]; omega) (fun e => by omega)).trans hl2
      have hk3 := (hf3.block _ (by rw [hsz]; omega) (fun e => by omega)).trans hk2
      have hr := run_endRound (P := P) none hl3
      have hf4 := hput W3 (.loop { ({ rec .ready none with state := .busy } : Loop) with state := if (none : Option Code).isNone then .ready else .done, pending := none })
      refine ⟨_, _, hr, rfl, ⟨hIfr _ _ _ _ hi3 (hf4.mono (fun i _ e => by omega)), ?_, (World.putObj_heap_other (by omega)).trans hk3, hn3⟩, ?_⟩
      · rw [World.putObj_heap_same (Array.getElem?_eq_some_iff.1 hl3).1, hrec]; rfl
      · have q1 : Fr (fun k => k < W1.heap.size ∨ (n2 ≤ k ∧ k < W0.heap.size)) W Wa := hfa.mono (fun _ _ e => e.elim)
        have q2 := q1.trans (hput Wa (.loop { rec .ready none with state := .busy })) (fun i _ e => by left; omega)
        have q3 := q2.trans hf3 (fun i _ e => by omega)
        exact q3.trans hf4 (fun i _ e => by left; omega)
    · rintro e W2 ⟨⟨v, rfl⟩, n2, W0, ⟨hi, hl0, hk0, hn3⟩, hf⟩
      have hl : W2.heap[w1.heap.size + 1]? = some (.loop (rec .ready none)) := (hf.block _ (Array.getElem?_eq_some_iff.1 hl0).1 (fun e => by omega)).trans hl0
      have hk : W2.heap[w1.heap.size]? = some (.deferred (some [])) := (hf.block _ (Array.getElem?_eq_some_iff.1 hk0).1 (fun e => by omega)).trans hk0
      have hput : ∀ (X : World) (o : Obj), Fr (fun k => k = w1.heap.size + 1) X (X.putObj (w1.heap.size + 1) o) := fun X o =>
        ⟨rfl, rfl, rfl, by simp, fun k _ hk => World.putObj_heap_other hk⟩
      exact ⟨none, _, by have := run_endLoop (P := P) hl (by rw [hrec]; simp); rw [hrec] at this; exact this,
        hdone n2 _ (hIfr _ _ _ _ (hIfr _ _ _ _ hi (hf.mono (fun i _ e => by omega))) ((hput W2 _).mono (fun i _ e => by omega))) ((World.putObj_heap_other (by omega)).trans hk) hn3⟩

theorem nms_le (es : List Ent) : (nms es).length ≤ es.length := nms_len es
theorem rowsM_len {ea eb : List Ent} (ha : ea.length ≤ 1000) (hb : eb.length ≤ 1000) : (rowsM ea eb).length ≤ 2000 := by
  rw [rowsM_eq, List.length_map]
  have := nms_le (ea ++ eb)
  rw [List.length_append] at this
  omega
theorem own_down {w : World} {base base' e size n : Nat} {v : Value} {xs : List Value} (h : w.ownsRow base e size v n xs) (hb : base' ≤ base) : w.ownsRow base' e size v n xs := by
  refine ⟨h.1, ?_⟩
  rcases h.2 with h0 | ⟨g, cap, cur, hv, hbb, r⟩
  · exact .inl h0
  · exact .inr ⟨g, cap, cur, hv, Nat.le_trans hb hbb, r⟩
/-- What stands between two rounds. -/
structure Jr (w : World) (B5 n2 : Nat) (pre : List Rw) (W : World) : Prop where
  box : ∃ v, Whole W B5 30 #[v] ∧ W.ownsRow n2 35 71 v pre.length (flatR pre)
  fr : Fr (fun _ => False) w W

set_option maxHeartbeats 6400000 in
set_option maxRecDepth 100000 in
theorem TMerge_any (A B : Option Addr) (ca cb : Nat) (ea eb : List Ent) (hna : ea.length ≤ 1000) (hnb : eb.length ≤ 1000) (w : World) (hA : Lies w A (flatE ea)) (hB : Lies w B (flatE eb)) :
    Calls Try.prog 7 #[.slice A ea.length ca, .slice B eb.length cb] w fun e w' => ∃ v, e = .returned v ∧ OwnR w w' v (rowsM ea eb) := by
  refine (callsIn_wide (n := 9)).1 (callsIn_of_wp_marks Try.func7 rfl trivial ?_ rfl)
  simp only [Try.ntmps7, List.size_toArray, List.length_cons, List.length_nil, Nat.reduceAdd, Nat.reduceSub, Array.replicate_succ, Array.replicate_zero, List.push_toArray, List.append_toArray, List.nil_append, List.cons_append]
  refine wpIn_wide.2 ?_
  go_wp2_with (go_at_call 11
               refine (Trows_any A B _ _ ca cb _).mono ?_
               rintro e w1 ⟨rfl, hw1⟩)
  have hw1' := hw1.symm
  rw [hw1']
  have HB5 := Lib.hid (show Whole w1 w.heap.size 30 #[.slice none 0 0] from by subst hw1; exact ((Whole.new w 30 _).fr ((Fr.refl (fun _ => False) _).alloc _) (fun e => e)).fr ((Fr.refl (fun _ => False) _).alloc _) (fun e => e))
  have HF1 := Lib.hid (show Fr (fun _ => False) w w1 from by subst hw1; exact (((Fr.refl _ w).alloc _).alloc _).alloc _)
  have HS1 := Lib.hid (show w1.heap.size = w.heap.size + 3 from by subst hw1; simp)
  have HcA := Lib.hid (show Whole w1 (w.heap.size + 1) 22 #[.slice A ea.length ca] from by subst hw1; have := Whole.new (w.alloc (.cells #[.slice none 0 0] 30)) 22 #[.slice A ea.length ca]; rw [World.size_alloc] at this; exact this.fr ((Fr.refl (fun _ => False) _).alloc _) (fun e => e))
  have HcB := Lib.hid (show Whole w1 (w.heap.size + 1 + 1) 22 #[.slice B eb.length cb] from by subst hw1; have := Whole.new ((w.alloc (.cells #[.slice none 0 0] 30)).alloc (.cells #[.slice A ea.length ca] 22)) 22 #[.slice B eb.length cb]; rw [World.size_alloc, World.size_alloc] at this; exact this)
  have HRl := Lib.hid (show (rowsM ea eb).length ≤ 2000 from rowsM_len hna hnb)
  have HLA := Lib.hid hA
  have HLB := Lib.hid hB
  clear hw1 hw1' hA hB
  refine (wpIn_wide (n := 9)).1 ?_
  refine range_geo (gf := 18) (lb := #[.pointer (some ⟨w.heap.size + 1, 0, none⟩), .pointer (some ⟨w.heap.size + 1 + 1, 0, none⟩)]) rfl (enters_of Try.func18 (by kernel_rfl) rfl) (fun r => #[.agg (rwC r)]) (fun _ => rfl) (rowsM ea eb) ?seq (Jr w w.heap.size) ?fr ?zero ?round ?done
  case seq =>
    intro l W J hl hF hJ0 hY
    exact Trows1_any l A B ca cb ea eb hna hnb W (w.heap.size + 1) (w.heap.size + 1 + 1) ((HcA.out.fr hF (fun e => e)).cell 0) ((HcB.out.fr hF (fun e => e)).cell 0) (HLA.out.fr (HF1.out.trans hF (fun _ _ e => e)) (fun _ _ e => e)) (HLB.out.fr (HF1.out.trans hF (fun _ _ e => e)) (fun _ _ e => e)) J hJ0 hY
  case fr =>
    rintro n2 pre W W' ⟨⟨v, hb, ho⟩, hf⟩ f
    have := HS1.out
    exact ⟨⟨v, hb.fr f (fun e => by omega), own_fr ho f (fun k hk e => by have := (World.ownsRow.lt ho k hk).1; omega)⟩, hf.trans f (fun i hi e => by omega)⟩
  case zero =>
    intro W2 f
    exact ⟨⟨_, HB5.out.fr f (fun e => e), World.ownsRow_nil _ _ _ _⟩, HF1.out.trans f (fun _ _ e => e)⟩
  case round =>
    intro l n2 pre r W0 W hn2 hW0 hi hf hlen K hK
    have HK := Lib.hid hK
    obtain ⟨cr, hcr⟩ : ∃ c, rwC r = c := ⟨_, rfl⟩
    have hcs : cr.size = 71 := by rw [← hcr]; exact rwC_size r
    have HCA := Lib.hid (show cr.all (·.oneCell') = true from by rw [← hcr]; exact rwC_all r)
    have HCR := Lib.hid hcr
    obtain ⟨⟨v, hb, ho⟩, hfw⟩ := hi
    have HB := Lib.hid (show Whole W w.heap.size 30 #[v] from hb.fr hf (fun e => by have := HS1.out; omega))
    have HO := Lib.hid (show W.ownsRow n2 35 71 v pre.length (flatR pre) from own_fr ho hf (fun k hk e => by have := (World.ownsRow.lt ho k hk).1; omega))
    have HOb := Lib.hid (show ∀ j, v.ownBlock = some j → n2 ≤ j ∧ j < W0.heap.size from fun j hj => World.ownsRow.lt ho j hj)
    have HFW := Lib.hid (show Fr (fun _ => False) w W from hfw.trans hf (fun i hi e => by have := HS1.out; omega))
    have HSW := Lib.hid (show W0.heap.size ≤ W.heap.size from hf.size)
    obtain ⟨L, hL⟩ : ∃ L, pre.length = L := ⟨_, rfl⟩
    have HLn := Lib.hid hL
    have hL2 : L ≤ 2000 := by have := HRl.out; omega
    rw [hL] at HO
    obtain ⟨i0, hi0, hz0, hz1, hz2⟩ := info_parts infoB
    have hz3 := zeroB_cells
    have hzb := zero_both
    have hZs := zeroB_size
    obtain ⟨Zb, hZb⟩ : ∃ Z, zeroB = Z := ⟨_, rfl⟩
    rw [hZb] at hz0 hz3 hzb hZs
    clear hK hcr ho hb hfw hf hZb hL hlen
    refine wpIn_region_lit ?_
    refine wpListIn_of_wpList (fun ⟨_, _, h⟩ => h) _ (by intro o ho c; simp only [List.mem_cons, List.not_mem_nil, or_false] at ho; rcases ho with rfl | rfl <;> simp) _ _ ?_
    rw [HCR.out]
    obtain ⟨w3, hw3⟩ : ∃ w3, W.alloc (.cells Zb 35) = w3 := ⟨_, rfl⟩
    have HZ3 := Lib.hid (show Whole w3 W.heap.size 35 Zb from by subst hw3; exact Whole.new W 35 Zb)
    have HF3 := Lib.hid (show Fr (fun _ => False) W w3 from by subst hw3; exact (Fr.refl _ W).alloc _)
    go_wp2_with (refine wpList_store_at rfl 35 (.tmp 6) _ rfl W.heap.size 0 35 Zb cr rfl rfl HZ3.out (by rw [hZs, hcs]; exact Nat.le_refl _) (by rw [hcs]; exact size_both) HCA.out ?_
                 intro w4 hw4 hf4
                 rw [laidAt_all _ _ (by rw [hZs, hcs])] at hw4
                 have HW4 := Lib.hid hw4
                 have HF4 := Lib.hid (show Fr (fun _ => False) W w4 from HF3.out.trans hf4 (fun i hi e => by omega))
                 clear hw4 hf4)
    simp only [Act.put]
    refine HK.out _ w4 HF4.out (fun wb hfb => ?_)
    have hb5 := HS1.out
    have HBb := Lib.hid (show Whole wb w.heap.size 30 #[v] from (HB.out.fr HF4.out (fun e => e)).fr hfb (fun e => by omega))
    have HRow := Lib.hid (show Whole wb W.heap.size 35 cr from HW4.out.fr hfb (fun e => by have := HSW.out; omega))
    have HOwn := Lib.hid (show wb.ownsRow n2 35 71 v L (flatR pre) from own_fr (own_fr HO.out HF4.out (fun _ _ e => e)) hfb (fun k hk e => by have := (HOb.out k hk).1; omega))
    have HFb := Lib.hid (show Fr (fun _ => False) w wb from (HFW.out.trans HF4.out (fun _ _ e => e)).trans hfb (fun i hi e => by omega))
    have HSb := Lib.hid (show W0.heap.size ≤ wb.heap.size from by have := HSW.out; have := HF4.out.size; have := hfb.size; omega)
    have c5 : wb.cell? ⟨w.heap.size, 0, none⟩ = some v := HBb.out.cell 0
    clear hfb HF4 HW4 HF3 HZ3 hw3 HK HO HFW HB hzb
    refine wpIn_block ?_
    refine wpIn_region_lit ?_
    refine wpListIn_of_wpList (fun ⟨_, _, h⟩ => by cases h.1) _ (by intro o ho c; simp only [List.mem_cons, List.not_mem_nil, or_false] at ho; rcases ho with rfl | rfl | rfl | rfl | rfl <;> simp) _ _ ?_
    go_wp2_with (first
      | (refine wpList_load_mid rfl 35 (.tmp 6) rfl W.heap.size 0 rfl cr.toList _ HRow.out.all_rangeM Try.underlying35 rfl (by rw [Array.length_toList, hcs]; exact size_both) ?_
         rw [Array.toArray_toList])
      | (refine wpList_buildSlice_to rfl 30 1 _ rfl #[(0, .agg cr)] (by simp [Act.eval, Act.put]) _ _ (build_row cr hcs _) ?_)
      | (at_builtin; refine wpList_append_row _ rfl (.tmp 11) (.tmp 13) 30 30 rfl n2 35 i0 (.agg Zb) 71 136 Try.underlying30 hi0 hz0 hz1 hz2 hz3 v L (flatR pre) rfl (HOwn.out.alloc _) _ 1 cr.toList rfl (src_row _ cr hcs HCA.out) (by unfold maxLen; omega) (by omega) (by have := HSb.out; simp; omega) ?_
         intro v6 w6 o6 g6 at6
         obtain ⟨A6, k6, hv6, _, _⟩ := own_slice o6
         subst hv6
         have HO6 := Lib.hid o6
         have HF56 := Lib.hid (show Fr (fun k => n2 ≤ k ∧ k < W0.heap.size) wb w6 from ((Fr.refl _ wb).alloc _).grown g6 (fun k hk _ => HOb.out k hk))
         have HB6 := Lib.hid (HBb.out.fr HF56.out (fun e => by omega))
         have c6 : w6.cell? ⟨w.heap.size, 0, none⟩ = some v := HB6.out.cell 0
         have f6 : w6.frozen? ⟨w.heap.size, 0, none⟩ = false := HB6.out.frozen 0
         clear o6 g6 at6))
    have HF67 : Fr (fun k => k = w.heap.size) w6 (w6.setCell ⟨w.heap.size, 0, none⟩ (.slice A6 (L + 1) k6)) := Fr.setCell (S := fun k => k = w.heap.size) (p := ⟨w.heap.size, 0, none⟩) (Fr.refl _ w6) (fun _ => rfl) _
    refine ⟨trivial, ⟨⟨_, HB6.out.set 0 (.slice A6 (L + 1) k6), ?_⟩, ?_⟩, ?_⟩
    · rw [flatR_append, flatR_one, HCR.out, List.length_append, HLn.out]
      exact own_fr HO6.out HF67 (fun k hk e => by have := (World.ownsRow.lt HO6.out k hk).1; omega)
    · exact (HFb.out.trans HF56.out (fun i hi e => by omega)).trans HF67 (fun i hi e => by omega)
    · exact (HF56.out.mono (fun i _ e => .inr e)).trans HF67 (fun i _ e => by left; omega)
  case done =>
    rintro n2 W ⟨⟨v, hb, ho⟩, hf⟩ hk hn2
    have c5 := hb.cell 0
    simp only [Exit.inBlock, Exit.then]
    go_wp2
    refine ⟨by simp, .inl ⟨_, _, rfl, run_takeDeferred hk, ?_⟩⟩
    have f := (show Fr (fun k => k = w1.heap.size) W (W.putObj w1.heap.size (.deferred none)) from ⟨rfl, rfl, rfl, by simp, fun k _ hk => World.putObj_heap_other hk⟩)
    have hs := HS1.out
    refine ⟨_, results_tmp rfl _ _ _, _, rfl, ?_, hf.trans f (fun i hi e => by omega)⟩
    have o2 := own_fr ho f (fun k hk e => by have := (World.ownsRow.lt ho k hk).1; omega)
    exact own_down o2 (by omega)
end Go.Proofs.Ytinjednmamkjgaa

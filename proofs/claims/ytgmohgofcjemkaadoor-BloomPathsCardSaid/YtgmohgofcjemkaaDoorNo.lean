/- What is proved: a range over a function whose body turns cells of its own and may return. Conditions: each theorem names its own. -/
import Derived.Test.YtgmohgofcjemkaaDoorBa
import Derived.RangeFuncLeaves
import Derived.RangeFuncMany
import Derived.RangeFuncCalls
import Derived.Shelf.Abstract
import Derived.Deep.CutBlock
import Derived.Deep.RegionWith
import Derived.WalkSpells
namespace Go.Proofs.YtgmohgofcjemkaaDoor
open Go.RowKit Go.Shelf
set_option linter.unusedVariables false

/-! A region of a round is walked as any other. -/
theorem wpIn_of_op {P : Program} {lp n : Nat} {o : Oper} {a : Act} {w : World} {K : Act → World → Prop} {Q : Exit → Act → World → Prop} (hd : ∀ c, o.op ≠ .defer c) (h : o.wp P a w K Q) : o.wpIn (Fence.wide.inRound lp) n P a w K Q := by
  refine ⟨fun _ _ => trivial, ?_⟩
  show o.uponIn _ _ _ a K Q ((o.semAt (some lp) a.eval).run P w)
  rw [Oper.semAt_some lp a.eval o hd]
  unfold Oper.wp at h
  generalize (execOp a.eval o).run P w = r at h ⊢
  cases r with
  | ok nx w' =>
    cases nx with
    | value v => exact h
    | skip => exact h
    | defer d => exact h
    | enter f args => exact ⟨fun e => (by cases e), CallsIn.inRound lp (callsIn_wide.2 h)⟩
    | row row args => exact ⟨fun e => (by cases e), fun c cs _ => let ⟨v, w1, h1, h2⟩ := h c cs; ⟨v, w1, h1, stepsIn_wide.2 h2⟩⟩
    | _ => exact h.elim
  | halt x w' =>
    cases x with
    | panic v => exact h
    | _ => exact h.elim
theorem wpListIn_of_wpList {P : Program} {lp n : Nat} {ops : Array Oper} {Q : Exit → Act → World → Prop} (hQ : ¬ LetsOut Q) : ∀ (l : List Oper), (∀ o ∈ l, ∀ c, o.op ≠ .defer c) → ∀ a w, wpList P ops Q l a w → wpListIn (Fence.wide.inRound lp) n P ops Q l a w := by
  intro l
  induction l with
  | nil => exact fun _ a w h => h
  | cons o l ih =>
    intro hd a w h
    unfold wpList at h
    unfold wpListIn
    split
    · rename_i hw
      rw [if_pos hw] at h
      rcases h with h | h
      · exact wpIn_of_op (hd o (by simp)) (Oper.wp_mono (fun a w h => ih (fun o ho => hd o (List.mem_cons_of_mem _ ho)) a w h) h)
      · exact absurd h.2 hQ
    · rename_i hw
      rw [if_neg hw] at h
      exact ⟨fun _ _ => trivial, ih (fun o ho => hd o (List.mem_cons_of_mem _ ho)) _ _ h⟩


/-! A range over a function whose iterator turns nothing, and whose body turns cells of its own and may return. -/
theorem range_leave {P : Program} {g : Operand} {ps : Array Tmp} {assign body : Code} {Q : Exit → Act → World → Prop} {a : Act} {w1 : World} {n : Nat} {gf : Nat} {lb : Array Value}
    (hg : a.eval g = .func (.func gf) #[] lb) (eg : ∀ args w, (callFunc gf args).run P w = .ok (.enter gf args) w)
    (N : Nat) (encs : Nat → Array Value) (hps : ∀ k, (encs k).size = ps.size) (Rd : World → Prop)
    (hseq : ∀ (l : Nat) (W : World) (J Jx : Nat → World → Prop), (∀ W', Fr (fun _ => False) W W' → J 0 W') → (∀ k W', J k W' → Rd W') →
      (∀ k W', J k W' → k < N → YieldAt Fence.wide 0 P l (encs k) W' fun e W2 => (e = .returned (.bool true) ∧ J (k + 1) W2) ∨ (e = .returned (.bool false) ∧ Jx (k + 1) W2)) →
      Calls P gf (#[.func (.yield l) #[] #[]] ++ lb) W fun e W' => (∃ v, e = .returned v) ∧ (J N W' ∨ ∃ k, k ≤ N ∧ Jx k W'))
    (I Ix : Nat → World → Prop)
    (hI : ∀ k W W', I k W → Fr (fun j => j = w1.heap.size + 1) W W' → (∃ o, W.heap[w1.heap.size + 1]? = some (.loop o)) → I k W')
    (hIx : ∀ k W W', Ix k W → Fr (fun j => j = w1.heap.size + 1) W W' → (∃ o, W.heap[w1.heap.size + 1]? = some (.loop o)) → Ix k W')
    (hRd : ∀ k W, I k W → Rd W)
    (h0 : ∀ W, Fr (fun _ => False) w1 W → I 0 W)
    (hround : ∀ (l k : Nat) (W : World), I k W → k < N → ∀ K : Act → World → Prop,
      (∀ a', (∀ Wb, I k Wb → (∃ o, Wb.heap[w1.heap.size + 1]? = some (.loop o)) → (∃ o, Wb.heap[w1.heap.size]? = some (.deferred o)) →
        body.wpIn (Fence.wide.inRound l) 0 P (fun e a3 W3 => ((e = .normal ∧ I (k + 1) W3) ∨ (e = .ret ∧ Ix (k + 1) W3)) ∧ Fr (fun j => j ≠ w1.heap.size ∧ j ≠ w1.heap.size + 1) Wb W3) a' Wb) → K a' W) →
      assign.wpIn (Fence.wide.inRound l) 0 P (Exit.then K (fun _ _ _ => False)) { tmps := (ps.zip (encs k)).foldl (fun t (p, v) => t.setIfInBounds p v) a.tmps, defers := [] } W)
    (hdone : ∀ W, I N W → W.heap[w1.heap.size]? = some (.deferred (some [])) → Q .normal { a with defers := { target := .collected w1.heap.size, args := #[] } :: a.defers } W)
    (hstop : ∀ k W, k ≤ N → Ix k W → W.heap[w1.heap.size]? = some (.deferred (some [])) → Code.ret.wpIn Fence.wide n P Q { a with defers := { target := .collected w1.heap.size, args := #[] } :: a.defers } W) :
    (Code.rangeFunc g ps assign body).wpIn Fence.wide n P Q a w1 := by
  refine wpIn_rangeFunc ?_
  intro fn hfn
  obtain ⟨rec, hrec⟩ : ∃ rec : LoopState → Option Code → Loop, rec = fun st pe => { state := st, pending := pe, fn, tmps := a.tmps, params := ps, assign, body, defers := w1.heap.size } := ⟨_, rfl⟩
  obtain ⟨W1, hW1⟩ : ∃ W1, (w1.alloc (.deferred (some []))).alloc (.loop (rec .ready none)) = W1 := ⟨_, rfl⟩
  have hL1 : W1.heap[w1.heap.size + 1]? = some (.loop (rec .ready none)) := by
    rw [← hW1]; have := World.alloc_heap_new (w1.alloc (.deferred (some []))) (.loop (rec .ready none)); rwa [World.size_alloc] at this
  have hK1 : W1.heap[w1.heap.size]? = some (.deferred (some [])) := by
    rw [← hW1]; exact (Below.heap_alloc _ _ _ (by simp)).trans (World.alloc_heap_new w1 _)
  have hF1 : Fr (fun _ => False) w1 W1 := by rw [← hW1]; exact ((Fr.refl _ w1).alloc _).alloc _
  have hput : ∀ (X : World) (o : Obj), Fr (fun k => k = w1.heap.size + 1) X (X.putObj (w1.heap.size + 1) o) := fun X o =>
    ⟨rfl, rfl, rfl, by simp, fun k _ hk => World.putObj_heap_other hk⟩
  refine ⟨w1.heap.size + 1, [{ target := .collected w1.heap.size, args := #[] }], W1, { target := .fn (.func gf) lb, args := #[.func (.yield (w1.heap.size + 1)) #[] #[]] }, W1, gf,
    #[.func (.yield (w1.heap.size + 1)) #[] #[]] ++ lb, W1, ?_, ?_, fun _ _ => trivial, ?_, fun e => (by cases e), ?_⟩
  · rw [← hW1, hrec]; exact run_enterLoop_outer _ _ _ _ _
  · simp only [resolve, hg]
    simp [go_sem]
  · simp [invoke, go_sem, eg]
  · refine (callsIn_wide.2 (hseq (w1.heap.size + 1) W1 (fun k W => I k W ∧ W.heap[w1.heap.size + 1]? = some (.loop (rec .ready none)) ∧ W.heap[w1.heap.size]? = some (.deferred (some [])))
      (fun k W => Ix k W ∧ W.heap[w1.heap.size + 1]? = some (.loop (rec .done (some .ret))) ∧ W.heap[w1.heap.size]? = some (.deferred (some [])))
      (fun W' hf => ⟨h0 W' (hF1.trans hf (fun _ _ e => e)), (hf.block _ (Array.getElem?_eq_some_iff.1 hL1).1 (fun e => e)).trans hL1, (hf.block _ (Array.getElem?_eq_some_iff.1 hK1).1 (fun e => e)).trans hK1⟩) (fun k W h => hRd k W h.1) ?_)).mono ?_
    · rintro k W ⟨hi, hl, hk⟩ hlen
      have hlt : w1.heap.size + 1 < W.heap.size := (Array.getElem?_eq_some_iff.1 hl).1
      have hy := run_yield (P := P) (args := encs k) hl (by rw [hrec]; exact hps k)
      rw [hrec] at hy
      refine ⟨fn, _, assign, body, hy, roundIn_of_wpIn hfn (hround _ k W hi hlen _ ?_)⟩
      clear hy
      intro a' hb
      refine ⟨_, run_beginRound hl (by rw [hrec]), ?_⟩
      have hl2 : (W.putObj (w1.heap.size + 1) (.loop { rec .ready none with state := .busy })).heap[w1.heap.size + 1]? = some (.loop { rec .ready none with state := .busy }) := World.putObj_heap_same hlt
      have hk2 : (W.putObj (w1.heap.size + 1) (.loop { rec .ready none with state := .busy })).heap[w1.heap.size]? = some (.deferred (some [])) := (World.putObj_heap_other (by omega)).trans hk
      refine wpIn_mono (hb _ (hI k W _ hi (hput W _) ⟨_, hl⟩) ⟨_, hl2⟩ ⟨_, hk2⟩) ?_
      rintro e a3 W3 ⟨hh, hf3⟩
      have hsz : (W.putObj (w1.heap.size + 1) (.loop { rec .ready none with state := .busy })).heap.size = W.heap.size := by simp
      have hl3 := (hf3.block _ (by rw [hsz]; omega) (fun e => e.2 rfl)).trans hl2
      have hk3 := (hf3.block _ (by rw [hsz]; omega) (fun e => e.1 rfl)).trans hk2
      rcases hh with ⟨rfl, hi3⟩ | ⟨rfl, hi3⟩
      · have hr := run_endRound (P := P) none hl3
        refine ⟨_, _, hr, .inl ⟨rfl, hI _ _ _ hi3 (hput W3 _) ⟨_, hl3⟩, ?_, (World.putObj_heap_other (by omega)).trans hk3⟩⟩
        rw [World.putObj_heap_same (Array.getElem?_eq_some_iff.1 hl3).1, hrec]; rfl
      · have hr := run_endRound (P := P) (some .ret) hl3
        refine ⟨_, _, hr, .inr ⟨rfl, hIx _ _ _ hi3 (hput W3 _) ⟨_, hl3⟩, ?_, (World.putObj_heap_other (by omega)).trans hk3⟩⟩
        rw [World.putObj_heap_same (Array.getElem?_eq_some_iff.1 hl3).1, hrec]; rfl
    · rintro e W2 ⟨⟨v, rfl⟩, ⟨hi, hl, hk⟩ | ⟨k, hkN, hi, hl, hk⟩⟩
      · exact ⟨none, _, by have := run_endLoop (P := P) hl (by rw [hrec]; simp); rw [hrec] at this; exact this,
          hdone _ (hI _ _ _ hi (hput W2 _) ⟨_, hl⟩) ((World.putObj_heap_other (by omega)).trans hk)⟩
      · exact ⟨some .ret, _, by have := run_endLoop (P := P) hl (by rw [hrec]; simp); rw [hrec] at this; exact this,
          hstop k _ hkN (hIx _ _ _ hi (hput W2 _) ⟨_, hl⟩) ((World.putObj_heap_other (by omega)).trans hk)⟩

/-! Marks: what a frame that held such loops hands over on its way out. -/
def mkD (r : Nat) : Deferred := { target := .collected r, args := #[] }
theorem leaves_marks {P : Program} {F : Fence} {n : Nat} {fn : Func} {tmps : Array Value} {R : Ending → World → Prop} : ∀ (rs : List Nat) (w : World), rs.Nodup → (∀ r ∈ rs, w.heap[r]? = some (.deferred (some []))) →
    (∀ w', Fr (fun k => k ∈ rs) w w' → LeavesInM F n P fn tmps R [] .returning w') → LeavesInM F n P fn tmps R (rs.map mkD) .returning w
  | [], w, _, _, h => h w (Fr.refl _ w)
  | r :: rs, w, hn, hm, h => by
    obtain ⟨hn1, hn2⟩ := List.nodup_cons.1 hn
    have hk := hm r (by simp)
    refine ⟨by simp, .inl ⟨r, _, rfl, run_takeDeferred hk, ?_⟩⟩
    refine leaves_marks rs _ hn2 (fun r2 hr2 => ?_) (fun w' f => h w' ?_)
    · rw [World.putObj_heap_other (fun e => hn1 (by rw [← e]; exact hr2))]
      exact hm r2 (by simp [hr2])
    · have f1 : Fr (fun k => k = r) w (w.putObj r (.deferred none)) := ⟨rfl, rfl, rfl, by simp, fun k _ hk => World.putObj_heap_other hk⟩
      exact (f1.mono (fun i _ e => by rw [show i = r from e]; simp)).trans f (fun i _ e => List.mem_cons_of_mem _ e)
end Go.Proofs.YtgmohgofcjemkaaDoor

/- What is proved: what the walks of this seat need of layers below, merged out of the texts Obd (of each just what is needed). Conditions: each theorem names its own. -/
import Derived.Test.YtddckehejdpjcabGreatDoorBe
/- What is proved: appends onto bytes that were made of a text (a row with a mark behind its cells). Conditions: nothing is too long for any machine. -/
namespace Go.Proofs.YtddckehejdpjcabGreatDoor
open Go.RowKit Go.Sort Go.Shelf
set_option linter.unusedVariables false
/-- Bytes of the call's own, in a row of which no cell is frozen. -/
def OwnF (w0 w : World) (v : Value) (l : List UInt8) : Prop := ∃ g cap, v = .slice (some ⟨g, 0, none⟩) l.length cap ∧ w0.heap.size ≤ g ∧ g < w.heap.size ∧ l.length ≤ cap ∧ cap ≤ maxLen ∧ (∀ j, j < cap → (w.cell? ⟨g, j, none⟩).isSome = true) ∧ (∀ j, j < cap → w.frozen? ⟨g, j, none⟩ = false) ∧ w.rangeAt g 0 (bytesV l) ∧ Fr (fun _ => False) w0 w
theorem OwnF.fr2 {w0 w : World} {v : Value} {l : List UInt8} (h : OwnF w0 w v l) : Fr (fun _ => False) w0 w := by
  obtain ⟨_, _, _, _, _, _, _, _, _, _, h⟩ := h
  exact h
theorem OwnF.slice {w0 w : World} {v : Value} {l : List UInt8} (h : OwnF w0 w v l) : ∃ A c, v = .slice A l.length c ∧ l.length ≤ c ∧ Lies w A (bytesV l) := by
  obtain ⟨g, cap, hv, _, _, hc, _, _, _, hr, _⟩ := h
  exact ⟨_, cap, hv, hc, .inr ⟨g, 0, rfl, hr⟩⟩
theorem frozen_heap {w w' : World} {g : Nat} (h : w'.heap[g]? = w.heap[g]?) (j : Nat) : w'.frozen? ⟨g, j, none⟩ = w.frozen? ⟨g, j, none⟩ := by
  unfold World.frozen?
  rw [h]
theorem cell_heap {w w' : World} {g : Nat} (h : w'.heap[g]? = w.heap[g]?) (j : Nat) : w'.cell? ⟨g, j, none⟩ = w.cell? ⟨g, j, none⟩ := by
  unfold World.cell?
  rw [h]
theorem OwnF.fr {w0 w w' : World} {v : Value} {l : List UInt8} (h : OwnF w0 w v l) (f : Fr (fun _ => False) w w') : OwnF w0 w' v l := by
  obtain ⟨g, cap, hv, h1, h2, h3, h4, h5, h6, h7, h8⟩ := h
  have hb := f.block g h2 (fun e => e)
  refine ⟨g, cap, hv, h1, Nat.lt_of_lt_of_le h2 f.size, h3, h4, fun j hj => ?_, fun j hj => ?_, fun j u hu => ?_, h8.trans f (fun _ _ e => e)⟩
  · rw [cell_heap hb]; exact h5 j hj
  · rw [frozen_heap hb]; exact h6 j hj
  · rw [cell_heap hb]; exact h7 j u hu
theorem OwnF.weaken {w0 w1 w : World} {v : Value} {l : List UInt8} (h : OwnF w1 w v l) (f : Fr (fun _ => False) w0 w1) : OwnF w0 w v l := by
  obtain ⟨g, cap, hv, h1, h2, h3, h4, h5, h6, h7, h8⟩ := h
  exact ⟨g, cap, hv, Nat.le_trans f.size h1, h2, h3, h4, h5, h6, h7, f.trans h8 (fun _ _ e => e)⟩
theorem fr_setCells {S : Nat → Prop} {w : World} {g : Nat} : ∀ (vs : List Value) (o : Nat) (w' : World), Fr S w w' → (g < w.heap.size → S g) → Fr S w (w'.setCells g o vs)
  | [], _, _, h, _ => h
  | v :: r, o, w', h, hs => by
    rw [World.setCells]
    exact fr_setCells r (o + 1) _ (h.setCell hs v) hs
theorem size_setCells' (g : Nat) : ∀ (vs : List Value) (o : Nat) (w : World), (w.setCells g o vs).heap.size = w.heap.size
  | [], _, _ => rfl
  | v :: r, o, w => by rw [World.setCells, size_setCells' g r]; simp [World.setCell]
/-- A row just laid. -/
theorem ownF_new (w0 w : World) (l : List UInt8) (cap : Nat) (cur : Array Value) (fz : Nat × Nat) (f : Fr (fun _ => False) w0 w) (hcs : cur.size = cap) (hl : l.length ≤ cap) (hm : cap ≤ maxLen) (hz : cap ≤ fz.1 ∨ fz.2 = 0) (hx : ∀ (j : Nat) (u : Value), (bytesV l)[j]? = some u → cur[j]? = some u) :
    OwnF w0 (w.alloc (.cells cur 5 fz)) (.slice (some ⟨w.heap.size, 0, none⟩) l.length cap) l := by
  have hb : (w.alloc (.cells cur 5 fz)).heap[w.heap.size]? = some (.cells cur 5 fz) := heap_alloc_new w _
  refine ⟨w.heap.size, cap, rfl, f.size, by simp, hl, hm, fun j hj => ?_, fun j hj => ?_, fun j u hu => ?_, f.alloc _⟩
  · rw [cell_of_row _ _ _ _ _ _ hb, Array.getElem?_eq_getElem (by omega)]; rfl
  · unfold World.frozen?
    rw [hb]
    rcases hz with hz | hz
    · simp; omega
    · simp [hz]
  · rw [Nat.zero_add, cell_of_row _ _ _ _ _ _ hb]
    exact hx j u hu
/-- A text's bytes, in a row of their own. -/
theorem conv_own (w : World) (l : List UInt8) (hl : l.length ≤ 1000000) : ∃ v w', (convert 9 22 (.string (strB l))).run Tryz.prog w = .ok v w' ∧ OwnF w w' v l := by
  have h := run_bytes_of_string (P := Tryz.prog) w 9 22 5 (strB l) Tryz.underlying9 Tryz.underlying22 Tryz.underlying5
  have hs := strB_size l
  have hge := grownCap_ge w (strB l).size 0 5
  have hcm := grownCap_le_maxLen w (strB l).size 0 5 (by rw [hs]; unfold maxLen; omega)
  have hsz : (bytesRow (strB l) (grownCap w (strB l).size 0 5)).size = grownCap w (strB l).size 0 5 := by
    have e : (strB l).data.size = (strB l).size := rfl
    rw [bytesRow, Array.size_append, Array.size_map, Array.size_replicate, e]
    omega
  refine ⟨_, _, h, ?_⟩
  have hn := ownF_new w w.drew l (grownCap w (strB l).size 0 5) (bytesRow (strB l) (grownCap w (strB l).size 0 5)) ((bytesRow (strB l) (grownCap w (strB l).size 0 5)).size, (bytesRow (strB l) (grownCap w (strB l).size 0 5)).size + 1) ((Fr.refl _ w).drew) hsz (by rw [← hs]; exact hge) hcm (.inl (by rw [hsz]; exact Nat.le_refl _)) (fun j u hu => by
    have hj : j < l.length := by
      have := (List.getElem?_eq_some_iff.1 hu).1
      rwa [bytesV_length] at this
    rw [bytesRow, Array.getElem?_append_left (by simpa [strB] using hj), Array.getElem?_map]
    rw [bytesV, List.getElem?_map] at hu
    simpa [strB, byteV] using hu)
  rw [hs] at hn ⊢
  exact hn
theorem run_append_own {w0 w : World} {v : Value} {l : List UInt8} (h : OwnF w0 w v l) (t : List UInt8) (x : Value) (m : Nat) (tx : TypeId) (hm : m = t.length) (hs : Src Tryz.prog 1 tx x m (bytesV t) w) (hl : l.length ≤ 1000000) (ht : t.length ≤ 1000000) :
    ∃ v' w', (Builtin.append_ #[22, tx] 22 #[v, x]).run Tryz.prog w = .ok v' w' ∧ OwnF w0 w' v' (l ++ t) := by
  subst hm
  obtain ⟨i0, hi, hz0, hz1, hz2⟩ := info_parts info_u8
  obtain ⟨g, cap, hv, h1, h2, h3, h4, h5, h6, h7, h8⟩ := h
  subst hv
  have hlen : (l ++ t).length = l.length + t.length := List.length_append
  by_cases hroom : l.length + t.length ≤ cap
  · have hr := run_append_room_src (P := Tryz.prog) w 22 tx 22 5 i0 Tryz.underlying22 hi g 0 l.length cap x t.length (bytesV t) (by rw [hz1]; exact hs) hroom
      (fun j hj => by rw [bytesV_length] at hj; rw [hz1, Nat.zero_add, Nat.mul_one]; exact h5 _ (by omega)) (fun j hj => by rw [bytesV_length] at hj; rw [hz1, Nat.zero_add, Nat.mul_one]; exact h6 _ (by omega))
    rw [hz1, Nat.zero_add, Nat.mul_one] at hr
    refine ⟨_, _, hr, g, cap, by rw [hlen], h1, by rw [size_setCells']; exact h2, by rw [hlen]; exact hroom, h4, fun j hj => ?_, fun j hj => ?_, ?_, ?_⟩
    · exact World.isSome_setCells g _ _ w _ (h5 j hj)
    · rw [World.frozen?_setCells]; exact h6 j hj
    · rw [bytesV_append]
      have a1 := World.rangeAt_setCells_apart (w := w) h7 g l.length (bytesV t) (.inr (.inl (by rw [bytesV_length]; omega)))
      have a2 := World.rangeAt_setCells_same w g l.length (bytesV t) (fun j hj => ⟨by rw [bytesV_length] at hj; exact h5 _ (by omega), by rw [bytesV_length] at hj; exact h6 _ (by omega)⟩)
      intro j u hu
      rcases Nat.lt_or_ge j (bytesV l).length with hj | hj
      · rw [List.getElem?_append_left hj] at hu
        exact a1 j u hu
      · rw [List.getElem?_append_right hj] at hu
        have := a2 _ u hu
        rw [bytesV_length] at this hj
        rwa [show l.length + (j - l.length) = 0 + j by omega] at this
    · exact fr_setCells _ _ _ h8 (fun hg => absurd hg (by omega))
  · have hold : (Builtin.firstCells i0.size l.length (.slice (some ⟨g, 0, none⟩) l.length cap)).run Tryz.prog w.drew = .ok (bytesV l).toArray w.drew := by
      rw [hz1]
      refine run_firstCells_some w.drew 1 l.length ⟨g, 0, none⟩ l.length cap (bytesV l) (by rw [bytesV_length, Nat.mul_one]) (fun j u hu => ?_)
      rw [add_off]
      exact h7 j u hu
    have hr := run_append_grow_src (P := Tryz.prog) w 22 tx 22 5 i0 (.int .u8 0) Tryz.underlying22 hi hz0 (some ⟨g, 0, none⟩) l.length cap (bytesV l) hold x t.length (bytesV t) (by rw [hz1]; exact hs) (by omega) (by omega) (growslice_fits (by omega) (by rw [hz2]; omega))
    have hge := grownCap_ge w (l.length + t.length) cap 5
    have hcm := grownCap_le_maxLen w (l.length + t.length) cap 5 (by unfold maxLen; omega)
    refine ⟨_, _, hr, ?_⟩
    have hn := ownF_new w0 w.drew (l ++ t) (grownCap w (l.length + t.length) cap 5) ((bytesV l ++ bytesV t).toArray ++ Builtin.zeroCells (Value.int .u8 0).cells (grownCap w (l.length + t.length) cap 5 - (l.length + t.length))) (0, 0) h8.drew
      (by rw [Array.size_append, List.size_toArray, size_zeroCells, List.length_append, bytesV_length, bytesV_length]; show _ + _ * 1 = _; omega) (by rw [hlen]; exact hge) hcm (.inr rfl) (fun j u hu => by
        rw [← bytesV_append]
        have hj : j < (bytesV (l ++ t)).length := (List.getElem?_eq_some_iff.1 hu).1
        rw [Array.getElem?_append_left (by simpa using hj)]
        simpa using hu)
    rw [hlen] at hn
    exact hn
theorem wpList_append_own {ops : Array Oper} {rest : List Oper} {o : Oper} {a : Act} {w : World} {Q : Exit → Act → World → Prop} (hgd : o.guard = none) (s x : Operand) (tx : TypeId)
    (ho : o.op = .call { callee := .builtin .append, args := #[s, x], argTypes := #[22, tx] }) (hty : o.type = 22)
    {w0 : World} {v : Value} {l : List UInt8} (hv : a.eval s = v) (h : OwnF w0 w v l) (t : List UInt8) (y : Value) (m : Nat) (hx : a.eval x = y) (hm : m = t.length) (hs : Src Tryz.prog 1 tx y m (bytesV t) w) (hl : l.length ≤ 1000000) (ht : t.length ≤ 1000000)
    (hn : ∀ v' w', OwnF w0 w' v' (l ++ t) → wpList Tryz.prog ops Q rest (a.put o.dst v') w') : wpList Tryz.prog ops Q (o :: rest) a w :=
  wpList_plain hgd fun K hK => by
    obtain ⟨v', w', hrun, h2⟩ := run_append_own h t y m tx hm hs hl ht
    unfold Oper.wp execOp
    simp only [ho, hty, resolve, invoke, builtin, Sem.run_bind, Sem.run_pure, Result.andThen_ok, List.map_toArray, List.map_cons, List.map_nil, hv, hx, hrun]
    exact hK _ _ (hn v' w' h2)
end Go.Proofs.YtddckehejdpjcabGreatDoor

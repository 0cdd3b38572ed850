/- What is proved: plain facts on lists of ids, some of them twice: what is left when each stands once; stores into a list of the call's own. Conditions: none. -/
import Derived.Test.YtbfbgopbelmghaaOje
namespace Go.Proofs.Ytbfbgopbelmghaa
open Go.RowKit
set_option linter.unusedVariables false

/-- No one ahead of a smaller one. -/
def sle (l : List Nat) : Prop := ∀ i j, i < j → j < l.length → gt l i ≤ gt l j
/-- One after another, each once where they stand side by side. -/
def ddS (l : List Nat) (x : Nat) : List Nat := if l.getLast? = some x then l else l ++ [x]
def ddL (l : List Nat) : List Nat := l.foldl ddS []
theorem dd_snoc (l : List Nat) (x : Nat) : ddL (l ++ [x]) = ddS (ddL l) x := by simp [ddL]
theorem gt_append_left (a b : List Nat) (i : Nat) (h : i < a.length) : gt (a ++ b) i = gt a i := by
  rw [gt, gt, List.getD_eq_getElem?_getD, List.getD_eq_getElem?_getD, List.getElem?_append_left h]
theorem gt_append_one (a : List Nat) (x : Nat) : gt (a ++ [x]) a.length = x := by
  rw [gt, List.getD_eq_getElem?_getD, List.getElem?_append_right (Nat.le_refl _)]; simp
theorem last_gt (a : List Nat) (h : 0 < a.length) : a.getLast? = some (gt a (a.length - 1)) := by
  rw [List.getLast?_eq_getElem?]; exact gt_some a _ (by omega)
theorem dd_props (l : List Nat) (h : sle l) : ris (ddL l) ∧ (∀ y, y ∈ ddL l ↔ y ∈ l) ∧ (ddL l).getLast? = l.getLast? ∧ (ddL l).length ≤ l.length := by
  have key : ∀ (r : List Nat), ∀ l, l = r.reverse → sle l → ris (ddL l) ∧ (∀ y, y ∈ ddL l ↔ y ∈ l) ∧ (ddL l).getLast? = l.getLast? ∧ (ddL l).length ≤ l.length := by
    intro r
    induction r with
    | nil => rintro l rfl _; exact ⟨ris_nil, by simp [ddL], by simp [ddL], by simp [ddL]⟩
    | cons x r ih =>
      rintro l rfl hs
      rw [List.reverse_cons] at hs ⊢
      obtain ⟨m, hm⟩ : ∃ m, r.reverse = m := ⟨_, rfl⟩
      rw [hm] at hs ih ⊢
      have hsm : sle m := fun i j hij hj => by
        have := hs i j hij (by rw [List.length_append]; omega)
        rwa [gt_append_left m [x] i (by omega), gt_append_left m [x] j hj] at this
      obtain ⟨h1, h2, h3, h4⟩ := ih m rfl hsm
      rw [dd_snoc]
      unfold ddS
      split
      · rename_i hl
        refine ⟨h1, fun y => ?_, by rw [hl]; simp, by rw [List.length_append]; omega⟩
        rw [h2, List.mem_append, List.mem_singleton]
        constructor
        · exact .inl
        · rintro (h | rfl)
          · exact h
          · rw [h3] at hl
            exact List.mem_of_getLast? hl
      · rename_i hl
        refine ⟨?_, fun y => by rw [List.mem_append, List.mem_append, h2], by simp, by rw [List.length_append, List.length_append]; simp; exact h4⟩
        intro i j hij hj
        rw [List.length_append, List.length_singleton] at hj
        rcases Nat.lt_or_ge j (ddL m).length with h5 | h5
        · rw [gt_append_left _ _ i (by omega), gt_append_left _ _ j h5]
          exact h1 i j hij h5
        · obtain rfl : j = (ddL m).length := by omega
          rw [gt_append_one, gt_append_left _ _ i hij]
          have hlast := last_gt (ddL m) (by omega)
          have hm0 : 0 < m.length := by omega
          have e1 : gt (ddL m) ((ddL m).length - 1) = gt m (m.length - 1) := by
            rw [hlast, last_gt m hm0] at h3
            exact Option.some.inj h3
          have e2 : gt m (m.length - 1) ≤ x := by
            have := hs (m.length - 1) m.length (by omega) (by rw [List.length_append]; simp)
            rwa [gt_append_left _ _ _ (by omega), gt_append_one] at this
          have e3 : gt m (m.length - 1) ≠ x := fun e => hl (by rw [hlast, e1, e])
          rcases Nat.lt_or_ge i ((ddL m).length - 1) with h6 | h6
          · have := h1 i _ h6 (by omega)
            omega
          · obtain rfl : i = (ddL m).length - 1 := by omega
            omega
  exact key l.reverse l (by simp) h
theorem ris_pair (l : List Nat) (h : ris l) : l.Pairwise (· < ·) := by
  rw [List.pairwise_iff_getElem]
  intro i j hi hj hij
  have := h i j hij hj
  rwa [gt, gt, List.getD_eq_getElem?_getD, List.getD_eq_getElem?_getD, List.getElem?_eq_getElem hi, List.getElem?_eq_getElem hj] at this
theorem pair_unique : ∀ (a b : List Nat), a.Pairwise (· < ·) → b.Pairwise (· < ·) → (∀ y, y ∈ a ↔ y ∈ b) → a = b
  | [], [], _, _, _ => rfl
  | [], y :: b, _, _, h => by have := (h y).2 (by simp); simp at this
  | x :: a, [], _, _, h => by have := (h x).1 (by simp); simp at this
  | x :: a, y :: b, ha, hb, h => by
    obtain ⟨a1, a2⟩ := List.pairwise_cons.1 ha
    obtain ⟨b1, b2⟩ := List.pairwise_cons.1 hb
    have e : x = y := by
      rcases List.mem_cons.1 ((h x).1 (by simp)) with e | e
      · exact e
      · rcases List.mem_cons.1 ((h y).2 (by simp)) with e2 | e2
        · exact e2.symm
        · have := a1 y e2
          have := b1 x e
          omega
    subst e
    congr 1
    refine pair_unique a b a2 b2 (fun z => ?_)
    constructor
    · intro hz
      rcases List.mem_cons.1 ((h z).1 (List.mem_cons_of_mem _ hz)) with e | e
      · have := a1 z hz; omega
      · exact e
    · intro hz
      rcases List.mem_cons.1 ((h z).2 (List.mem_cons_of_mem _ hz)) with e | e
      · have := b1 z hz; omega
      · exact e
theorem ris_unique (a b : List Nat) (ha : ris a) (hb : ris b) (h : ∀ y, y ∈ a ↔ y ∈ b) : a = b := pair_unique a b (ris_pair a ha) (ris_pair b hb) h
/-- A list in order, each once, is the document's. -/
theorem dd_srt (ns ms : List Nat) (hp : ms.Perm ns) (hs : sle ms) : ddL ms = srtN ns := by
  have h1 := dd_props ms hs
  have h2 := srt_props ns
  exact ris_unique _ _ h1.1 h2.1 (fun y => by rw [h1.2.1, h2.2.2]; exact hp.mem_iff)

/-! Stores into a list of the call's own. -/
theorem own_cur {w0 w : World} {g n c : Nat} {M : List Nat} (h : OwnI w0 w (.slice (some ⟨g, 0, none⟩) n c) M) : ∃ cur, Whole w g 23 cur ∧ cur.size = c * 32 ∧ M.length = n ∧ n ≤ c ∧ c ≤ maxLen ∧ w0.heap.size ≤ g ∧ cur.toList.take (n * 32) = flatI M := by
  rcases h.1.2 with ⟨hv, _⟩ | ⟨g', cap, cur, hv, hbase, hg, hnc, hcm, hcs, htk⟩
  · cases hv
  · injection hv with e1 e2 e3
    injection e1 with e1
    injection e1 with e1
    subst e1; subst e3
    refine ⟨cur, hg, hcs, e2.symm, by omega, hcm, hbase, by rw [e2]; exact htk⟩
theorem own_mk {w0 w w' : World} {g n c : Nat} {M M' : List Nat} {cur' : Array Value} (h : OwnI w0 w (.slice (some ⟨g, 0, none⟩) n c) M) (hW : Whole w' g 23 cur') (f : Fr (fun k => k = g) w w') (hs : cur'.size = c * 32) (m : Nat) (hm : M'.length = m) (hmn : m ≤ n) (ht : cur'.toList.take (m * 32) = flatI M') :
    OwnI w0 w' (.slice (some ⟨g, 0, none⟩) m c) M' := by
  obtain ⟨cur0, hW0, hs0, hl, hnc, hcm, hb, _⟩ := own_cur h
  refine ⟨⟨by rw [flatI_len], .inr ⟨g, c, cur', by rw [hm], hb, hW, by omega, hcm, hs, by rw [hm]; exact ht⟩⟩, h.2.trans f (fun k hk e => by omega)⟩
theorem set_flat (M : List Nat) (i x : Nat) (h : i < M.length) (L : List Value) (hL : L.take (M.length * 32) = flatI M) (hlen : M.length * 32 ≤ L.length) : (L.take (i * 32) ++ (idC (dgt x)).toList ++ L.drop (i * 32 + 32)).take (M.length * 32) = flatI (M.set i x) := by
  have hi : (idC (dgt x)).toList.length = 32 := by rw [Array.length_toList, idC_size]
  have e1 : L.take (i * 32) = flatI (M.take i) := by
    rw [flatI_take, ← hL, List.take_take, Nat.min_eq_left (by omega)]
  have e2 : (L.drop (i * 32 + 32)).take (M.length * 32 - (i * 32 + 32)) = flatI (M.drop (i + 1)) := by
    rw [flatI_drop, ← hL, List.drop_take, show (i + 1) * 32 = i * 32 + 32 by omega]
  have e3 : M.set i x = M.take i ++ x :: M.drop (i + 1) := by
    rw [List.set_eq_take_append_cons_drop, if_pos h]
  rw [e3, flatI_append, flatI_cons, ← e1, ← e2, List.append_assoc, List.take_append, List.take_append]
  have l1 : (L.take (i * 32)).length = i * 32 := by rw [List.length_take]; omega
  rw [l1, hi, List.take_of_length_le (l := L.take (i * 32)) (by omega), List.take_of_length_le (l := (idC (dgt x)).toList) (by omega), show M.length * 32 - i * 32 - 32 = M.length * 32 - (i * 32 + 32) by omega]
/-- A clear of a list's rest. -/
theorem run_clear {w : World} {g o m c : Nat} {cur : Array Value} (hg : Whole w g 23 cur) (hm : 0 < m) (hfit : o + m * 32 ≤ cur.size) (ty : TypeId) : ∃ w' cur', (Builtin.clear_ #[44] ty #[.slice (some ⟨g, o, none⟩) m c]).run Try.prog w = .ok (.tuple #[]) w' ∧ Whole w' g 23 cur' ∧ Fr (fun k => k = g) w w' ∧ cur'.size = cur.size ∧ cur'.toList.take o = cur.toList.take o := by
  obtain ⟨i0, hi, hz0, hz1, hz2⟩ := info_parts info_id
  have hzv : (zeroValue 23).run Try.prog w = .ok (.agg zero32) w := by kernel_rfl
  have hsz : (Builtin.zeroCells zero32 m).size = m * 32 := by rw [size_zeroCells]; rfl
  have hone : ∀ v ∈ (Builtin.zeroCells zero32 m).toList, v.oneCell' = true := fun v hv => by
    simp only [Builtin.zeroCells, Array.mem_toList_iff, Array.mem_map, Array.mem_range] at hv
    obtain ⟨i, _, rfl⟩ := hv
    have h32 : i % zero32.size < zero32.size := Nat.mod_lt _ (by decide)
    rw [getElem!_pos zero32 _ h32]
    exact (Array.all_eq_true_iff_forall_mem.1 zero32_one) _ (Array.getElem_mem h32)
  have hst := run_storeCells_at Try.prog g o 23 (Builtin.zeroCells zero32 m).toList 0 cur w hg (by rw [Array.length_toList, hsz]; omega) hone
  rw [Nat.add_zero, Array.length_toList, hsz] at hst
  obtain ⟨Z, hZ⟩ : ∃ Z, (Builtin.zeroCells zero32 m).toList = Z := ⟨_, rfl⟩
  have hZl : Z.length = m * 32 := by rw [← hZ, Array.length_toList, hsz]
  rw [hZ] at hst
  refine ⟨w.setRow g (cur.toList.take o ++ Z ++ cur.toList.drop (o + m * 32)).toArray, (cur.toList.take o ++ Z ++ cur.toList.drop (o + m * 32)).toArray, ?_, hg.laid _, Fr.laid w g _, ?_, ?_⟩
  · obtain ⟨m', rfl⟩ : ∃ m', m = m' + 1 := ⟨m - 1, by omega⟩
    simp [Builtin.clear_, run_underlying Try.underlying44, hzv, Value.cells, hZ, hst, Result.andThen]
  · simp [hZl]; omega
  · rw [List.append_assoc, List.take_append, List.length_take, Array.length_toList, Nat.min_eq_left (by omega), Nat.sub_self, List.take_zero, List.append_nil, List.take_take, Nat.min_self]
end Go.Proofs.Ytbfbgopbelmghaa

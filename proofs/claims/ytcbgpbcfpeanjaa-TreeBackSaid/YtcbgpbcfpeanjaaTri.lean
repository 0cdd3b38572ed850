/- What is proved: plain facts on insertion, one by one, from the right: it is stable; entries of one's own in memory; what the library's stable sort makes of them. Conditions: none. -/
import Derived.Test.YtcbgpbcfpeanjaaTrh
namespace Go.Proofs.Ytcbgpbcfpeanjaa
open Go.RowKit Go.Sort Go.Shelf
set_option linter.unusedVariables false

section
variable {α : Type} [Inhabited α]
/-- Where x is put in: behind the last one that it isn't ahead of. -/
def insPos (lt : α → α → Bool) (x : α) (out : List α) : Nat → Nat
  | 0 => 0
  | k + 1 => if lt x out[k]! then insPos lt x out k else k + 1
def insB (lt : α → α → Bool) (out : List α) (x : α) : List α := out.take (insPos lt x out out.length) ++ x :: out.drop (insPos lt x out out.length)
def srt (lt : α → α → Bool) (l : List α) : List α := l.foldl (insB lt) []
theorem insPos_spec (lt : α → α → Bool) (x : α) (out : List α) : ∀ n, insPos lt x out n ≤ n ∧ (∀ k, insPos lt x out n ≤ k → k < n → lt x out[k]! = true) ∧ (0 < insPos lt x out n → lt x out[insPos lt x out n - 1]! = false)
  | 0 => ⟨Nat.le_refl _, fun k h1 h2 => by omega, fun h => absurd h (Nat.lt_irrefl _)⟩
  | n + 1 => by
    have ih := insPos_spec lt x out n
    rw [insPos]
    cases h : lt x out[n]! with
    | true =>
      rw [if_pos rfl]
      refine ⟨by omega, fun k h1 h2 => ?_, ih.2.2⟩
      by_cases hk : k = n
      · rw [hk]; exact h
      · exact ih.2.1 k h1 (by omega)
    | false =>
      rw [if_neg (by simp)]
      exact ⟨Nat.le_refl _, fun k h1 h2 => by omega, fun _ => h⟩
theorem insB_len (lt : α → α → Bool) (out : List α) (x : α) : (insB lt out x).length = out.length + 1 := by
  have := (insPos_spec lt x out out.length).1
  rw [insB, List.length_append, List.length_cons, List.length_take, List.length_drop]; omega
theorem srt_snoc (lt : α → α → Bool) (l : List α) (x : α) : srt lt (l ++ [x]) = insB lt (srt lt l) x := by simp [srt, List.foldl_append]
theorem srt_len (lt : α → α → Bool) (l : List α) : (srt lt l).length = l.length := by
  suffices h : ∀ (l out : List α), (l.foldl (insB lt) out).length = out.length + l.length by simpa [srt] using h l []
  intro l
  induction l with
  | nil => intro out; simp
  | cons x l ih => intro out; rw [List.foldl_cons, ih, insB_len, List.length_cons]; omega
theorem insB_perm (lt : α → α → Bool) (out : List α) (x : α) : (insB lt out x).Perm (x :: out) := by
  rw [insB]
  refine List.perm_middle.trans ?_
  rw [List.take_append_drop]
theorem srt_perm (lt : α → α → Bool) (l : List α) : (srt lt l).Perm l := by
  suffices h : ∀ (l out : List α), (l.foldl (insB lt) out).Perm (out ++ l) by simpa [srt] using h l []
  intro l
  induction l with
  | nil => intro out; simp
  | cons x l ih =>
    intro out
    rw [List.foldl_cons]
    refine (ih _).trans ?_
    refine ((insB_perm lt out x).append_right l).trans ?_
    exact List.perm_middle.symm
theorem get!_of (l : List α) (i : Nat) (h : i < l.length) : l[i]! = l[i] := getElem!_pos l i h
theorem insB_St {lt : α → α → Bool} {ix : α → Nat} (hS : SWO lt) (out : List α) (x : α) (hp : out.Pairwise (LL lt ix)) (hx : ∀ y ∈ out, ix y < ix x) : (insB lt out x).Pairwise (LL lt ix) := by
  obtain ⟨h1, h2, h3⟩ := insPos_spec lt x out out.length
  rw [insB]
  generalize insPos lt x out out.length = p at h1 h2 h3
  have hpp := List.pairwise_iff_getElem.1 hp
  have hlow : ∀ y ∈ out.take p, LL lt ix y x := fun y hy => by
    obtain ⟨i, hi, rfl⟩ := List.getElem_of_mem hy
    rw [List.length_take] at hi
    rw [List.getElem_take]
    have h4 := h3 (by omega)
    rw [get!_of out (p - 1) (by omega)] at h4
    have h5 : LL lt ix out[p - 1] x := .of_not h4 (hx _ (List.getElem_mem _))
    by_cases hip : i = p - 1
    · subst hip; exact h5
    · exact (hpp i (p - 1) (by omega) (by omega) (by omega)).trans hS h5
  have hhigh : ∀ z ∈ out.drop p, LL lt ix x z := fun z hz => by
    obtain ⟨i, hi, rfl⟩ := List.getElem_of_mem hz
    rw [List.length_drop] at hi
    rw [List.getElem_drop]
    have := h2 (p + i) (by omega) (by omega)
    rw [get!_of out _ (by omega)] at this
    exact .inl this
  rw [List.pairwise_append]
  refine ⟨hp.sublist (List.take_sublist _ _), List.pairwise_cons.2 ⟨hhigh, hp.sublist (List.drop_sublist _ _)⟩, fun a ha b hb => ?_⟩
  rcases List.mem_cons.1 hb with rfl | hb
  · exact hlow a ha
  · exact (hlow a ha).trans hS (hhigh b hb)
theorem srt_St {lt : α → α → Bool} {ix : α → Nat} (hS : SWO lt) (l : List α) (hl : l.Pairwise fun a b => ix a < ix b) : (srt lt l).Pairwise (LL lt ix) := by
  suffices h : ∀ (l out : List α), out.Pairwise (LL lt ix) → (l.Pairwise fun a b => ix a < ix b) → (∀ y ∈ out, ∀ z ∈ l, ix y < ix z) → (l.foldl (insB lt) out).Pairwise (LL lt ix) from h l [] .nil hl (fun y hy => by cases hy)
  intro l
  induction l with
  | nil => intro out h _ _; exact h
  | cons x l ih =>
    intro out h1 h2 h3
    rw [List.foldl_cons]
    have h4 := List.pairwise_cons.1 h2
    refine ih _ (insB_St hS out x h1 (fun y hy => h3 y hy x (by simp))) h4.2 (fun y hy z hz => ?_)
    rcases List.mem_cons.1 ((insB_perm lt out x).mem_iff.1 hy) with rfl | hy
    · exact h4.1 z hz
    · exact h3 y hy z (by simp [hz])
omit [Inhabited α] in
/-- There is one list in order. -/
theorem one_order {lt : α → α → Bool} {ix : α → Nat} (hS : SWO lt) {a b : List α} (ha : a.Pairwise (LL lt ix)) (hb : b.Pairwise (LL lt ix)) (hp : a.Perm b) : a = b :=
  List.Perm.eq_of_pairwise (fun x y _ _ h1 h2 => (LL.asymm hS h1 h2).elim) ha hb hp
end

/-- What is sorted decorated is sorted plain. -/
theorem map_get! (l : List EntN) (k : Nat) : (l.map (·.1))[k]! = (l[k]!).1 := by
  by_cases h : k < l.length
  · rw [get!_of _ k (by simpa using h), get!_of _ k h, List.getElem_map]
  · rw [getElem!_neg _ k (by simpa using h), getElem!_neg _ k h]; rfl
theorem insPos_map (lt : Ent → Ent → Bool) (x : EntN) (out : List EntN) : ∀ n, insPos (fun a b : EntN => lt a.1 b.1) x out n = insPos lt x.1 (out.map (·.1)) n
  | 0 => rfl
  | n + 1 => by rw [insPos, insPos, map_get!, insPos_map lt x out n]
theorem insB_map (lt : Ent → Ent → Bool) (out : List EntN) (x : EntN) : (insB (fun a b : EntN => lt a.1 b.1) out x).map (·.1) = insB lt (out.map (·.1)) x.1 := by
  rw [insB, insB, insPos_map, List.map_append, List.map_cons, List.map_take, List.map_drop, List.length_map]
theorem srt_map (lt : Ent → Ent → Bool) (l : List EntN) : (srt (fun a b : EntN => lt a.1 b.1) l).map (·.1) = srt lt (l.map (·.1)) := by
  suffices h : ∀ (l out : List EntN), (l.foldl (insB (fun a b : EntN => lt a.1 b.1)) out).map (·.1) = (l.map (·.1)).foldl (insB lt) (out.map (·.1)) from h l []
  intro l
  induction l with
  | nil => intro out; rfl
  | cons x l ih => intro out; rw [List.foldl_cons, ih, insB_map, List.map_cons, List.foldl_cons]

/-! Entries of one's own. -/
/-- A list of entries of the call's own; all that lay in w0 lies as it lay. -/
def OwnE (w0 w : World) (v : Value) (es : List Ent) : Prop := w.ownsRow w0.heap.size 45 34 v es.length (flatE es) ∧ Fr (fun _ => False) w0 w
theorem OwnE.fr {w0 w w' : World} {v : Value} {es : List Ent} (h : OwnE w0 w v es) (f : Fr (fun _ => False) w w') : OwnE w0 w' v es := ⟨own_fr h.1 f (fun _ _ e => e), h.2.trans f (fun _ _ e => e)⟩
theorem Lies.of_own34 {w : World} {base : Nat} {A : Option Addr} {n c : Nat} {xs : List Value} (h : w.ownsRow base 45 34 (.slice A n c) n xs) : Lies w A xs := by
  rcases own_shape h with ⟨_, _, h0⟩ | ⟨g, cap, hv, _⟩
  · exact .inl h0
  · injection hv with h1 h2 h3
    subst h1; subst h3
    refine .inr ⟨g, 0, rfl, fun j u hu => ?_⟩
    have hj : j < n * 34 := by
      have := (List.getElem?_eq_some_iff.1 hu).1
      rwa [h.1] at this
    rw [Nat.zero_add, World.ownsRow.cellAt h j hj]
    exact hu
theorem OwnE.slice {w0 w : World} {v : Value} {es : List Ent} (h : OwnE w0 w v es) : ∃ A c, v = .slice A es.length c ∧ es.length ≤ c ∧ c ≤ maxLen ∧ Lies w A (flatE es) ∧ Fr (fun _ => False) w0 w := by
  obtain ⟨A, c, hv, h1, h2⟩ := own_slice h.1
  refine ⟨A, c, hv, h1, h2, ?_, h.2⟩
  have := h.1
  rw [hv] at this
  exact Lies.of_own34 this

theorem full_extract {β : Type} (d : Array β) (n : Nat) (h : d.size = n) : (d.extract 0 n).toList = d.toList := by
  subst h
  rw [Array.toList_extract, List.extract, List.drop_zero, Nat.sub_zero]
  exact List.take_of_length_le (by rw [Array.length_toList]; exact Nat.le_refl _)
def entsOf (d : Array EntN) : List Ent := d.toList.map (·.1)
theorem entsOf_len (d : Array EntN) : (entsOf d).length = d.size := by simp [entsOf]
theorem encN_len (x : EntN) : (encN x).length = 34 := entV_len x.1
theorem flat_ents (d : Array EntN) : (flatK encN 34 d).toList = flatE (entsOf d) := by
  apply List.ext_getElem?
  intro t
  rcases Nat.lt_or_ge t (d.size * 34) with h | h
  · have hd : t / 34 < d.size := by omega
    have hm : t % 34 < 34 := Nat.mod_lt _ (by decide)
    have e1 : (flatK encN 34 d).toList[t]? = some ((encN d[t / 34]!)[t % 34]!) := by
      rw [Array.getElem?_toList]
      have := get_flatK encN 34 d t h
      rw [getElem!_pos _ t (by rw [size_flatK]; exact h)] at this
      rw [Array.getElem?_eq_getElem (by rw [size_flatK]; exact h), this]
    have e2 := flatE_get (entsOf d) (t / 34) (t % 34) (d[t / 34]!).1 (by
      rw [entsOf, List.getElem?_map, Array.getElem?_toList, Array.getElem?_eq_getElem hd, getElem!_pos d _ hd]
      rfl) hm
    rw [show t / 34 * 34 + t % 34 = t by omega] at e2
    rw [e1, e2, getElem!_pos _ _ (by rw [encN_len]; exact hm), List.getElem?_eq_getElem (by rw [entV_len]; exact hm)]
    rfl
  · rw [List.getElem?_eq_none (by rw [Array.length_toList, size_flatK]; exact h), List.getElem?_eq_none (by rw [flatE_len, entsOf_len]; exact h)]
def mkEnts (es : List Ent) : Array EntN := es.zipIdx.toArray
theorem mkEnts_size (es : List Ent) : (mkEnts es).size = es.length := by simp [mkEnts]
theorem entsOf_mk (es : List Ent) : entsOf (mkEnts es) = es := by simp [entsOf, mkEnts, List.zipIdx_map_fst]
theorem mkEnts_ix (es : List Ent) (p : Nat) (h : p < es.length) : (mkEnts es)[p]!.2 = p := by
  rw [getElem!_pos _ p (by rw [mkEnts_size]; exact h)]
  simp [mkEnts, List.getElem_zipIdx]

/-- What a decorated list is behind the sort: the plain one sorted. -/
theorem sorted_is (cf : Ent → Ent → Int) (hO : SWO (ltOf (cfN cf))) (es : List Ent) (d' : Array EntN) (hp : PermIn 0 (mkEnts es).size (mkEnts es) d') (hs : St (ltOf (cfN cf)) (·.2) 0 (mkEnts es).size d') : entsOf d' = srt (ltOf cf) es := by
  have hsz : d'.size = (mkEnts es).size := hp.1
  have h3 := hp.2.2
  rw [full_extract d' _ hsz, full_extract _ _ rfl] at h3
  have e : d'.toList = srt (ltOf (cfN cf)) (mkEnts es).toList := by
    refine one_order hO (ix := (·.2)) ?_ (srt_St hO _ ?_) (h3.trans (srt_perm _ _).symm)
    · rw [List.pairwise_iff_getElem]
      intro i j hi hj hij
      rw [Array.length_toList] at hi hj
      have := hs i j (Nat.zero_le _) hij (by rw [← hsz]; exact hj)
      rw [getElem!_pos d' i hi, getElem!_pos d' j hj] at this
      simpa using this
    · rw [List.pairwise_iff_getElem]
      intro i j hi hj hij
      simp [mkEnts, List.getElem_zipIdx] at hi hj ⊢
      exact hij
  have e2 : ltOf (cfN cf) = fun a b : EntN => ltOf cf a.1 b.1 := rfl
  rw [entsOf, e, e2, srt_map]
  congr 1
  exact entsOf_mk es

set_option maxHeartbeats 1600000 in
/-- The library's stable sort of a list of the call's own. -/
theorem SortStable_own (w0 w : World) (g c : Nat) (es : List Ent) (f : Nat) (cf : Ent → Ent → Int) (hn : es.length ≤ 999999) (ho : OwnE w0 w (.slice (some ⟨g, 0, none⟩) es.length c) es)
    (eg : ∀ args w, (callFunc f args).run Try.prog w = .ok (.enter f args) w) (hO : SWO (ltOf (cfN cf))) (hcmp : ∀ size w, CmpLays Try.prog f #[] encN 34 (cfN cf) g 0 size w) :
    Calls Try.prog 33 #[.slice (some ⟨g, 0, none⟩) es.length c, .func (.func f) #[] #[]] w fun e w' => e = .returned (.tuple #[]) ∧ OwnE w0 w' (.slice (some ⟨g, 0, none⟩) es.length c) (srt (ltOf cf) es) := by
  rcases ho.1.2 with ⟨hv, _⟩ | ⟨g', cap, cur, hv, hbase, hg, hnc, hcm, hcs, htk⟩
  · cases hv
  · cases hv
    have hd := mkEnts_size es
    have hW : Whole w g 45 cur := hg
    have hcell : ∀ j, j < es.length * 34 → cur[j]? = (flatE es)[j]? := fun j hj => by
      rw [← htk, List.getElem?_take, if_pos hj, Array.getElem?_toList]
    have hH : HoldsK encN 34 w g 0 (mkEnts es) := fun j hj => by
      rw [size_flatK, hd] at hj
      refine ⟨?_, by rw [Nat.zero_add]; exact hW.frozen j⟩
      rw [Nat.zero_add, hW.cell, hcell j hj]
      have := flat_ents (mkEnts es)
      rw [entsOf_mk] at this
      rw [← this, Array.getElem?_toList, Array.getElem?_eq_getElem (by rw [size_flatK, hd]; exact hj), getElem!_pos _ j (by rw [size_flatK, hd]; exact hj)]
      rfl
    have hcon := GSortStable_any encN (cfN cf) (·.2) f #[] g 0 c (mkEnts es) w eg hO (hcmp _ _) ⟨encN_len, fun x => entV_one x.1, hH, hW.lt⟩ (by rw [hd]; omega) (fun p q h1 h2 => by rw [hd] at h2; rw [mkEnts_ix es p (by omega), mkEnts_ix es q h2]; exact h1)
    rw [hd] at hcon
    refine Calls.mono hcon (fun e w' ⟨he, d', ⟨n, os, hw'⟩, hp, hs⟩ => ⟨he, ?_⟩)
    have hd2 : d'.size = es.length := hp.1.trans hd
    have hes : entsOf d' = srt (ltOf cf) es := sorted_is cf hO es d' (by rw [hd]; exact hp) (by rw [hd]; exact hs)
    have hlen := srt_len (ltOf cf) es
    rw [← hes]
    rw [← hes] at hlen
    have hsz : (flatK encN 34 d').size = es.length * 34 := by rw [size_flatK, hd2]
    have hblk : w'.heap[g]? = some (.cells (putCells id 0 (flatK encN 34 d') cur) 45 (0, 0)) := by
      subst hw'
      show ((putRow id (Sort.ahead w n) g 0 (flatK encN 34 d')).heap ++ os)[g]? = _
      rw [Array.getElem?_append_left (by rw [size_putRow]; exact hW.lt)]
      simp only [putRow, mapBlock, Array.getElem?_modify, if_true]
      show (w.heap[g]?).map _ = _
      rw [hg]
      rfl
    refine ⟨⟨by rw [flatE_len], .inr ⟨g, c, _, by rw [hlen], hbase, hblk, by rw [hlen]; exact hnc, hcm, by rw [putCells, Array.size_mapIdx, hcs], ?_⟩⟩, ?_⟩
    · rw [hlen, ← flat_ents]
      apply List.ext_getElem?
      intro t
      rw [List.getElem?_take, Array.getElem?_toList, Array.getElem?_toList]
      split
      · rename_i ht
        rw [putCells, Array.getElem?_mapIdx, Array.getElem?_eq_getElem (by rw [hcs]; have := Nat.mul_le_mul_right 34 hnc; omega), Option.map_some, if_pos ⟨Nat.zero_le _, by rw [hsz]; omega⟩, Nat.sub_zero, Array.getElem?_eq_getElem (by rw [hsz]; exact ht), getElem!_pos _ t (by rw [hsz]; exact ht)]
        rfl
      · rename_i ht
        rw [Array.getElem?_eq_none (by rw [hsz]; omega)]
    · refine ho.2.trans (T := fun k => k = g) ?_ (fun k hk e => by omega)
      subst hw'
      refine ⟨rfl, rfl, rfl, by show w.heap.size ≤ ((putRow id (Sort.ahead w n) g 0 (flatK encN 34 d')).heap ++ os).size; rw [Array.size_append, size_putRow]; exact Nat.le_add_right _ _, fun k hk hne => ?_⟩
      show ((putRow id (Sort.ahead w n) g 0 (flatK encN 34 d')).heap ++ os)[k]? = _
      rw [Array.getElem?_append_left (by rw [size_putRow]; exact hk)]
      simp only [putRow, mapBlock, Array.getElem?_modify, if_neg (fun e => hne (Eq.symm e))]
      rfl
end Go.Proofs.Ytcbgpbcfpeanjaa

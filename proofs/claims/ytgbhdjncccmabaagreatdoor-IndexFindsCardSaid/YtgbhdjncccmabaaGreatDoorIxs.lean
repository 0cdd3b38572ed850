/- What is proved: what the library's sort makes of a list of places of the call's own, compared by their ids: the same places, none ahead of one with a smaller id. Conditions: the list lies in a block, or is empty. -/
import Derived.Test.YtgbhdjncccmabaaGreatDoorIxa
import Derived.Test.YtgbhdjncccmabaaGreatDoorSrt
import Derived.Shelf.SlSortCmp.NoneTotal
namespace Go.Proofs.YtgbhdjncccmabaaGreatDoor
open Go.RowKit Go.Shelf Go.Sort
set_option linter.unusedVariables false

/-- A place whose id is one. -/
abbrev PlB := { p : Pl // p.id < big }
instance : Inhabited PlB := ⟨⟨default, by decide⟩⟩
def encP (x : PlB) : List Value := x.1.cells.toList
theorem encP_len (x : PlB) : (encP x).length = 34 := by rw [encP, Array.length_toList, plC_size]
theorem encP_one (x : PlB) : ∀ v ∈ encP x, v.oneCell' = true := fun v hv => (Array.all_eq_true_iff_forall_mem.1 (plC_one x.1)) v (by simpa [encP] using hv)
def cfP (x y : PlB) : Int := cmpN x.1.id y.1.id
theorem lt_cfP (x y : PlB) : ltOf cfP x y = decide (x.1.id < y.1.id) := by
  unfold ltOf cfP cmpN
  by_cases h : x.1.id < y.1.id
  · simp [h]
  · by_cases h2 : y.1.id < x.1.id <;> simp [h, h2]
theorem swoP : SWO (ltOf cfP) where
  irrefl x := by rw [lt_cfP]; simp
  trans x y z h1 h2 := by rw [lt_cfP] at *; simp at *; omega
  ntrans x y z h1 h2 := by rw [lt_cfP] at *; simp at *; omega

set_option maxHeartbeats 1600000 in
set_option maxRecDepth 100000 in
/-- Compare, to the world's last draw. -/
theorem OCompare_grow (a b : Nat) (ha : a < big) (hb : b < big) (w : World) : Calls Tryz.prog 43 #[.agg (idC (dgt a)), .agg (idC (dgt b))] w fun e w' => e = .returned (.int .i64 (cmpN a b)) ∧ ∃ q os', w' = grow (w.drewN q) os' := by
  obtain ⟨w1, hw1⟩ : ∃ w1, w.alloc (.cells (idC (dgt a)) 24) = w1 := ⟨_, rfl⟩
  obtain ⟨w2, hw2⟩ : ∃ w2, w1.alloc (.cells (idC (dgt b)) 24) = w2 := ⟨_, rfl⟩
  have hF2 : Fr (fun _ => False) w1 w2 := by subst hw2; exact (Fr.refl _ w1).alloc _
  have hA : Whole w2 w.heap.size 24 (idC (dgt a)) := by subst hw1; exact (Whole.new w 24 _).fr hF2 (fun e => e)
  have hB : Whole w2 w1.heap.size 24 (idC (dgt b)) := by subst hw2; exact Whole.new w1 24 _
  have HG := Lib.hid (show ∀ n, w2.drewN n = grow (w.drewN n) #[.cells (idC (dgt a)) 24, .cells (idC (dgt b)) 24] from fun n => by
    rw [← hw2, ← hw1, alloc_eq_grow, alloc_eq_grow, grow_grow]; rfl)
  have HC := Lib.hid (fun n => GCompare_any a b ha hb w.heap.size w1.heap.size 32 32 (w2.drewN n) (hA.fr ((Fr.refl (fun _ => False) w2).drewN n) (fun e => e)) (hB.fr ((Fr.refl (fun _ => False) w2).drewN n) (fun e => e)))
  obtain ⟨ca, hca⟩ : ∃ ca, idC (dgt a) = ca := ⟨_, rfl⟩
  obtain ⟨cb, hcb⟩ : ∃ cb, idC (dgt b) = cb := ⟨_, rfl⟩
  obtain ⟨r, hr⟩ : ∃ r, cmpN a b = r := ⟨_, rfl⟩
  rw [hca] at hw1 ⊢
  rw [hcb] at hw2 ⊢
  rw [hr] at HC ⊢
  have i1 := fun (g : Nat) w => slice_allI g w
  clear hF2 hA hB hca hcb hr
  go_enter Tryz.func43, Tryz.ntmps43
  go_wp2_with fail
  go_quiet ((go_at_call 64; refine Calls.quiet_of_same ((HC.out _).mono fun _ _ ⟨h1, h2⟩ => ⟨h1, h2.symm⟩)))
  go_wp2_with fail
  go_ret
  exact ⟨rfl, _, _, HG.out _⟩

set_option maxHeartbeats 1600000 in
set_option maxRecDepth 100000 in
/-- The comparison that Make hands to the sort. -/
theorem IMake1_grow (p q : Pl) (hp : p.id < big) (hq : q.id < big) (w : World) : Calls Tryz.prog 42 #[.agg p.cells, .agg q.cells] w fun e w' => e = .returned (.int .i64 (cmpN p.id q.id)) ∧ ∃ n os', w' = grow (w.drewN n) os' := by
  obtain ⟨w1, hw1⟩ : ∃ w1, w.alloc (.cells p.cells 43) = w1 := ⟨_, rfl⟩
  obtain ⟨w2, hw2⟩ : ∃ w2, w1.alloc (.cells q.cells 43) = w2 := ⟨_, rfl⟩
  have hF2 : Fr (fun _ => False) w1 w2 := by subst hw2; exact (Fr.refl _ w1).alloc _
  have hA : Whole w2 w.heap.size 43 p.cells := by subst hw1; exact (Whole.new w 43 _).fr hF2 (fun e => e)
  have hB : Whole w2 w1.heap.size 43 q.cells := by subst hw2; exact Whole.new w1 43 _
  have HG := Lib.hid (show ∀ n, w2.drewN n = grow (w.drewN n) #[.cells p.cells 43, .cells q.cells 43] from fun n => by
    rw [← hw2, ← hw1, alloc_eq_grow, alloc_eq_grow, grow_grow]; rfl)
  obtain ⟨T32, hT32⟩ : ∃ T : TypeId, T = 24 := ⟨_, rfl⟩
  obtain ⟨n32, hn32⟩ : ∃ n : Nat, n = 32 := ⟨_, rfl⟩
  have ag32 : ∀ w, (isAgg T32).run Tryz.prog w = .ok true w := by rw [hT32]; exact fun _ => by kernel_rfl
  have sz32 : ∀ w, (sizeOf T32).run Tryz.prog w = .ok n32 w := by rw [hT32, hn32]; exact fun _ => by kernel_rfl
  have l1 : (loadCellsFrom ⟨w.heap.size, 0, none⟩ 0 n32 #[]).run Tryz.prog w2 = .ok (idC (dgt p.id)) w2 := by
    have := load_first hA (Fr.refl _ w2) (n := n32) (by rw [plC_size]; omega)
    rwa [hn32, plC_ids, Array.toArray_toList, ← hn32] at this
  have l2 : (loadCellsFrom ⟨w1.heap.size, 0, none⟩ 0 n32 #[]).run Tryz.prog w2 = .ok (idC (dgt q.id)) w2 := by
    have := load_first hB (Fr.refl _ w2) (n := n32) (by rw [plC_size]; omega)
    rwa [hn32, plC_ids, Array.toArray_toList, ← hn32] at this
  have HC := Lib.hid (fun w => OCompare_grow p.id q.id hp hq w)
  obtain ⟨ca, hca⟩ : ∃ ca, idC (dgt p.id) = ca := ⟨_, rfl⟩
  obtain ⟨cb, hcb⟩ : ∃ cb, idC (dgt q.id) = cb := ⟨_, rfl⟩
  obtain ⟨r, hr⟩ : ∃ r, cmpN p.id q.id = r := ⟨_, rfl⟩
  obtain ⟨pc, hpc⟩ : ∃ c, p.cells = c := ⟨_, rfl⟩
  obtain ⟨qc, hqc⟩ : ∃ c, q.cells = c := ⟨_, rfl⟩
  rw [hca] at l1 HC
  rw [hcb] at l2 HC
  rw [hr] at HC ⊢
  rw [hpc] at hw1 HG ⊢
  rw [hqc] at hw2 HG ⊢
  clear hF2 hA hB hca hcb hr hpc hqc hn32
  go_enter Tryz.func42, Tryz.ntmps42
  rw [show Op.load 24 (.tmp 5) = Op.load T32 (.tmp 5) by rw [hT32], show Op.load 24 (.tmp 7) = Op.load T32 (.tmp 7) by rw [hT32]]
  clear hT32
  go_wp2_with (go_at_call 43; refine (HC.out _).mono ?_; rintro e w' ⟨rfl, n, os, rfl⟩)
  go_ret
  exact ⟨rfl, n, _, by rw [HG.out, grow_grow]⟩

theorem cmpLaysP (blk off size : Nat) (w : World) : CmpLays Tryz.prog 42 #[] encP 34 cfP blk off size w :=
  fun _ _ _ _ x y => by
    have h := IMake1_grow x.1 y.1 x.2 y.2
    simpa [encP, cfP] using h _

/-! The list's cells, as the sort lays them. -/
def plsOf (d : Array PlB) : List Pl := d.toList.map (·.1)
theorem plsOf_len (d : Array PlB) : (plsOf d).length = d.size := by simp [plsOf]
theorem flat_pls (d : Array PlB) : (flatK encP 34 d).toList = flatP (plsOf d) := by
  apply List.ext_getElem?
  intro t
  rcases Nat.lt_or_ge t (d.size * 34) with h | h
  · have hd : t / 34 < d.size := by omega
    have e1 : (flatK encP 34 d).toList[t]? = some ((encP d[t / 34]!)[t % 34]!) := by
      rw [Array.getElem?_toList]
      have := get_flatK encP 34 d t h
      rw [getElem!_pos _ t (by rw [size_flatK]; exact h)] at this
      rw [Array.getElem?_eq_getElem (by rw [size_flatK]; exact h), this]
    have e2 := flatP_get (plsOf d) (t / 34) (d[t / 34]!).1 (t % 34) (by
      rw [plsOf, List.getElem?_map, Array.getElem?_toList, Array.getElem?_eq_getElem hd, getElem!_pos d _ hd]
      rfl) (Nat.mod_lt _ (by decide))
    rw [show t / 34 * 34 + t % 34 = t by omega] at e2
    rw [e1, e2]
    have hm : t % 34 < 34 := Nat.mod_lt _ (by decide)
    rw [getElem!_pos _ _ (by rw [encP_len]; exact hm), Array.getElem?_eq_getElem (by rw [plC_size]; exact hm)]
    simp only [encP, Array.getElem_toList]
  · rw [List.getElem?_eq_none (by rw [Array.length_toList, size_flatK]; exact h), List.getElem?_eq_none (by rw [flatP_len, plsOf_len]; exact h)]
def mkPls (ps : List Pl) (hb : ∀ p ∈ ps, p.id < big) : Array PlB := (ps.attach.map fun x => ⟨x.1, hb x.1 x.2⟩).toArray
theorem plsOf_mk (ps : List Pl) (hb : ∀ p ∈ ps, p.id < big) : plsOf (mkPls ps hb) = ps := by
  simp [plsOf, mkPls, List.map_map, Function.comp_def]
theorem full_extractP (d : Array PlB) (n : Nat) (h : d.size = n) : (d.extract 0 n).toList = d.toList := by
  subst h
  rw [Array.toList_extract, List.extract, List.drop_zero, Nat.sub_zero]
  exact List.take_of_length_le (by rw [Array.length_toList]; exact Nat.le_refl _)
theorem gt_pls (d : Array PlB) (i : Nat) (h : i < d.size) : (plsOf d)[i]! = (d[i]!).1 := by
  rw [getElem!_pos _ i (by rw [plsOf_len]; exact h), getElem!_pos d i h]
  simp [plsOf]

/-- A row of places that is the call's own. -/
def OwnP (w0 w : World) (v : Value) (ps : List Pl) : Prop := w.ownsRow w0.heap.size 43 34 v ps.length (flatP ps) ∧ Fr (fun _ => False) w0 w
theorem OwnP.fr {w0 w w' : World} {v : Value} {ps : List Pl} (h : OwnP w0 w v ps) (f : Fr (fun _ => False) w w') : OwnP w0 w' v ps := ⟨own_fr h.1 f (fun _ _ e => e), h.2.trans f (fun _ _ e => e)⟩
theorem OwnP.slice {w0 w : World} {v : Value} {ps : List Pl} (h : OwnP w0 w v ps) : ∃ A c, v = .slice A ps.length c ∧ ps.length ≤ c ∧ c ≤ maxLen ∧ Lies w A (flatP ps) := by
  rcases h.1.2 with ⟨rfl, h0⟩ | ⟨g, cap, cur, rfl, hb, hg, hn, hc, hsz, htk⟩
  · have : ps = [] := List.eq_nil_of_length_eq_zero h0
    subst this
    exact ⟨none, 0, rfl, Nat.le_refl _, Nat.zero_le _, .inl rfl⟩
  · refine ⟨_, cap, rfl, hn, hc, .inr ⟨g, 0, rfl, fun j u hu => ?_⟩⟩
    have hw : Whole w g 43 cur := hg
    rw [Nat.zero_add, hw.cell]
    have hj : j < ps.length * 34 := by
      have := (List.getElem?_eq_some_iff.1 hu).1
      rwa [flatP_len] at this
    rw [← htk, List.getElem?_take, if_pos hj, Array.getElem?_toList] at hu
    exact hu

set_option maxHeartbeats 1600000 in
set_option maxRecDepth 100000 in
/-- What the sort leaves: the places in order. -/
theorem SortP_own (w0 w : World) (A : Option Addr) (c : Nat) (ps : List Pl) (hb : ∀ p ∈ ps, p.id < big) (hn : ps.length ≤ 1000) (ho : OwnP w0 w (.slice A ps.length c) ps) :
    Calls Tryz.prog 41 #[.slice A ps.length c, .func (.func 42) #[] #[]] w fun e w' => e = .returned (.tuple #[]) ∧
      ∃ ps', ps'.Perm ps ∧ (∀ i j, i < j → j < ps'.length → (ps'[i]!).id ≤ (ps'[j]!).id) ∧ OwnP w0 w' (.slice A ps'.length c) ps' := by
  have eg : ∀ args w, (callFunc 42 args).run Tryz.prog w = .ok (.enter 42 args) w := enters_of Tryz.func42 (by kernel_rfl) rfl
  rcases Nat.eq_zero_or_pos ps.length with h0 | h0
  · have : ps = [] := List.eq_nil_of_length_eq_zero h0
    subst this
    refine Calls.mono (AnyF.slices_SortFunc_none sortPl A c _ w) (fun e w' ⟨he, hw⟩ => ⟨he, [], List.Perm.refl _, fun i j _ hj => by simp at hj, ?_⟩)
    rw [hw]
    exact ho
  rcases ho.1.2 with ⟨hv, _⟩ | ⟨g, cap, cur, hv, hbase, hg, hnc, hcm, hcs, htk⟩
  · injection hv with h1 h2 h3; omega
  · injection hv with h1 h2 h3
    subst h1; subst h3
    have hd : (mkPls ps hb).size = ps.length := by rw [← plsOf_len, plsOf_mk]
    have hW : Whole w g 43 cur := hg
    have hcell : ∀ j, j < ps.length * 34 → cur[j]? = (flatP ps)[j]? := fun j hj => by
      rw [← htk, List.getElem?_take, if_pos hj, Array.getElem?_toList]
    have hH : HoldsK encP 34 w g 0 (mkPls ps hb) := fun j hj => by
      rw [size_flatK, hd] at hj
      refine ⟨?_, by rw [Nat.zero_add]; exact hW.frozen j⟩
      rw [Nat.zero_add, hW.cell, hcell j hj]
      have := flat_pls (mkPls ps hb)
      rw [plsOf_mk] at this
      rw [← this, Array.getElem?_toList, Array.getElem?_eq_getElem (by rw [size_flatK, hd]; exact hj), getElem!_pos _ j (by rw [size_flatK, hd]; exact hj)]
      rfl
    have hcon := AnyQ.slices_SortFunc sortPl 34 (fun w => by kernel_rfl) (fun w => by kernel_rfl) encP encP_len encP_one cfP swoP 42 #[] g 0 c (mkPls ps hb) w eg (cmpLaysP g 0 _ w) hH hW.lt (by rw [hd]; omega)
    rw [hd] at hcon
    refine Calls.mono hcon (fun e w' ⟨he, d', n, os, hp, hs, hw'⟩ => ⟨he, plsOf d', ?_, ?_, ?_⟩)
    · have h3 := hp.2.2
      have hd2 : d'.size = ps.length := hp.1.trans hd
      rw [full_extractP d' _ hd2, full_extractP _ _ hd] at h3
      have := h3.map (fun x : PlB => x.1)
      show (d'.toList.map (·.1)).Perm ps
      conv => rhs; rw [← plsOf_mk ps hb]
      exact this
    · intro i j hij hj
      have hd2 : d'.size = ps.length := hp.1.trans hd
      rw [plsOf_len, hd2] at hj
      have h4 := hs i j (Nat.zero_le _) hij hj
      rw [lt_cfP, decide_eq_false_iff_not] at h4
      rw [gt_pls d' i (by omega), gt_pls d' j (by omega)]
      omega
    · have hd2 : d'.size = ps.length := hp.1.trans hd
      have hsz : (flatK encP 34 d').size = ps.length * 34 := by rw [size_flatK, hd2]
      have hblk : w'.heap[g]? = some (.cells (putCells id 0 (flatK encP 34 d') cur) 43 (0, 0)) := by
        subst hw'
        show ((putRow id (Sort.ahead w n) g 0 (flatK encP 34 d')).heap ++ os)[g]? = _
        rw [Array.getElem?_append_left (by rw [size_putRow]; exact hW.lt)]
        simp only [putRow, mapBlock, Array.getElem?_modify, if_true]
        show (w.heap[g]?).map _ = _
        rw [hg]
        rfl
      rw [plsOf_len, hd2]
      refine ⟨⟨by rw [flatP_len, plsOf_len, hd2], .inr ⟨g, c, _, by rw [plsOf_len, hd2], hbase, hblk, by rw [plsOf_len, hd2]; exact hnc, hcm, by rw [putCells, Array.size_mapIdx, hcs], ?_⟩⟩, ?_⟩
      · rw [show (plsOf d').length = ps.length by rw [plsOf_len, hd2], ← flat_pls]
        apply List.ext_getElem?
        intro t
        rw [List.getElem?_take, Array.getElem?_toList, Array.getElem?_toList]
        split
        · rename_i ht
          rw [putCells, Array.getElem?_mapIdx, Array.getElem?_eq_getElem (by rw [hcs]; have := Nat.mul_le_mul_right 34 hnc; omega), Option.map_some, if_pos ⟨Nat.zero_le _, by rw [hsz]; omega⟩, Nat.sub_zero, Array.getElem?_eq_getElem (by rw [hsz]; exact ht), getElem!_pos _ t (by rw [hsz]; exact ht)]
          rfl
        · rename_i ht
          rw [Array.getElem?_eq_none (by rw [hsz]; omega)]
      · subst hw'
        refine ho.2.trans (T := fun k => k = g) ⟨rfl, rfl, rfl, ?_, ?_⟩ (fun i hi e => by subst e; omega)
        · show w.heap.size ≤ ((putRow id (Sort.ahead w n) g 0 (flatK encP 34 d')).heap ++ os).size
          rw [Array.size_append, size_putRow]
          exact Nat.le_add_right _ _
        · intro k hk hn
          show ((putRow id (Sort.ahead w n) g 0 (flatK encP 34 d')).heap ++ os)[k]? = _
          rw [Array.getElem?_append_left (by rw [size_putRow]; exact hk)]
          simp only [putRow, mapBlock, Array.getElem?_modify]
          rw [if_neg (by omega)]
          rfl
end Go.Proofs.YtgbhdjncccmabaaGreatDoor

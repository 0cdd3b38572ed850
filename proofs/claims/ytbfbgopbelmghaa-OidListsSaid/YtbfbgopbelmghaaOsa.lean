/- What is proved: what the library's sort makes of a list of ids of the call's own: the same ids, none ahead of a smaller one. Conditions: the list lies in a block. -/
import Derived.Test.YtbfbgopbelmghaaOje
import Derived.Test.YtbfbgopbelmghaaSrt
namespace Go.Proofs.Ytbfbgopbelmghaa
open Go.RowKit Go.Shelf Go.Sort
set_option linter.unusedVariables false

/-- An id as a number below 16^64. -/
abbrev IdN := { n : Nat // n < big }
instance : Inhabited IdN := ⟨⟨0, by decide⟩⟩
def encI (x : IdN) : List Value := (idC (dgt x.1)).toList
theorem encI_len (x : IdN) : (encI x).length = 32 := by rw [encI, Array.length_toList, idC_size]
theorem encI_one (x : IdN) : ∀ v ∈ encI x, v.oneCell' = true := fun v hv => (Array.all_eq_true_iff_forall_mem.1 (idC_one (dgt x.1))) v (by simpa [encI] using hv)
def cfI (x y : IdN) : Int := cmpN x.1 y.1
theorem lt_cfI (x y : IdN) : ltOf cfI x y = decide (x.1 < y.1) := by
  unfold ltOf cfI cmpN
  by_cases h : x.1 < y.1
  · simp [h]
  · by_cases h2 : y.1 < x.1 <;> simp [h, h2]
theorem swoI : SWO (ltOf cfI) where
  irrefl x := by rw [lt_cfI]; simp
  trans x y z h1 h2 := by rw [lt_cfI] at *; simp at *; omega
  ntrans x y z h1 h2 := by rw [lt_cfI] at *; simp at *; omega

set_option maxHeartbeats 1600000 in
/-- Compare, to the world's last draw. -/
theorem OCompare_grow (a b : Nat) (ha : a < big) (hb : b < big) (w : World) : Calls Try.prog 20 #[.agg (idC (dgt a)), .agg (idC (dgt b))] w fun e w' => e = .returned (.int .i64 (cmpN a b)) ∧ ∃ q os', w' = grow (w.drewN q) os' := by
  obtain ⟨w1, hw1⟩ : ∃ w1, w.alloc (.cells (idC (dgt a)) 23) = w1 := ⟨_, rfl⟩
  obtain ⟨w2, hw2⟩ : ∃ w2, w1.alloc (.cells (idC (dgt b)) 23) = w2 := ⟨_, rfl⟩
  have hF2 : Fr (fun _ => False) w1 w2 := by subst hw2; exact (Fr.refl _ w1).alloc _
  have hA : Whole w2 w.heap.size 23 (idC (dgt a)) := by subst hw1; exact (Whole.new w 23 _).fr hF2 (fun e => e)
  have hB : Whole w2 w1.heap.size 23 (idC (dgt b)) := by subst hw2; exact Whole.new w1 23 _
  have HG := Lib.hid (show ∀ n, w2.drewN n = grow (w.drewN n) #[.cells (idC (dgt a)) 23, .cells (idC (dgt b)) 23] from fun n => by
    rw [← hw2, ← hw1, alloc_eq_grow, alloc_eq_grow, grow_grow]; rfl)
  have HC := Lib.hid (fun n => GCompare_any a b ha hb w.heap.size w1.heap.size 32 32 (w2.drewN n) (hA.fr ((Fr.refl (fun _ => False) w2).drewN n) (fun e => e)) (hB.fr ((Fr.refl (fun _ => False) w2).drewN n) (fun e => e)))
  obtain ⟨ca, hca⟩ : ∃ ca, idC (dgt a) = ca := ⟨_, rfl⟩
  obtain ⟨cb, hcb⟩ : ∃ cb, idC (dgt b) = cb := ⟨_, rfl⟩
  obtain ⟨r, hr⟩ : ∃ r, cmpN a b = r := ⟨_, rfl⟩
  rw [hca] at hw1 ⊢
  rw [hcb] at hw2 ⊢
  rw [hr] at HC ⊢
  have i1 := fun (g : Nat) w => slice_all g w
  clear hF2 hA hB hca hcb hr
  go_enter Try.func20, Try.ntmps20
  go_wp2_with fail
  go_quiet ((go_at_call 37; refine Calls.quiet_of_same ((HC.out _).mono fun _ _ ⟨h1, h2⟩ => ⟨h1, h2.symm⟩)))
  go_wp2_with fail
  go_ret
  exact ⟨rfl, _, _, HG.out _⟩

theorem cmpLaysI (blk off size : Nat) (w : World) : CmpLays Try.prog 20 #[] encI 32 cfI blk off size w :=
  fun _ _ _ _ x y => by
    have h := OCompare_grow x.1 y.1 x.2 y.2
    simpa [encI, cfI] using h _

/-! The list's cells, as the sort lays them. -/
def idsOf (d : Array IdN) : List Nat := d.toList.map (·.1)
theorem idsOf_len (d : Array IdN) : (idsOf d).length = d.size := by simp [idsOf]
theorem flat_ids (d : Array IdN) : (flatK encI 32 d).toList = flatI (idsOf d) := by
  apply List.ext_getElem?
  intro t
  rcases Nat.lt_or_ge t (d.size * 32) with h | h
  · have hd : t / 32 < d.size := by omega
    have e1 : (flatK encI 32 d).toList[t]? = some ((encI d[t / 32]!)[t % 32]!) := by
      rw [Array.getElem?_toList]
      have := get_flatK encI 32 d t h
      rw [getElem!_pos _ t (by rw [size_flatK]; exact h)] at this
      rw [Array.getElem?_eq_getElem (by rw [size_flatK]; exact h), this]
    have e2 := flatI_get (idsOf d) (t / 32) (d[t / 32]!).1 (t % 32) (by
      rw [idsOf, List.getElem?_map, Array.getElem?_toList, Array.getElem?_eq_getElem hd, getElem!_pos d _ hd]
      rfl) (Nat.mod_lt _ (by decide))
    rw [show t / 32 * 32 + t % 32 = t by omega] at e2
    rw [e1, e2]
    congr 1
    have hm : t % 32 < 32 := Nat.mod_lt _ (by decide)
    rw [getElem!_pos _ _ (by rw [encI_len]; exact hm)]
    have := idC_get (dgt (d[t / 32]!).1) (t % 32) hm
    simp only [encI, Array.getElem_toList]
    rw [Array.getElem?_eq_getElem (by rw [idC_size]; exact hm)] at this
    exact Option.some.inj this
  · rw [List.getElem?_eq_none (by rw [Array.length_toList, size_flatK]; exact h), List.getElem?_eq_none (by rw [flatI_len, idsOf_len]; exact h)]
def mkIds (ns : List Nat) (hb : ∀ n ∈ ns, n < big) : Array IdN := (ns.attach.map fun x => ⟨x.1, hb x.1 x.2⟩).toArray
theorem idsOf_mk (ns : List Nat) (hb : ∀ n ∈ ns, n < big) : idsOf (mkIds ns hb) = ns := by
  simp [idsOf, mkIds, List.map_map, Function.comp_def]

theorem full_extract (d : Array IdN) (n : Nat) (h : d.size = n) : (d.extract 0 n).toList = d.toList := by
  subst h
  rw [Array.toList_extract, List.extract, List.drop_zero, Nat.sub_zero]
  exact List.take_of_length_le (by rw [Array.length_toList]; exact Nat.le_refl _)
theorem gt_ids (d : Array IdN) (i : Nat) (h : i < d.size) : gt (idsOf d) i = (d[i]!).1 := by
  rw [gt, idsOf, List.getD_eq_getElem?_getD, List.getElem?_map, Array.getElem?_toList, Array.getElem?_eq_getElem h, getElem!_pos d i h]
  rfl

set_option maxHeartbeats 1600000 in
theorem Sort_own (w0 w : World) (g c : Nat) (ns : List Nat) (hb : ∀ n ∈ ns, n < big) (hn : ns.length ≤ 1000) (ho : OwnI w0 w (.slice (some ⟨g, 0, none⟩) ns.length c) ns) :
    Calls Try.prog 39 #[.slice (some ⟨g, 0, none⟩) ns.length c, .func (.func 20) #[] #[]] w fun e w' => e = .returned (.tuple #[]) ∧
      ∃ ns', ns'.Perm ns ∧ (∀ i j, i < j → j < ns'.length → gt ns' i ≤ gt ns' j) ∧ OwnI w0 w' (.slice (some ⟨g, 0, none⟩) ns'.length c) ns' := by
  have eg : ∀ args w, (callFunc 20 args).run Try.prog w = .ok (.enter 20 args) w := enters_of Try.func20 (by kernel_rfl) rfl
  rcases ho.1.2 with ⟨hv, _⟩ | ⟨g', cap, cur, hv, hbase, hg, hnc, hcm, hcs, htk⟩
  · cases hv
  · cases hv
    have hd : (mkIds ns hb).size = ns.length := by rw [← idsOf_len, idsOf_mk]
    have hW : Whole w g 23 cur := hg
    have hcell : ∀ j, j < ns.length * 32 → cur[j]? = (flatI ns)[j]? := fun j hj => by
      rw [← htk, List.getElem?_take, if_pos hj, Array.getElem?_toList]
    have hH : HoldsK encI 32 w g 0 (mkIds ns hb) := fun j hj => by
      rw [size_flatK, hd] at hj
      refine ⟨?_, by rw [Nat.zero_add]; exact hW.frozen j⟩
      rw [Nat.zero_add, hW.cell, hcell j hj]
      have := flat_ids (mkIds ns hb)
      rw [idsOf_mk] at this
      rw [← this, Array.getElem?_toList, Array.getElem?_eq_getElem (by rw [size_flatK, hd]; exact hj), getElem!_pos _ j (by rw [size_flatK, hd]; exact hj)]
      rfl
    have hcon := AnyQ.slices_SortFunc sortIDs 32 (fun w => by kernel_rfl) (fun w => by kernel_rfl) encI encI_len encI_one cfI swoI 20 #[] g 0 c (mkIds ns hb) w eg (cmpLaysI g 0 _ w) hH hW.lt (by rw [hd]; omega)
    rw [hd] at hcon
    refine Calls.mono hcon (fun e w' ⟨he, d', n, os, hp, hs, hw'⟩ => ⟨he, idsOf d', ?_, ?_, ?_⟩)
    · have h3 := hp.2.2
      have hd2 : d'.size = ns.length := hp.1.trans hd
      rw [full_extract d' _ hd2, full_extract _ _ hd] at h3
      have := h3.map (fun x : IdN => x.1)
      show (d'.toList.map (·.1)).Perm ns
      conv => rhs; rw [← idsOf_mk ns hb]
      exact this
    · intro i j hij hj
      have hd2 : d'.size = ns.length := hp.1.trans hd
      rw [idsOf_len, hd2] at hj
      have h4 := hs i j (Nat.zero_le _) hij hj
      rw [lt_cfI, decide_eq_false_iff_not] at h4
      rw [gt_ids d' i (by omega), gt_ids d' j (by omega)]
      omega
    · have hd2 : d'.size = ns.length := hp.1.trans hd
      have hsz : (flatK encI 32 d').size = ns.length * 32 := by rw [size_flatK, hd2]
      have hblk : w'.heap[g]? = some (.cells (putCells id 0 (flatK encI 32 d') cur) 23 (0, 0)) := by
        subst hw'
        show ((putRow id (Sort.ahead w n) g 0 (flatK encI 32 d')).heap ++ os)[g]? = _
        rw [Array.getElem?_append_left (by rw [size_putRow]; exact hW.lt)]
        simp only [putRow, mapBlock, Array.getElem?_modify, if_true]
        show (w.heap[g]?).map _ = _
        rw [hg]
        rfl
      rw [idsOf_len, hd2]
      refine ⟨⟨by rw [flatI_len, idsOf_len, hd2], .inr ⟨g, c, _, by rw [idsOf_len, hd2], hbase, hblk, by rw [idsOf_len, hd2]; exact hnc, hcm, by rw [putCells, Array.size_mapIdx, hcs], ?_⟩⟩, ?_⟩
      · rw [show (idsOf d').length = ns.length by rw [idsOf_len, hd2], ← flat_ids]
        apply List.ext_getElem?
        intro t
        rw [List.getElem?_take, Array.getElem?_toList, Array.getElem?_toList]
        split
        · rename_i ht
          rw [putCells, Array.getElem?_mapIdx, Array.getElem?_eq_getElem (by rw [hcs]; have := Nat.mul_le_mul_right 32 hnc; omega), Option.map_some, if_pos ⟨Nat.zero_le _, by rw [hsz]; omega⟩, Nat.sub_zero, Array.getElem?_eq_getElem (by rw [hsz]; exact ht), getElem!_pos _ t (by rw [hsz]; exact ht)]
          rfl
        · rename_i ht
          rw [Array.getElem?_eq_none (by rw [hsz]; omega)]
      · refine ho.2.trans (T := fun k => k = g) ?_ (fun k hk e => by omega)
        subst hw'
        refine ⟨rfl, rfl, rfl, by show w.heap.size ≤ ((putRow id (Sort.ahead w n) g 0 (flatK encI 32 d')).heap ++ os).size; rw [Array.size_append, size_putRow]; exact Nat.le_add_right _ _, fun k hk hne => ?_⟩
        show ((putRow id (Sort.ahead w n) g 0 (flatK encI 32 d')).heap ++ os)[k]? = _
        rw [Array.getElem?_append_left (by rw [size_putRow]; exact hk)]
        simp only [putRow, mapBlock, Array.getElem?_modify, if_neg (fun e => hne (Eq.symm e))]
        rfl
end Go.Proofs.Ytbfbgopbelmghaa

/- What is proved: texts that stand one behind the other: Pwf. Conditions: each theorem names its own. -/
import Derived.Test.YtkaeoflgnnlbeaaGreatDoorQPwd
import Derived.Test.YtkaeoflgnnlbeaaGreatDoorDa
import Derived.DeepKeys4
import Derived.Maps.Keyed
import Derived.Maps.OwnRows
import Derived.WideKeyEntry
/- What is proved: a set of ids, as the program keeps it; the ids of objects, by the program; over what an object's name tells. Conditions: the objects' cells are there. -/
namespace Go.Proofs.YtkaeoflgnnlbeaaGreatDoor
open Go.RowKit Go.Maps
set_option linter.unusedVariables false

theorem laidOutP : laidOutB Tryz.prog = true := by kernel_rfl
set_option maxRecDepth 100000 in
theorem row32 : (48 : TypeId) < Tryz.prog.types.size := Nat.le_of_ble_eq_true (by kernel_rfl)
set_option maxRecDepth 100000 in
theorem wide32 : (match Tryz.prog.underlying 48 with | some (.array _ _) | some (.struct _) => true | _ => false) = true := by kernel_rfl
set_option maxRecDepth 100000 in
theorem law32 : Keyed Tryz.prog 48 := Keyed.of_law (deep_law_laid laidOutP (m := 2) (by omega) row32 (by kernel_rfl) wide32)
def idV (k : List UInt8) : Array Value := (bytesV k).toArray
theorem idV_size (k : List UInt8) (h : k.length = 32) : (idV k).size = 32 := by simp [idV, bytesV, h]
theorem idV_one (k : List UInt8) : ∀ u ∈ (idV k).toList, u.oneCell' = true := by
  intro u hu
  exact bytesV_one k u (by simpa [idV] using hu)
theorem under32 : Tryz.prog.underlying 48 = some (.array 32 5) := by kernel_rfl
theorem cells32 : Tryz.prog.cellsOf 48 = 32 := by kernel_rfl
theorem cellsU : Tryz.prog.cellsOf 5 = 1 := by kernel_rfl
theorem type32 : Tryz.prog.keyType 48 = true := by kernel_rfl
theorem key_litP (d : Nat) (b : UInt8) : Tryz.prog.keyLits (d + 1) 5 [byteV b] = some [.int .u8 b.toNat] := by
  have h : (Lit.int .u8 (b.toNat : Int)).wf = true := by
    have := b.toNat_lt
    simp [Lit.wf, IntKind.min, IntKind.max, IntKind.signed, IntKind.bits]
    omega
  simp [Program.keyLits, Tryz.underlying5, byteV, h]
set_option maxRecDepth 100000 in
theorem key_readsP (k : List UInt8) (hk : k.length = 32) : ∃ l, keyOf Tryz.prog 48 (.agg (idV k)) = some l := by
  have hf : (Value.agg (idV k)).formed Tryz.prog 48 = true := by simp [idV, bytesV, Value.formed, cells32, hk]
  have ht : Tryz.prog.types.size + 1 = (Tryz.prog.types.size - 1) + 1 + 1 := by
    have h2 : 0 < Tryz.prog.types.size := Nat.lt_of_le_of_lt (Nat.zero_le _) row32
    omega
  unfold keyOf
  simp only [under32]
  rw [type32, hf, ht]
  have e : ∃ ls, Tryz.prog.keyLits ((Tryz.prog.types.size - 1) + 1 + 1) 48 (Value.agg (idV k)).cells.toList = some ls := by
    conv => rhs; intro ls; lhs; unfold Program.keyLits
    simp only [under32, cells32]
    rw [if_pos (by simp [Value.cells, idV, bytesV, hk])]
    have hm : ∀ l : List Nat, (∀ i ∈ l, i < 32) → ∃ ys, l.mapM (fun i => Tryz.prog.keyLits (Tryz.prog.types.size - 1 + 1) 5 (List.take (Tryz.prog.cellsOf 5) (List.drop (i * Tryz.prog.cellsOf 5) (Value.agg (idV k)).cells.toList))) = some ys := by
      intro l
      induction l with
      | nil => intro _; exact ⟨[], rfl⟩
      | cons i l ih =>
        intro hl
        obtain ⟨ys, hy⟩ := ih (fun j hj => hl j (by simp [hj]))
        have hi := hl i (by simp)
        have h1 : List.take (Tryz.prog.cellsOf 5) (List.drop (i * Tryz.prog.cellsOf 5) (Value.agg (idV k)).cells.toList) = [byteV (k[i]'(by omega))] := by
          rw [cellsU, Nat.mul_one]
          show ((bytesV k).drop i).take 1 = _
          rw [List.drop_eq_getElem_cons (by simp [bytesV, hk]; exact hi)]
          simp [bytesV]
        refine ⟨[.int .u8 ((k[i]'(by omega)).toNat : Int)] :: ys, ?_⟩
        rw [List.mapM_cons, h1, key_litP, hy]
        rfl
    obtain ⟨ys, hy⟩ := hm (List.range 32) (fun i hi => by simpa using hi)
    rw [hy]
    exact ⟨_, rfl⟩
  obtain ⟨ls, e⟩ := e
  rw [e]
  exact ⟨_, rfl⟩
theorem idV_inj {a b : List UInt8} (h : Value.agg (idV a) = .agg (idV b)) : a = b := by
  injection h with h
  have h2 := congrArg Array.toList h
  simp only [idV, bytesV] at h2
  refine (List.map_inj_right (f := byteV) ?_).1 h2
  intro x y hxy
  unfold byteV at hxy
  injection hxy with _ h3
  exact UInt8.toNat_inj.1 (by omega)
theorem underSeen : Tryz.prog.underlying 105 = some (.map 48 107) := by kernel_rfl
theorem frSet {w : World} {b : Nat} {o : Obj} : Fr (fun j => j = b) w (ChangeMaps.setBlock w b o) :=
  ⟨rfl, rfl, rfl, by simp [ChangeMaps.setBlock], fun k hk hn => by
    unfold ChangeMaps.setBlock
    simp only
    rw [Array.getElem?_setIfInBounds_ne (fun e => hn e.symm)]⟩
/-- A set with one more in it. -/
def insS (S : List (List UInt8)) (k : List UInt8) : List (List UInt8) := if k ∈ S then S else S ++ [k]
/-- Block b is a set of ids. -/
def SetIs (w : World) (b : Nat) (S : List (List UInt8)) : Prop := ∃ es clock, w.heap[b]? = some (.map es clock) ∧ es.toList.map MapEntry.key = S.map (fun k => Value.agg (idV k)) ∧ ∀ k ∈ S, k.length = 32
theorem SetIs.fr {T : Nat → Prop} {w w' : World} {b : Nat} {S : List (List UInt8)} (h : SetIs w b S) (f : Fr T w w') (hb : ¬ T b) : SetIs w' b S := by
  obtain ⟨es, cl, h1, h2, h3⟩ := h
  exact ⟨es, cl, (f.block b (Array.getElem?_eq_some_iff.1 h1).1 hb).trans h1, h2, h3⟩
theorem SetIs.lt {w : World} {b : Nat} {S : List (List UInt8)} (h : SetIs w b S) : b < w.heap.size := by
  obtain ⟨es, cl, h1, _⟩ := h
  exact (Array.getElem?_eq_some_iff.1 h1).1
theorem SetIs.made (w : World) : SetIs (w.alloc (.map #[] 0)) w.heap.size [] := ⟨#[], 0, (MapKept.heap_alloc w _).1, rfl, by simp⟩
theorem SetIs.put {w : World} {b : Nat} {S : List (List UInt8)} (h : SetIs w b S) (k : List UInt8) (hk : k.length = 32) (v : Value) :
    ∃ w', (Instr.mapUpdate 105 (.map (some b)) (.agg (idV k)) v).run Tryz.prog w = .ok () w' ∧ SetIs w' b (insS S k) ∧ Fr (fun j => j = b) w w' := by
  obtain ⟨es, cl, hb, he, hl⟩ := h
  obtain ⟨kl, hkey⟩ := key_readsP k hk
  have hmem : ∀ x ∈ es.toList, ∃ k' ∈ S, x.key = .agg (idV k') := fun x hx => by
    have : x.key ∈ es.toList.map MapEntry.key := List.mem_map_of_mem hx
    rw [he] at this
    obtain ⟨k', h1, h2⟩ := List.mem_map.1 this
    exact ⟨k', h1, h2.symm⟩
  have hkeys : ∀ e ∈ es.toList, ∃ l, keyOf Tryz.prog 48 e.key = some l := fun x hx => by
    obtain ⟨k', h1, h2⟩ := hmem x hx
    rw [h2]
    exact key_readsP k' (hl k' h1)
  rcases law32.find w hkey es.toList hkeys with ⟨h1, h2⟩ | ⟨j, e0, h1, h2, h3⟩
  · have hn : k ∉ S := fun hm => by
      have : Value.agg (idV k) ∈ es.toList.map MapEntry.key := by rw [he]; exact List.mem_map_of_mem hm
      obtain ⟨x, hx, e⟩ := List.mem_map.1 this
      exact h2 x hx e
    refine ⟨ChangeMaps.setBlock w b (.map (es.push ⟨.agg (idV k), v, cl⟩) (cl + 1)), ?_, ⟨_, _, ChangeMaps.heap_setBlock_same hb _, ?_, fun k' hk' => ?_⟩, frSet⟩
    · simp [Instr.mapUpdate, run_underlying underSeen, MapKept.run_getObj_map hb, law32.check w _ hkey, h1, MapKept.run_setObj_map _ hb, Result.andThen, ChangeMaps.setBlock]
    · unfold insS
      rw [if_neg hn]
      simp [he]
    · unfold insS at hk'
      rw [if_neg hn] at hk'
      rcases List.mem_append.1 hk' with h | h
      · exact hl k' h
      · rw [List.mem_singleton.1 h]; exact hk
  · have hj : es[j]? = some e0 := by simpa using h2
    have hm : k ∈ S := by
      obtain ⟨k', g1, g2⟩ := hmem e0 (List.mem_of_getElem? h2)
      rw [h3] at g2
      rw [idV_inj g2]; exact g1
    refine ⟨ChangeMaps.setBlock w b (.map (es.modify j (fun e => { e with key := .agg (idV k), val := v })) cl), ?_, ⟨_, _, ChangeMaps.heap_setBlock_same hb _, ?_, ?_⟩, frSet⟩
    · simp [Instr.mapUpdate, run_underlying underSeen, MapKept.run_getObj_map hb, law32.check w _ hkey, h1, hj, h3, law32.stays w hkey, MapKept.run_setObj_map _ hb, Result.andThen, ChangeMaps.setBlock]
    · unfold insS
      rw [if_pos hm, ← he, Array.toList_modify, ChangeMaps.modify_eq_set _ _ _ _ h2]
      apply List.ext_getElem?
      intro i
      simp only [List.getElem?_map, List.getElem?_set]
      split
      · rename_i hij
        subst hij
        split
        · rw [h2]; simp [h3]
        · rename_i hh; exact absurd (List.getElem?_eq_some_iff.1 h2).1 hh
      · rfl
    · unfold insS
      rw [if_pos hm]; exact hl
theorem SetIs.len {w : World} {b : Nat} {S : List (List UInt8)} (h : SetIs w b S) : ∃ es clock, w.heap[b]? = some (.map es clock) ∧ es.size = S.length := by
  obtain ⟨es, cl, h1, h2, _⟩ := h
  refine ⟨es, cl, h1, ?_⟩
  have := congrArg List.length h2
  simpa using this
theorem snoc_ind {α : Type} {P : List α → Prop} (h0 : P []) (h1 : ∀ l x, P l → P (l ++ [x])) (l : List α) : P l := by
  have h : ∀ l : List α, P l.reverse := fun l => by
    induction l with
    | nil => exact h0
    | cons x l ih => rw [List.reverse_cons]; exact h1 _ _ ih
  have := h l.reverse
  rwa [List.reverse_reverse] at this
/-- The set of a list. -/
def setL (ks : List (List UInt8)) : List (List UInt8) := ks.foldl insS []
theorem setL_snoc (ks : List (List UInt8)) (k : List UInt8) : setL (ks ++ [k]) = insS (setL ks) k := by simp [setL]
theorem setL_mem (ks : List (List UInt8)) (k : List UInt8) : k ∈ setL ks ↔ k ∈ ks := by
  refine snoc_ind (P := fun ks => k ∈ setL ks ↔ k ∈ ks) (by simp [setL]) (fun ks x ih => ?_) ks
  · rw [setL_snoc]
    unfold insS
    split
    · rename_i h
      rw [ih]
      simp only [List.mem_append, List.mem_singleton]
      constructor
      · exact fun e => .inl e
      · rintro (e | e)
        · exact e
        · rw [← ih, e]; exact h
    · simp only [List.mem_append, List.mem_singleton, ih]
theorem setL_le (ks : List (List UInt8)) : (setL ks).length ≤ ks.length ∧ ((setL ks).length < ks.length ↔ ¬ ks.Nodup) := by
  refine snoc_ind (P := fun ks => (setL ks).length ≤ ks.length ∧ ((setL ks).length < ks.length ↔ ¬ ks.Nodup)) (by simp [setL]) (fun ks x ih => ?_) ks
  · rw [setL_snoc]
    have hnd : (ks ++ [x]).Nodup ↔ ks.Nodup ∧ x ∉ ks := by
      rw [List.nodup_append]
      constructor
      · rintro ⟨h1, _, h3⟩
        exact ⟨h1, fun h => h3 x h x (by simp) rfl⟩
      · rintro ⟨h1, h2⟩
        exact ⟨h1, by simp, fun a ha c hc e => by simp at hc; subst hc; subst e; exact h2 ha⟩
    unfold insS
    rw [hnd]
    split
    · rename_i h
      rw [setL_mem] at h
      simp only [List.length_append, List.length_cons, List.length_nil]
      refine ⟨by omega, ⟨fun _ e => e.2 h, fun _ => by omega⟩⟩
    · rename_i h
      rw [setL_mem] at h
      simp only [List.length_append, List.length_cons, List.length_nil]
      refine ⟨by omega, ⟨fun e e2 => (ih.2.1 (by omega)) e2.1, fun e => ?_⟩⟩
      have : ¬ ks.Nodup := fun e2 => e ⟨e2, h⟩
      have := ih.2.2 this
      omega
end Go.Proofs.YtkaeoflgnnlbeaaGreatDoor

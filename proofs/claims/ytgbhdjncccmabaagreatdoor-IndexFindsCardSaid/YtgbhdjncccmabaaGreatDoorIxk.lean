/- What is proved: rows of numbers and of ids that are filled one by one, plainly; an index's memory is made, whatever order the machine takes. Conditions: at most 1000 ids. -/
import Derived.Test.YtgbhdjncccmabaaGreatDoorIxj
namespace Go.Proofs.YtgbhdjncccmabaaGreatDoor
open Go.RowKit
set_option linter.unusedVariables false

def numL (m : Nat) (f : Nat → Nat) : List Value := (List.range m).map fun c => Value.int .u32 (f c : Nat)
theorem numL_len (m : Nat) (f : Nat → Nat) : (numL m f).length = m := by simp [numL]
theorem numL_get (m : Nat) (f : Nat → Nat) (c : Nat) (h : c < m) : (numL m f)[c]? = some (.int .u32 (f c : Nat)) := by simp [numL, h]
theorem numL_congr (m : Nat) (f g : Nat → Nat) (h : ∀ c, c < m → f c = g c) : numL m f = numL m g := by
  unfold numL
  exact List.map_congr_left (fun c hc => by rw [h c (List.mem_range.1 hc)])
theorem numL_set (m : Nat) (f g : Nat → Nat) (c : Nat) (hc : c < m) (v : Int) (h : ∀ i, i < m → i ≠ c → f i = g i) (hv : v = (g c : Nat)) : (numL m f).toArray.setIfInBounds c (.int .u32 v) = (numL m g).toArray := by
  apply Array.ext_getElem?
  intro j
  rw [Array.getElem?_setIfInBounds]
  split
  · rename_i e
    subst e
    rw [if_pos (by rw [List.size_toArray, numL_len]; exact hc), List.getElem?_toArray, numL_get m g c hc, hv]
  · rename_i e
    rw [List.getElem?_toArray, List.getElem?_toArray]
    rcases Nat.lt_or_ge j m with hj | hj
    · rw [numL_get m f j hj, numL_get m g j hj, h j hj (fun e2 => e e2.symm)]
    · rw [List.getElem?_eq_none (by rw [numL_len]; exact hj), List.getElem?_eq_none (by rw [numL_len]; exact hj)]
theorem fanC_num (f : Nat → Nat) : fanC f = (numL 256 f).toArray := rfl
theorem zeroU_num (n : Nat) : zeroU n = (numL n (fun _ => 0)).toArray := by
  unfold zeroU numL
  apply Array.ext
  · simp [madeCells]
  · intro j h1 h2
    simp [madeCells, Value.cells, Nat.mod_one]
theorem zero_id : idC (dgt 0) = zero32 := by kernel_rfl
def keyL (n : Nat) (f : Nat → Nat) : List Nat := (List.range n).map f
theorem keyL_len (n : Nat) (f : Nat → Nat) : (keyL n f).length = n := by simp [keyL]
theorem keyL_gt (n : Nat) (f : Nat → Nat) (k : Nat) (h : k < n) : gt (keyL n f) k = f k := by simp [keyL, h]
theorem zeroK_key (n : Nat) : zeroK n = (flatI (keyL n (fun _ => 0))).toArray := by
  apply Array.toList_inj.1
  rw [zeroK, madeID]
  have : ∀ m, flatI (keyL m (fun _ => 0)) = List.replicate (32 * m) (.int .u8 0) := fun m => by
    induction m with
    | zero => rfl
    | succ m ih =>
      have e : keyL (m + 1) (fun _ => 0) = keyL m (fun _ => 0) ++ [0] := by simp [keyL, List.range_succ]
      have e2 : flatI (keyL m (fun _ => 0) ++ [0]) = flatI (keyL m (fun _ => 0)) ++ (idC (dgt 0)).toList := by simp [flatI]
      have e3 : (idC (dgt 0)).toList = List.replicate 32 (.int .u8 0) := by rw [zero_id]; rfl
      rw [e, e2, ih, e3, List.replicate_append_replicate]
      congr 1
  rw [this]
theorem keyL_splice (n : Nat) (f g : Nat → Nat) (k : Nat) (hk : k < n) (l : List UInt8) (hl : l.length = 32) (h : ∀ i, i < n → i ≠ k → f i = g i) (hv : idL (g k) = l) : splice (flatI (keyL n f)) (k * 32) (bytesV l) = flatI (keyL n g) := by
  obtain ⟨m, rfl⟩ : ∃ m, n = k + (m + 1) := ⟨n - k - 1, by omega⟩
  have e0 : ∀ q : Nat → Nat, keyL (k + (m + 1)) q = keyL k q ++ q k :: (List.range m).map (fun i => q (k + (i + 1))) := fun q => by
    rw [keyL, List.range_add, List.map_append, List.range_succ_eq_map, List.map_cons, List.map_cons, Nat.add_zero, List.map_map, List.map_map]
    rfl
  have e1 : keyL k f = keyL k g := by
    unfold keyL
    exact List.map_congr_left (fun c hc => h c (by have := List.mem_range.1 hc; omega) (by have := List.mem_range.1 hc; omega))
  have e2 : (List.range m).map (fun i => f (k + (i + 1))) = (List.range m).map (fun i => g (k + (i + 1))) := List.map_congr_left (fun c hc => by
    have := List.mem_range.1 hc
    exact h _ (by omega) (by omega))
  have hA : (flatI (keyL k g)).length = k * 32 := by rw [flatI_len, keyL_len]
  have hF : (idC (dgt (f k))).toList.length = 32 := by rw [Array.length_toList, idC_size]
  rw [e0 f, e0 g, e1, e2]
  have e3 : ∀ x (r : List Nat), flatI (keyL k g ++ x :: r) = flatI (keyL k g) ++ ((idC (dgt x)).toList ++ flatI r) := fun x r => by simp [flatI]
  rw [e3, e3, splice, List.take_append_of_le_length (by omega), List.take_of_length_le (by omega), bytesV_length, hl, List.drop_append, List.drop_of_length_le (l := flatI (keyL k g)) (by omega), List.nil_append, hA, show k * 32 + 32 - k * 32 = 32 by omega, List.drop_append_of_le_length (by omega), List.drop_of_length_le (l := (idC (dgt (f k))).toList) (by omega), List.nil_append, idL_cells (g k), hv]

/-- What stands in an index: its fan-out, its ids, their sums and places, its pack's trailer. -/
structure XAt (base : Nat) (w : World) (X g1 g2 g3 n : Nat) (f ks ss ts : Nat → Nat) (of : Nat) : Prop where
  x : Whole w X 76 (idxC (fanC f) (.slice (some ⟨g1, 0, none⟩) n n) (.slice (some ⟨g2, 0, none⟩) n n) (.slice (some ⟨g3, 0, none⟩) n n) (idC (dgt of)))
  k : Whole w g1 90 (flatI (keyL n ks)).toArray
  s : Whole w g2 41 (numL n ss).toArray
  a : Whole w g3 41 (numL n ts).toArray
  bx : base ≤ X
  b1 : base ≤ g1
  b2 : base ≤ g2
  b3 : base ≤ g3
  n23 : g2 ≠ g3
theorem XAt.frF {base : Nat} {w w' : World} {X g1 g2 g3 n : Nat} {f ks ss ts : Nat → Nat} {of : Nat} (h : XAt base w X g1 g2 g3 n f ks ss ts of) (q : Fr (fun _ => False) w w') : XAt base w' X g1 g2 g3 n f ks ss ts of :=
  ⟨h.x.fr q (fun e => e), h.k.fr q (fun e => e), h.s.fr q (fun e => e), h.a.fr q (fun e => e), h.bx, h.b1, h.b2, h.b3, h.n23⟩
theorem XAt.frB {base : Nat} {w w' : World} {X g1 g2 g3 n g : Nat} {f ks ss ts : Nat → Nat} {of : Nat} (h : XAt base w X g1 g2 g3 n f ks ss ts of) (q : Fr (fun j => j = g) w w') (hg : g < base) : XAt base w' X g1 g2 g3 n f ks ss ts of :=
  ⟨h.x.fr q (by have := h.bx; omega), h.k.fr q (by have := h.b1; omega), h.s.fr q (by have := h.b2; omega), h.a.fr q (by have := h.b3; omega), h.bx, h.b1, h.b2, h.b3, h.n23⟩
theorem idxC_size (f : Nat → Nat) (k s a : Value) (of : Nat) : (idxC (fanC f) k s a (idC (dgt of))).size = 291 := by simp [idxC, fanC_size, idC_size]
theorem idxC_fan (f : Nat → Nat) (k s a : Value) (of c : Nat) (h : c < 256) : (idxC (fanC f) k s a (idC (dgt of)))[c]? = some (.int .u32 (f c : Nat)) := by
  rw [idxC, Array.append_assoc, Array.getElem?_append_left (by rw [fanC_size]; exact h), fanC_get f c h]
theorem idxC_mid (f : Nat → Nat) (k s a : Value) (of c : Nat) (h : c < 3) : (idxC (fanC f) k s a (idC (dgt of)))[256 + c]? = (#[k, s, a] : Array Value)[c]? := by
  rw [idxC, Array.getElem?_append_left (by rw [Array.size_append, fanC_size]; show 256 + c < 259; omega), Array.getElem?_append_right (by rw [fanC_size]; omega), fanC_size]
  rw [show 256 + c - 256 = c by omega]
theorem idxC_set (f g : Nat → Nat) (k s a : Value) (of c : Nat) (h : c < 256) (v : Int) (hh : ∀ i, i < 256 → i ≠ c → f i = g i) (hv : v = (g c : Nat)) : (idxC (fanC f) k s a (idC (dgt of))).setIfInBounds c (.int .u32 v) = idxC (fanC g) k s a (idC (dgt of)) := by
  rw [idxC, idxC, Array.append_assoc, Array.append_assoc, Array.setIfInBounds_append_left (by rw [fanC_size]; exact h), fanC_set f g c h v hh hv]
theorem arrTyK : Tryz.prog.underlying 90 = some (.array (Tryz.prog.arrayLen 90) (Tryz.prog.elem 90)) := by kernel_rfl
theorem arrTyD : Tryz.prog.underlying 24 = some (.array (Tryz.prog.arrayLen 24) (Tryz.prog.elem 24)) := by kernel_rfl
theorem slice_key (g o : Nat) (w : World) : (Instr.sliceAt 90 (.pointer (some ⟨g, o, none⟩)) none none none).run Tryz.prog w = .ok (.slice (some ⟨g, o, none⟩) 32 32) w := by
  have hs : (sizeOf (Tryz.prog.elem 90)).run Tryz.prog w = .ok 1 w := by kernel_rfl
  have h := run_sliceAt_array_all (P := Tryz.prog) w 90 ⟨g, o, none⟩ arrTyK
  rw [h, hs, show Tryz.prog.arrayLen 90 = 32 from by kernel_rfl]
  simp [slicedAt, add_off]
theorem slice_idAt (g o : Nat) (w : World) : (Instr.sliceAt 24 (.pointer (some ⟨g, o, none⟩)) none none none).run Tryz.prog w = .ok (.slice (some ⟨g, o, none⟩) 32 32) w := by
  have hs : (sizeOf (Tryz.prog.elem 24)).run Tryz.prog w = .ok 1 w := by kernel_rfl
  have h := run_sliceAt_array_all (P := Tryz.prog) w 24 ⟨g, o, none⟩ arrTyD
  rw [h, hs, show Tryz.prog.arrayLen 24 = 32 from by kernel_rfl]
  simp [slicedAt, add_off]
theorem idxC_splice (f : Nat → Nat) (k s a : Value) (of : Nat) (l : List UInt8) (hl : l.length = 32) : splice (idxC (fanC f) k s a (idC (dgt of))).toList 259 (bytesV l) = (idxC (fanC f) k s a (idC (dgt (bigV l)))).toList := by
  obtain ⟨U, hU⟩ : ∃ U, fanC f ++ #[k, s, a] = U := ⟨_, rfl⟩
  have h1 : U.toList.length = 259 := by rw [← hU, Array.length_toList, Array.size_append, fanC_size]; rfl
  have h2 : (idC (dgt of)).toList.length = 32 := by rw [Array.length_toList, idC_size]
  have h3 : (bytesV l).length = 32 := by rw [bytesV_length, hl]
  rw [splice, idxC, idxC, hU, Array.toList_append, Array.toList_append, List.take_append_of_le_length (by omega), List.take_of_length_le (l := U.toList) (by omega), List.drop_of_length_le (by rw [List.length_append]; omega), List.append_nil, idL_cells, idL_bigV l hl]
end Go.Proofs.YtgbhdjncccmabaaGreatDoor

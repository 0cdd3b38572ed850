/- What is proved: what a Hash holds of the bytes that came (a definition, and what a piece more makes of it), and New, good, Len. Conditions: none beyond each lemma's own premises. -/
import Derived.Test.YtbbjappmaigobaaDoorShp
namespace Go.Proofs.YtbbjappmaigobaaDoor
open Go.RowKit
set_option linter.unusedVariables false

def blockAt (l : List UInt8) (k : Nat) : List UInt8 := (l.drop (64 * k)).take 64
/-- The state after k blocks. -/
def stN (l : List UInt8) : Nat → S8
  | 0 => S8.start
  | k + 1 => blk (stN l k) (blockAt l k)
def stOf (l : List UInt8) : S8 := stN l (l.length / 64)

theorem blockAt_append (l q : List UInt8) (k : Nat) (h : 64 * (k + 1) ≤ l.length) : blockAt (l ++ q) k = blockAt l k := by
  unfold blockAt
  rw [List.drop_append_of_le_length (by omega), List.take_append_of_le_length (by rw [List.length_drop]; omega)]
theorem stN_append (l q : List UInt8) (k : Nat) (h : 64 * k ≤ l.length) : stN (l ++ q) k = stN l k := by
  induction k with
  | zero => rfl
  | succ k ih => rw [stN, stN, ih (by omega), blockAt_append l q k h]

/-- A Hash's cells. -/
def hcells (n : Nat) (s : S8) (r : List UInt8) : Array Value := ([Value.bool true, Value.int .u64 n] ++ s.vals.toList ++ bytesV r).toArray
/-- What a Hash at block g holds when the bytes l have come; r: what stands in rest. -/
structure HashAt (w : World) (g : Nat) (l r : List UInt8) : Prop where
  len : r.length = 64
  rest : r.take (l.length % 64) = l.drop (64 * (l.length / 64))
  whole : Whole w g 56 (hcells l.length (stOf l) r)
theorem HashAt.fr {S : Nat → Prop} {w w' : World} {g : Nat} {l r : List UInt8} (h : HashAt w g l r) (f : Fr S w w') (hn : ¬ S g) : HashAt w' g l r := ⟨h.len, h.rest, h.whole.fr f hn⟩

theorem hcells_size (n : Nat) (s : S8) (r : List UInt8) : (hcells n s r).size = 10 + r.length := by
  simp only [hcells, List.size_toArray, List.length_append, List.length_cons, List.length_nil, Array.length_toList, S8.size, bytesV_length]
theorem hcells_made (n : Nat) (s : S8) (r : List UInt8) : (hcells n s r)[0]? = some (.bool true) := rfl
theorem hcells_n (n : Nat) (s : S8) (r : List UInt8) : (hcells n s r)[1]? = some (.int .u64 n) := rfl
theorem hcells_rest (n : Nat) (s : S8) (r : List UInt8) (i : Nat) : (hcells n s r)[10 + i]? = (bytesV r)[i]? := by
  rw [hcells, List.getElem?_toArray, List.getElem?_append_right (by show 10 ≤ 10 + i; omega)]
  show (bytesV r)[10 + i - 10]? = _
  congr 1
  omega
theorem hcells_setN (n m : Nat) (s : S8) (r : List UInt8) : (hcells n s r).setIfInBounds 1 (.int .u64 m) = hcells m s r := by
  apply Array.toList_inj.1
  simp only [Array.toList_setIfInBounds]
  rfl
theorem hcells_laidRest (n : Nat) (s : S8) (r q : List UInt8) (o : Nat) : splice (hcells n s r).toList (10 + o) (bytesV q) = (hcells n s (r.take o ++ (q ++ r.drop (o + q.length)))).toList := by
  have e1 : (hcells n s r).toList = ([Value.bool true, Value.int .u64 n] ++ s.vals.toList) ++ bytesV r := rfl
  have hl : ([Value.bool true, Value.int .u64 n] ++ s.vals.toList).length = 10 := rfl
  rw [e1, splice, List.take_append, List.drop_append, hl]
  have h1 : List.take (10 + o) ([Value.bool true, Value.int .u64 n] ++ s.vals.toList) = [Value.bool true, Value.int .u64 n] ++ s.vals.toList := List.take_of_length_le (by rw [hl]; omega)
  have h2 : List.drop (10 + o + (bytesV q).length) ([Value.bool true, Value.int .u64 n] ++ s.vals.toList) = [] := List.drop_of_length_le (by rw [hl]; omega)
  rw [h1, h2, bytesV_length]
  have h3 : 10 + o - 10 = o := by omega
  have h4 : 10 + o + q.length - 10 = o + q.length := by omega
  rw [h3, h4]
  show _ = ([Value.bool true, Value.int .u64 n] ++ s.vals.toList) ++ bytesV _
  simp only [bytesV, List.map_append, List.map_take, List.map_drop, List.append_assoc, List.nil_append]
theorem hcells_laidState (n : Nat) (s q : S8) (r : List UInt8) : laidAt (hcells n s r) 2 q.vals = hcells n q r := by
  apply Array.toList_inj.1
  rfl

/-- A piece that does not fill the block. -/
theorem step_some (l r q : List UInt8) (h : l.length % 64 + q.length < 64) (hr : r.length = 64) (hrest : r.take (l.length % 64) = l.drop (64 * (l.length / 64))) :
    stOf (l ++ q) = stOf l ∧ (r.take (l.length % 64) ++ (q ++ r.drop (l.length % 64 + q.length))).take ((l ++ q).length % 64) = (l ++ q).drop (64 * ((l ++ q).length / 64)) ∧ (r.take (l.length % 64) ++ (q ++ r.drop (l.length % 64 + q.length))).length = 64 := by
  have e1 : (l ++ q).length / 64 = l.length / 64 := by rw [List.length_append]; omega
  have e2 : (l ++ q).length % 64 = l.length % 64 + q.length := by rw [List.length_append]; omega
  refine ⟨?_, ?_, ?_⟩
  · unfold stOf
    rw [e1, stN_append _ _ _ (by omega)]
  · rw [e1, e2, List.drop_append_of_le_length (by omega), ← hrest, ← List.append_assoc]
    have : (r.take (l.length % 64) ++ q).length = l.length % 64 + q.length := by rw [List.length_append, List.length_take]; omega
    rw [← this, List.take_left']
    rfl
  · simp only [List.length_append, List.length_take, List.length_drop]
    omega
/-- A piece that fills it. -/
theorem step_full (l r q : List UInt8) (h : l.length % 64 + q.length = 64) (hr : r.length = 64) (hrest : r.take (l.length % 64) = l.drop (64 * (l.length / 64))) :
    stOf (l ++ q) = blk (stOf l) (r.take (l.length % 64) ++ (q ++ r.drop (l.length % 64 + q.length))) ∧ (r.take (l.length % 64) ++ (q ++ r.drop (l.length % 64 + q.length))).take ((l ++ q).length % 64) = (l ++ q).drop (64 * ((l ++ q).length / 64)) ∧
      (r.take (l.length % 64) ++ (q ++ r.drop (l.length % 64 + q.length))).length = 64 := by
  have e1 : (l ++ q).length / 64 = l.length / 64 + 1 := by rw [List.length_append]; omega
  have e2 : (l ++ q).length % 64 = 0 := by rw [List.length_append]; omega
  have e3 : r.drop (l.length % 64 + q.length) = [] := List.drop_of_length_le (by omega)
  refine ⟨?_, ?_, ?_⟩
  · unfold stOf
    rw [e1, stN, stN_append _ _ _ (by omega), e3, List.append_nil, hrest]
    congr 1
    unfold blockAt
    rw [List.drop_append_of_le_length (by omega), List.take_of_length_le (by rw [List.length_append, List.length_drop]; omega)]
  · rw [e1, e2, List.take_zero, List.drop_of_length_le (by rw [List.length_append]; omega)]
  · simp only [List.length_append, List.length_take, List.length_drop]
    omega

theorem wpList_build_eq {P : Program} {ops : Array Oper} {rest : List Oper} {o : Oper} {a : Act} {w : World} {Q : Exit → Act → World → Prop} (hgd : o.guard = none) (t : TypeId) (parts : Array (Nat × Operand)) (ho : o.op = .build t parts)
    (cells : Array Value) (hc : P.built t (parts.map fun (i, x) => (i, a.eval x)).toList = some cells) (h : wpList P ops Q rest (a.put o.dst (.agg cells)) w) : wpList P ops Q (o :: rest) a w :=
  wpList_plain hgd fun _ hK => wp_build t parts ho (by rw [hc]; rfl) (by rw [hc]; exact hK _ _ h)

theorem sizeH : (Tryd.prog.info? 56).map (·.size) = some 74 := by kernel_rfl
theorem builtH : Tryd.prog.built 56 [(0, .bool true), (2, .agg S8.start.vals)] = some (hcells 0 S8.start (List.replicate 64 0)) := by kernel_rfl

theorem SNew_any (w : World) : Calls Tryd.prog 17 #[] w fun e w' => ∃ g r, e = .returned (.pointer (some ⟨g, 0, none⟩)) ∧ w.heap.size ≤ g ∧ HashAt w' g [] r ∧ Below w.heap.size w w' := by
  have hb := builtH
  obtain ⟨Z, hZ⟩ : ∃ Z, hcells 0 S8.start (List.replicate 64 0) = Z := ⟨_, rfl⟩
  rw [hZ] at hb
  have HB := Lib.hid hb
  clear hb
  go_enter Tryd.func17, Tryd.ntmps17
  go_wp2_with (first
    | (go_at_call 10; refine (SStart_any _).mono ?_; rintro e w2 ⟨rfl, b2⟩)
    | (refine wpList_build_eq rfl 56 _ rfl Z (by simpa [Act.eval] using HB.out) ?_))
  go_ret
  refine ⟨w2.heap.size, List.replicate 64 0, rfl, b2.size, ⟨rfl, rfl, ?_⟩, b2.alloc b2.size _⟩
  rw [← hZ]
  exact Whole.new w2 56 _

theorem Hgood_any (g : Nat) (l r : List UInt8) (w : World) (h : HashAt w g l r) : Calls Tryd.prog 25 #[.pointer (some ⟨g, 0, none⟩)] w fun e w' => e = .returned (.bool true) ∧ w = w' := by
  have c0 := h.whole.cell 0
  rw [hcells_made] at c0
  clear h
  go_enter Tryd.func25, Tryd.ntmps25
  go_wp2_with fail
  go_ret
  exact ⟨rfl, rfl⟩
theorem Hgood_nil (w : World) : Calls Tryd.prog 25 #[.pointer none] w fun e w' => e = .returned (.bool false) ∧ w = w' := by
  go_enter Tryd.func25, Tryd.ntmps25
  go_wp2_with fail
  go_ret
  exact ⟨rfl, rfl⟩
theorem HLen_any (g : Nat) (l r : List UInt8) (w : World) (h : HashAt w g l r) : Calls Tryd.prog 20 #[.pointer (some ⟨g, 0, none⟩)] w fun e w' => e = .returned (.int .u64 l.length) ∧ w = w' := by
  have c0 := h.whole.cell 1
  rw [hcells_n] at c0
  go_enter Tryd.func20, Tryd.ntmps20
  go_wp2_with (go_at_call 25; refine (Hgood_any g l r _ h).mono ?_; rintro e w2 ⟨rfl, rfl⟩)
  go_ret
  exact ⟨rfl, rfl⟩
theorem HLen_nil (w : World) : Calls Tryd.prog 20 #[.pointer none] w fun e w' => e = .returned (.int .u64 0) ∧ w = w' := by
  go_enter Tryd.func20, Tryd.ntmps20
  go_wp2_with (go_at_call 25; refine (Hgood_nil _).mono ?_; rintro e w2 ⟨rfl, rfl⟩)
  go_ret
  exact ⟨rfl, rfl⟩
theorem HWrite_nil (v : Value) (w : World) : Calls Tryd.prog 18 #[.pointer none, v] w fun e w' => e = .returned (.tuple #[]) ∧ w = w' := by
  go_enter Tryd.func18, Tryd.ntmps18
  go_wp2_with (go_at_call 25; refine (Hgood_nil _).mono ?_; rintro e w2 ⟨rfl, rfl⟩)
  refine bodyPost_ret (results_none rfl _ _ _) rfl ?_
  exact ⟨rfl, rfl⟩
end Go.Proofs.YtbbjappmaigobaaDoor

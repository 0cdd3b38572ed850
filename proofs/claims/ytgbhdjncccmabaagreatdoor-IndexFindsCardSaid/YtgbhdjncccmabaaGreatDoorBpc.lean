/- What is proved: what the walks of this seat need of layers below, merged out of the texts Shp Shh (of each just what is needed). Conditions: each theorem names its own. -/
import Derived.Laws.OwnMore
import Derived.Test.YtgbhdjncccmabaaGreatDoorBpb
set_option maxRecDepth 100000
/- What is proved: what the program's Pad answers: a byte 128, noughts, eight bytes. Conditions: none. -/
namespace Go.Proofs.YtgbhdjncccmabaaGreatDoor
open Go.RowKit
set_option linter.unusedVariables false
/-- The last t bytes of a number, the highest first. -/
def tailB (m : Nat) : Nat → List UInt8
  | 0 => []
  | t + 1 => UInt8.ofNat (m / 256 ^ t % 256) :: tailB m t
theorem tailB_length (m t : Nat) : (tailB m t).length = t := by
  induction t with
  | zero => rfl
  | succ t ih => simp [tailB, ih]
def noughts (n : Nat) : Nat := (119 - n % 64) % 64
/-- What stands behind n bytes. -/
def padB (n : Nat) : List UInt8 := 128 :: (List.replicate (noughts n) 0 ++ tailB (8 * n % 18446744073709551616) 8)
theorem padB_length (n : Nat) : (padB n).length = noughts n + 9 := by simp [padB, tailB_length]
theorem padB_whole (n : Nat) : (n + (padB n).length) % 64 = 0 := by rw [padB_length]; unfold noughts; omega
theorem noughts_lt (n : Nat) : noughts n < 64 := Nat.mod_lt _ (by decide)
/-- While it is filled. -/
def padC (k m t : Nat) : List UInt8 := 128 :: (List.replicate (k + (8 - t)) 0 ++ tailB m t)
theorem padC_length (k m t : Nat) (h : t ≤ 8) : (padC k m t).length = k + 9 := by simp [padC, tailB_length]; omega
theorem padC_end (n : Nat) : padC (noughts n) (8 * n % 18446744073709551616) 8 = padB n := rfl
theorem padC_set (k m t : Nat) (h : t < 8) : (bytesV (padC k m t)).toArray.setIfInBounds (k + 8 - t) (.int .u8 ((m / 256 ^ t % 256 : Nat) : Int)) = (bytesV (padC k m (t + 1))).toArray := by
  apply Array.toList_inj.1
  simp only [Array.toList_setIfInBounds]
  obtain ⟨j, hj⟩ : ∃ j, k + (8 - t) = j + 1 := ⟨k + (8 - t) - 1, by omega⟩
  have e1 : k + 8 - t = j + 1 := by omega
  have e2 : k + (8 - (t + 1)) = j := by omega
  have e3 : byteV (UInt8.ofNat (m / 256 ^ t % 256)) = .int .u8 ((m / 256 ^ t % 256 : Nat) : Int) := by
    unfold byteV
    rw [UInt8.toNat_ofNat_of_lt' (by show _ < 256; omega)]
  unfold padC
  rw [hj, e1, e2, tailB, List.replicate_succ']
  simp only [bytesV, List.map_cons, List.map_append, List.map_replicate, List.set_cons_succ, List.append_assoc, List.cons_append, List.nil_append]
  rw [List.set_append_right _ _ (by simp), List.length_replicate, Nat.sub_self, List.set_cons_zero, e3]
theorem info_u8S : (Tryz.prog.info? 5).map (fun i => (i.zero, i.size, i.bytes)) = some (some (.int .u8 0), 1, 1) := by kernel_rfl
theorem info_partsS {P : Program} {t : TypeId} {z : Value} {s b : Nat} (h : (P.info? t).map (fun i => (i.zero, i.size, i.bytes)) = some (some z, s, b)) : ∃ i, P.info? t = some i ∧ i.zero = some z ∧ i.size = s ∧ i.bytes = b := by
  cases hq : P.info? t with
  | none => simp [hq] at h
  | some i =>
    simp [hq] at h
    exact ⟨i, rfl, h.1, h.2.1, h.2.2⟩
/-- A new slice of noughts. -/
theorem make_bytes (w : World) (k : Nat) (hk : k < 64) : (Instr.makeSlice 28 (.int .u64 (1 + k + 8)) (.int .u64 (1 + k + 8))).run Tryz.prog w =
    .ok (.slice (some ⟨w.heap.size, 0, none⟩) (k + 9) (k + 9)) (w.alloc (.cells (bytesV (List.replicate (k + 9) 0)).toArray 5)) := by
  obtain ⟨i0, hi, hz0, hz1, hz2⟩ := info_partsS info_u8S
  have h := run_make (P := Tryz.prog) w 28 5 i0 (.int .u8 0) Tryz.underlying28 hi hz0 .u64 .u64 (1 + k + 8) (1 + k + 8) (by omega) (by omega) (by rw [hz2]; omega) (by omega)
  have e : ((1 : Int) + k + 8).toNat = k + 9 := by omega
  rw [e, hz1, Nat.mul_one] at h
  have e2 : madeCells (Value.int .u8 0).cells (k + 9) = (bytesV (List.replicate (k + 9) 0)).toArray := by
    apply Array.toList_inj.1
    show (madeCells #[Value.int .u8 0] (k + 9)).toList = _
    rw [toList_madeCells_one]
    simp [bytesV, byteV]
  rw [e2] at h
  exact h
theorem shr_tail (m : Int) (M t : Nat) (h : (M : Int) = m) : m / 2 ^ (8 * t) % 256 = ((M / 256 ^ t % 256 : Nat) : Int) := by
  rw [← h]
  have e : (256 : Nat) ^ t = 2 ^ (8 * t) := by rw [Nat.pow_mul]
  rw [e, Int.natCast_emod, Int.natCast_ediv, Int.natCast_pow]
  rfl
def PadRel (w : World) (k M t : Nat) (wr : World) : Prop := Whole wr w.heap.size 5 (bytesV (padC k M t)).toArray ∧ Fr (fun _ => False) w wr
theorem PadRel.put {w wr : World} {k M t : Nat} (h : PadRel w k M t wr) (ht : t < 8) : PadRel w k M (t + 1) (wr.setCell ⟨w.heap.size, k + 8 - t, none⟩ (.int .u8 ((M / 256 ^ t % 256 : Nat) : Int))) := by
  refine ⟨?_, h.2.setCell (fun e => absurd e (Nat.lt_irrefl _)) _⟩
  have := h.1.set (k + 8 - t) (.int .u8 ((M / 256 ^ t % 256 : Nat) : Int))
  rwa [padC_set k M t ht] at this
theorem PadRel.cell {w wr : World} {k M t : Nat} (h : PadRel w k M t wr) (ht : t < 8) : ∃ u, wr.cell? ⟨w.heap.size, k + 8 - t, none⟩ = some u := by
  rw [h.1.cell]
  have : k + 8 - t < (bytesV (padC k M t)).toArray.size := by rw [List.size_toArray, bytesV_length, padC_length _ _ _ (by omega)]; omega
  exact ⟨_, Array.getElem?_eq_getElem this⟩
set_option maxHeartbeats 800000 in
theorem SPad_any (n : Nat) (hn : n < 18446744073709551616) (w : World) :
    Calls Tryz.prog 79 #[.int .u64 n] w fun e w' => ∃ g, e = .returned (.slice (some ⟨g, 0, none⟩) (padB n).length (padB n).length) ∧ w.heap.size ≤ g ∧ Whole w' g 5 (bytesV (padB n)).toArray ∧ Below w.heap.size w w' := by
  obtain ⟨N, hN⟩ : ∃ N : Int, (n : Int) = N := ⟨_, rfl⟩
  rw [hN]
  obtain ⟨k, hk⟩ : ∃ k, noughts n = k := ⟨_, rfl⟩
  have hk64 : k < 64 := by rw [← hk]; exact noughts_lt n
  obtain ⟨x, hx⟩ : ∃ x : Int, (55 - N) % 18446744073709551616 = x := ⟨_, rfl⟩
  have e0 : IntKind.u64.wrap (55 - N) = x := by rw [IntKind.wrap_u64]; exact hx
  have hx0 : 0 ≤ x := by omega
  have hx1 : x < 18446744073709551616 := by omega
  have e1 : x % 64 = (k : Int) := by
    rw [← hk, ← hx, ← hN]
    unfold noughts
    omega
  obtain ⟨M, hM⟩ : ∃ M, 8 * n % 18446744073709551616 = M := ⟨_, rfl⟩
  obtain ⟨m, hm⟩ : ∃ m : Int, (M : Int) = m := ⟨_, rfl⟩
  have e2 : IntKind.u64.wrap (8 * N) = m := by rw [IntKind.wrap_u64, ← hN, ← hm, ← hM]; omega
  have hm0 : 0 ≤ m := by omega
  have hm1 : m < 18446744073709551616 := by omega
  have HE := Lib.hid (show padC k M 8 = padB n by rw [← hk, ← hM]; exact padC_end n)
  have HL := Lib.hid (show (padB n).length = k + 9 by rw [padB_length, hk])
  clear hN hk hM hx
  have HM := Lib.hid hm
  clear hm
  have hmk := fun w => make_bytes w k hk64
  have hW := Whole.new w 5 (bytesV (List.replicate (k + 9) 0)).toArray
  have hP : PadRel w k M 0 (w.alloc (.cells ((bytesV (List.replicate (k + 9) 0)).toArray.setIfInBounds 0 (.int .u8 128)) 5)) := by
    have e : (bytesV (List.replicate (k + 9) 0)).toArray.setIfInBounds 0 (.int .u8 128) = (bytesV (padC k M 0)).toArray := by
      apply Array.toList_inj.1
      simp only [Array.toList_setIfInBounds]
      rw [List.replicate_succ]
      simp only [bytesV, List.map_cons, List.set_cons_zero, padC, tailB, List.append_nil]
      rfl
    rw [e]
    exact ⟨Whole.new w 5 _, (Fr.refl _ w).alloc _⟩
  have c0 : ∃ u, (w.alloc (.cells (bytesV (List.replicate (k + 9) 0)).toArray 5)).cell? ⟨w.heap.size, 0, none⟩ = some u := by
    rw [hW.cell, List.replicate_succ]
    exact ⟨_, rfl⟩
  obtain ⟨u0, c0⟩ := c0
  have f0 := hW.frozen 0
  obtain ⟨Z, hZ⟩ : ∃ Z, (bytesV (List.replicate (k + 9) 0)).toArray = Z := ⟨_, rfl⟩
  rw [hZ] at hP c0 f0
  have hmk' : ∀ w, (Instr.makeSlice 28 (.int .u64 (1 + k + 8)) (.int .u64 (1 + k + 8))).run Tryz.prog w = .ok (.slice (some ⟨w.heap.size, 0, none⟩) (k + 9) (k + 9)) (w.alloc (.cells Z 5)) := fun w => by rw [← hZ]; exact hmk w
  have HP := Lib.hid hP
  clear hmk hZ hW hP
  rw [HL.out]
  go_enter Tryz.func79, Tryz.ntmps79
  go_wp2_with fail
  go_loopw [15] (fun i wr => ∃ t : Nat, t ≤ 8 ∧ i = .int .i64 t ∧ PadRel w k M t wr) (fun i _ => 8 - (intOf i).toNat)
  case atStart => exact ⟨0, by omega, rfl, HP.out⟩
  case round =>
    clear c0 f0 hmk'
    obtain ⟨t, ht, rfl, hr⟩ := hrel
    by_cases hlt : t < 8
    · obtain ⟨u, c1⟩ := hr.cell hlt
      have f1 := hr.1.frozen (k + 8 - t)
      have HS := Lib.hid (shr_tail m M t HM.out)
      have HR := Lib.hid hr
      clear hr
      go_wp2_with fail
      go_roundw
      case rel => exact ⟨t + 1, by omega, by go_num, by rw [HS.out]; exact PadRel.put HR.out hlt⟩
      case measure => simp [intOf]; omega
    · obtain rfl : t = 8 := by omega
      go_wp2_with fail
      go_ret
      refine ⟨w.heap.size, rfl, Nat.le_refl _, ?_, hr.2.below (fun _ _ e => e)⟩
      rw [← HE.out]
      exact hr.1
end Go.Proofs.YtgbhdjncccmabaaGreatDoor
/- What is proved: what a Hash holds of the bytes that came (a definition, and what a piece more makes of it), and New, good, Len. Conditions: none beyond each lemma's own premises. -/
namespace Go.Proofs.YtgbhdjncccmabaaGreatDoor
open Go.RowKit
set_option linter.unusedVariables false
def blockAt (l : List UInt8) (k : Nat) : List UInt8 := (l.drop (64 * k)).take 64
/-- The state after k blocks. -/
def stN (l : List UInt8) : Nat → S8
  | 0 => S8.start
  | k + 1 => blk (stN l k) (blockAt l k)
def stOf (l : List UInt8) : S8 := stN l (l.length / 64)
theorem blockAt_append (l q : List UInt8) (k : Nat) (h : 64 * (k + 1) ≤ l.length) : blockAt (l ++ q) k = blockAt l k := by
  unfold blockAt
  rw [List.drop_append_of_le_length (by omega), List.take_append_of_le_length (by rw [List.length_drop]; omega)]
theorem stN_append (l q : List UInt8) (k : Nat) (h : 64 * k ≤ l.length) : stN (l ++ q) k = stN l k := by
  induction k with
  | zero => rfl
  | succ k ih => rw [stN, stN, ih (by omega), blockAt_append l q k h]
/-- A Hash's cells. -/
def hcells (n : Nat) (s : S8) (r : List UInt8) : Array Value := ([Value.bool true, Value.int .u64 n] ++ s.vals.toList ++ bytesV r).toArray
/-- What a Hash at block g holds when the bytes l have come; r: what stands in rest. -/
structure HashAt (w : World) (g : Nat) (l r : List UInt8) : Prop where
  len : r.length = 64
  rest : r.take (l.length % 64) = l.drop (64 * (l.length / 64))
  whole : Whole w g 136 (hcells l.length (stOf l) r)
theorem HashAt.fr {S : Nat → Prop} {w w' : World} {g : Nat} {l r : List UInt8} (h : HashAt w g l r) (f : Fr S w w') (hn : ¬ S g) : HashAt w' g l r := ⟨h.len, h.rest, h.whole.fr f hn⟩
theorem hcells_size (n : Nat) (s : S8) (r : List UInt8) : (hcells n s r).size = 10 + r.length := by
  simp only [hcells, List.size_toArray, List.length_append, List.length_cons, List.length_nil, Array.length_toList, S8.size, bytesV_length]
theorem hcells_made (n : Nat) (s : S8) (r : List UInt8) : (hcells n s r)[0]? = some (.bool true) := rfl
theorem hcells_n (n : Nat) (s : S8) (r : List UInt8) : (hcells n s r)[1]? = some (.int .u64 n) := rfl
theorem hcells_rest (n : Nat) (s : S8) (r : List UInt8) (i : Nat) : (hcells n s r)[10 + i]? = (bytesV r)[i]? := by
  rw [hcells, List.getElem?_toArray, List.getElem?_append_right (by show 10 ≤ 10 + i; omega)]
  show (bytesV r)[10 + i - 10]? = _
  congr 1
  omega
theorem hcells_setN (n m : Nat) (s : S8) (r : List UInt8) : (hcells n s r).setIfInBounds 1 (.int .u64 m) = hcells m s r := by
  apply Array.toList_inj.1
  simp only [Array.toList_setIfInBounds]
  rfl
theorem hcells_laidRest (n : Nat) (s : S8) (r q : List UInt8) (o : Nat) : splice (hcells n s r).toList (10 + o) (bytesV q) = (hcells n s (r.take o ++ (q ++ r.drop (o + q.length)))).toList := by
  have e1 : (hcells n s r).toList = ([Value.bool true, Value.int .u64 n] ++ s.vals.toList) ++ bytesV r := rfl
  have hl : ([Value.bool true, Value.int .u64 n] ++ s.vals.toList).length = 10 := rfl
  rw [e1, splice, List.take_append, List.drop_append, hl]
  have h1 : List.take (10 + o) ([Value.bool true, Value.int .u64 n] ++ s.vals.toList) = [Value.bool true, Value.int .u64 n] ++ s.vals.toList := List.take_of_length_le (by rw [hl]; omega)
  have h2 : List.drop (10 + o + (bytesV q).length) ([Value.bool true, Value.int .u64 n] ++ s.vals.toList) = [] := List.drop_of_length_le (by rw [hl]; omega)
  rw [h1, h2, bytesV_length]
  have h3 : 10 + o - 10 = o := by omega
  have h4 : 10 + o + q.length - 10 = o + q.length := by omega
  rw [h3, h4]
  show _ = ([Value.bool true, Value.int .u64 n] ++ s.vals.toList) ++ bytesV _
  simp only [bytesV, List.map_append, List.map_take, List.map_drop, List.append_assoc, List.nil_append]
theorem hcells_laidState (n : Nat) (s q : S8) (r : List UInt8) : laidAt (hcells n s r) 2 q.vals = hcells n q r := by
  apply Array.toList_inj.1
  rfl
/-- A piece that does not fill the block. -/
theorem step_some (l r q : List UInt8) (h : l.length % 64 + q.length < 64) (hr : r.length = 64) (hrest : r.take (l.length % 64) = l.drop (64 * (l.length / 64))) :
    stOf (l ++ q) = stOf l ∧ (r.take (l.length % 64) ++ (q ++ r.drop (l.length % 64 + q.length))).take ((l ++ q).length % 64) = (l ++ q).drop (64 * ((l ++ q).length / 64)) ∧ (r.take (l.length % 64) ++ (q ++ r.drop (l.length % 64 + q.length))).length = 64 := by
  have e1 : (l ++ q).length / 64 = l.length / 64 := by rw [List.length_append]; omega
  have e2 : (l ++ q).length % 64 = l.length % 64 + q.length := by rw [List.length_append]; omega
  refine ⟨?_, ?_, ?_⟩
  · unfold stOf
    rw [e1, stN_append _ _ _ (by omega)]
  · rw [e1, e2, List.drop_append_of_le_length (by omega), ← hrest, ← List.append_assoc]
    have : (r.take (l.length % 64) ++ q).length = l.length % 64 + q.length := by rw [List.length_append, List.length_take]; omega
    rw [← this, List.take_left']
    rfl
  · simp only [List.length_append, List.length_take, List.length_drop]
    omega
/-- A piece that fills it. -/
theorem step_full (l r q : List UInt8) (h : l.length % 64 + q.length = 64) (hr : r.length = 64) (hrest : r.take (l.length % 64) = l.drop (64 * (l.length / 64))) :
    stOf (l ++ q) = blk (stOf l) (r.take (l.length % 64) ++ (q ++ r.drop (l.length % 64 + q.length))) ∧ (r.take (l.length % 64) ++ (q ++ r.drop (l.length % 64 + q.length))).take ((l ++ q).length % 64) = (l ++ q).drop (64 * ((l ++ q).length / 64)) ∧
      (r.take (l.length % 64) ++ (q ++ r.drop (l.length % 64 + q.length))).length = 64 := by
  have e1 : (l ++ q).length / 64 = l.length / 64 + 1 := by rw [List.length_append]; omega
  have e2 : (l ++ q).length % 64 = 0 := by rw [List.length_append]; omega
  have e3 : r.drop (l.length % 64 + q.length) = [] := List.drop_of_length_le (by omega)
  refine ⟨?_, ?_, ?_⟩
  · unfold stOf
    rw [e1, stN, stN_append _ _ _ (by omega), e3, List.append_nil, hrest]
    congr 1
    unfold blockAt
    rw [List.drop_append_of_le_length (by omega), List.take_of_length_le (by rw [List.length_append, List.length_drop]; omega)]
  · rw [e1, e2, List.take_zero, List.drop_of_length_le (by rw [List.length_append]; omega)]
  · simp only [List.length_append, List.length_take, List.length_drop]
    omega
theorem wpList_build_eq {P : Program} {ops : Array Oper} {rest : List Oper} {o : Oper} {a : Act} {w : World} {Q : Exit → Act → World → Prop} (hgd : o.guard = none) (t : TypeId) (parts : Array (Nat × Operand)) (ho : o.op = .build t parts)
    (cells : Array Value) (hc : P.built t (parts.map fun (i, x) => (i, a.eval x)).toList = some cells) (h : wpList P ops Q rest (a.put o.dst (.agg cells)) w) : wpList P ops Q (o :: rest) a w :=
  wpList_plain hgd fun _ hK => wp_build t parts ho (by rw [hc]; rfl) (by rw [hc]; exact hK _ _ h)
theorem sizeH : (Tryz.prog.info? 136).map (·.size) = some 74 := by kernel_rfl
theorem builtH : Tryz.prog.built 136 [(0, .bool true), (2, .agg S8.start.vals)] = some (hcells 0 S8.start (List.replicate 64 0)) := by kernel_rfl
theorem SNew_any (w : World) : Calls Tryz.prog 48 #[] w fun e w' => ∃ g r, e = .returned (.pointer (some ⟨g, 0, none⟩)) ∧ w.heap.size ≤ g ∧ HashAt w' g [] r ∧ Below w.heap.size w w' := by
  have hb := builtH
  obtain ⟨Z, hZ⟩ : ∃ Z, hcells 0 S8.start (List.replicate 64 0) = Z := ⟨_, rfl⟩
  rw [hZ] at hb
  have HB := Lib.hid hb
  clear hb
  go_enter Tryz.func48, Tryz.ntmps48
  go_wp2_with (first
    | (go_at_call 76; refine (SStart_any _).mono ?_; rintro e w2 ⟨rfl, b2⟩)
    | (refine wpList_build_eq rfl 136 _ rfl Z (by simpa [Act.eval] using HB.out) ?_))
  go_ret
  refine ⟨w2.heap.size, List.replicate 64 0, rfl, b2.size, ⟨rfl, rfl, ?_⟩, b2.alloc b2.size _⟩
  rw [← hZ]
  exact Whole.new w2 136 _
theorem Hgood_any (g : Nat) (l r : List UInt8) (w : World) (h : HashAt w g l r) : Calls Tryz.prog 77 #[.pointer (some ⟨g, 0, none⟩)] w fun e w' => e = .returned (.bool true) ∧ w = w' := by
  have c0 := h.whole.cell 0
  rw [hcells_made] at c0
  clear h
  go_enter Tryz.func77, Tryz.ntmps77
  go_wp2_with fail
  go_ret
  exact ⟨rfl, rfl⟩
end Go.Proofs.YtgbhdjncccmabaaGreatDoor

/- What is proved: what the walks of this seat need of layers below, merged out of the texts Shj Shw Sho (of each just what is needed). Conditions: each theorem names its own. -/
import Derived.Deep.RegionLaw
import Derived.Test.YtgbhdjncccmabaaGreatDoorDga
import Derived.Test.YtgbhdjncccmabaaGreatDoorBpc
set_option maxRecDepth 100000
/- What is proved: a state's numbers as bytes (joined). Conditions: numbers of 32 bits. -/
namespace Go.Proofs.YtgbhdjncccmabaaGreatDoor
open Go.RowKit
set_option linter.unusedVariables false
def S8.nums (s : S8) : List Int := [s.a, s.b, s.c, s.d, s.e, s.f, s.g, s.h]
/-- All are numbers of 32 bits. -/
def S8.ok (s : S8) : Prop := ∀ x ∈ s.nums, 0 ≤ x ∧ x < 4294967296
theorem S8.start_ok : S8.start.ok := by
  intro x hx
  simp [S8.nums, S8.start] at hx
  omega
theorem blk_ok (s : S8) (b : List UInt8) : (blk s b).ok := by
  intro x hx
  simp [S8.nums, blk, S8.add] at hx
  omega
theorem stN_ok (l : List UInt8) (k : Nat) : (stN l k).ok := by
  cases k with
  | zero => exact S8.start_ok
  | succ k => exact blk_ok _ _
theorem S8.ok_get {s : S8} (h : s.ok) (i : Nat) : 0 ≤ s.nums.getD i 0 ∧ s.nums.getD i 0 < 4294967296 := by
  by_cases hi : i < s.nums.length
  · rw [List.getD_eq_getElem?_getD, List.getElem?_eq_getElem hi]
    exact h _ (List.getElem_mem hi)
  · rw [List.getD_eq_getElem?_getD, List.getElem?_eq_none (by omega)]
    decide
/-- Byte k of a state. -/
def idN (s : S8) (k : Nat) : Int := s.nums.getD (k / 4) 0 / 2 ^ (24 - 8 * (k % 4)) % 256
/-- The first m bytes, and noughts. -/
def idCS (s : S8) (m : Nat) : Array Value := ((List.range m).map (fun k => Value.int .u8 (idN s k)) ++ List.replicate (32 - m) (Value.int .u8 0)).toArray
theorem idC_sizeS (s : S8) (m : Nat) (h : m ≤ 32) : (idCS s m).size = 32 := by simp [idCS]; omega
theorem idC_oneS (s : S8) (m : Nat) : (idCS s m).all (·.oneCell') = true := by
  refine Array.all_eq_true_iff_forall_mem.2 (fun v hv => ?_)
  simp only [idCS, List.mem_toArray, List.mem_append, List.mem_map, List.mem_replicate] at hv
  rcases hv with ⟨x, _, rfl⟩ | ⟨_, rfl⟩ <;> rfl
theorem idC_getS (s : S8) (m : Nat) (h : m < 32) : (idCS s m)[m]? = some (.int .u8 0) := by
  simp only [idCS, List.getElem?_toArray]
  rw [List.getElem?_append_right (by simp), List.getElem?_replicate, if_pos (by simp; omega)]
theorem idC_setS (s : S8) (m : Nat) (h : m < 32) : (idCS s m).setIfInBounds m (.int .u8 (idN s m)) = idCS s (m + 1) := by
  apply Array.toList_inj.1
  simp only [idCS, Array.toList_setIfInBounds]
  obtain ⟨k, hk⟩ : ∃ k, 32 - m = k + 1 := ⟨32 - m - 1, by omega⟩
  have h2 : 32 - (m + 1) = k := by omega
  rw [hk, h2, List.set_append, if_neg (by simp), List.length_map, List.length_range, Nat.sub_self, List.replicate_succ, List.set_cons_zero, List.range_succ, List.map_append, List.append_assoc]
  rfl
theorem size32 : (Tryz.prog.info? 24).map (·.size) = some 32 := by kernel_rfl
theorem index8 (s : S8) (i : Nat) (h : i < 8) (w : World) : (Instr.index 111 (.agg s.vals) (.int .i64 i)).run Tryz.prog w = .ok (.int .u32 (s.nums.getD i 0)) w := by
  have h8 : i = 0 ∨ i = 1 ∨ i = 2 ∨ i = 3 ∨ i = 4 ∨ i = 5 ∨ i = 6 ∨ i = 7 := by omega
  have i0 : ∀ w : World, (Instr.index 111 (.agg s.vals) (.int .i64 0)).run Tryz.prog w = .ok (.int .u32 s.a) w := fun _ => by kernel_rfl
  have i1 : ∀ w : World, (Instr.index 111 (.agg s.vals) (.int .i64 1)).run Tryz.prog w = .ok (.int .u32 s.b) w := fun _ => by kernel_rfl
  have i2 : ∀ w : World, (Instr.index 111 (.agg s.vals) (.int .i64 2)).run Tryz.prog w = .ok (.int .u32 s.c) w := fun _ => by kernel_rfl
  have i3 : ∀ w : World, (Instr.index 111 (.agg s.vals) (.int .i64 3)).run Tryz.prog w = .ok (.int .u32 s.d) w := fun _ => by kernel_rfl
  have i4 : ∀ w : World, (Instr.index 111 (.agg s.vals) (.int .i64 4)).run Tryz.prog w = .ok (.int .u32 s.e) w := fun _ => by kernel_rfl
  have i5 : ∀ w : World, (Instr.index 111 (.agg s.vals) (.int .i64 5)).run Tryz.prog w = .ok (.int .u32 s.f) w := fun _ => by kernel_rfl
  have i6 : ∀ w : World, (Instr.index 111 (.agg s.vals) (.int .i64 6)).run Tryz.prog w = .ok (.int .u32 s.g) w := fun _ => by kernel_rfl
  have i7 : ∀ w : World, (Instr.index 111 (.agg s.vals) (.int .i64 7)).run Tryz.prog w = .ok (.int .u32 s.h) w := fun _ => by kernel_rfl
  rcases h8 with rfl | rfl | rfl | rfl | rfl | rfl | rfl | rfl
  · exact i0 w
  · exact i1 w
  · exact i2 w
  · exact i3 w
  · exact i4 w
  · exact i5 w
  · exact i6 w
  · exact i7 w
def JoRel (w : World) (s : S8) (m : Nat) (wr : World) : Prop := Whole wr (w.heap.size + 1) 24 (idCS s m) ∧ Fr (fun _ => False) w wr
theorem JoRel.put {w wr : World} {s : S8} {m : Nat} (h : JoRel w s m wr) (hm : m < 32) : JoRel w s (m + 1) (wr.setCell ⟨w.heap.size + 1, m, none⟩ (.int .u8 (idN s m))) := by
  refine ⟨?_, h.2.setCell (fun e => absurd e (by show ¬ w.heap.size + 1 < w.heap.size; omega)) _⟩
  have := h.1.set m (.int .u8 (idN s m))
  rwa [idC_setS s m hm] at this
set_option maxHeartbeats 800000 in
theorem Sjoined_any (s : S8) (hs : s.ok) (w : World) : Calls Tryz.prog 80 #[.agg s.vals] w fun e w' => e = .returned (.agg (idCS s 32)) ∧ Below w.heap.size w w' := by
  obtain ⟨w1, hw1⟩ : ∃ w1, ((w.alloc (.cells s.vals 111)).alloc (.cells (idCS s 0) 24)) = w1 := ⟨_, rfl⟩
  have hF : Fr (fun _ => False) w w1 := by subst hw1; exact ((Fr.refl _ w).alloc _).alloc _
  have hJ : JoRel w s 0 w1 := by
    refine ⟨?_, hF⟩
    subst hw1
    have h := Whole.new (w.alloc (.cells s.vals 111)) 24 (idCS s 0)
    have e : (w.alloc (.cells s.vals 111)).heap.size = w.heap.size + 1 := by simp
    rwa [e] at h
  have hS : Whole w1 w.heap.size 111 s.vals := by
    subst hw1
    exact (Whole.new w 111 s.vals).fr ((Fr.refl (fun _ => False) _).alloc _) (fun e => e)
  unfold idCS at hw1
  simp [List.replicate] at hw1
  have HS := Lib.hid hS
  have HJ := Lib.hid hJ
  clear hS hJ hF
  go_enter Tryz.func80, Tryz.ntmps80
  go_wp2_with (first
    | (refine wpList_load_row rfl 111 _ rfl _ rfl 111 _ _ _ HS.out Tryz.underlying111 rfl size8 ?_))
  clear hw1
  go_loopw [7] (fun i wr => ∃ t : Nat, t ≤ 8 ∧ i = .int .i64 t ∧ JoRel w s (4 * t) wr) (fun i _ => 8 - (intOf i).toNat)
  case atStart => exact ⟨0, by omega, rfl, HJ.out⟩
  case round =>
    obtain ⟨t, ht, rfl, hr⟩ := hrel
    by_cases hlt : t < 8
    · have hi := index8 s t hlt
      obtain ⟨x, hx⟩ : ∃ x, s.nums.getD t 0 = x := ⟨_, rfl⟩
      have hxb := S8.ok_get hs t
      rw [hx] at hi hxb
      obtain ⟨hx0, hx1⟩ := hxb
      have HX := Lib.hid hx
      clear hx
      go_wp2_with fail
      go_loopw [11] (fun j wr => ∃ u : Nat, u ≤ 4 ∧ j = .int .i64 u ∧ JoRel w s (4 * t + u) wr) (fun j _ => 4 - (intOf j).toNat)
      case atStart => exact ⟨0, by omega, rfl, hr⟩
      case round =>
        clear hr hi
        obtain ⟨u, hu, rfl, hr⟩ := hrel
        by_cases hlu : u < 4
        · have c1 : wr.cell? ⟨w.heap.size + 1, 4 * t + u, none⟩ = some (.int .u8 0) := by rw [hr.1.cell, idC_getS _ _ (by omega)]
          have f1 := hr.1.frozen (4 * t + u)
          have HE := Lib.hid (show idN s (4 * t + u) = x / 2 ^ (24 - 8 * u) % 256 by
            unfold idN
            have e1 : (4 * t + u) / 4 = t := by omega
            have e2 : (4 * t + u) % 4 = u := by omega
            rw [e1, e2, HX.out])
          have HR := Lib.hid hr
          clear hr
          go_wp2_with fail
          go_roundw
          case rel => exact ⟨u + 1, by omega, by go_num, by rw [← HE.out]; exact JoRel.put (m := 4 * t + u) HR.out (by omega)⟩
          case measure => simp [intOf]; omega
        · obtain rfl : u = 4 := by omega
          go_wp2_with fail
          go_roundw
          case rel => exact ⟨t + 1, by omega, by go_num, hr⟩
          case measure => simp [intOf]; omega
    · obtain rfl : t = 8 := by omega
      go_wp2_with (first
        | (refine wpList_load_row rfl 24 _ rfl _ rfl 24 _ _ _ hr.1 Tryz.underlying24 rfl (by rw [idC_sizeS _ _ (by omega)]; exact size32) ?_)
        | (refine wpList_store_at rfl 24 _ _ rfl (w.heap.size + 1) 0 24 _ _ rfl rfl hr.1 (by rw [Nat.zero_add]; exact Nat.le_refl _) (by rw [idC_sizeS _ _ (by omega)]; exact size32) (idC_oneS _ _) ?_; intro w2 hw2 hf2))
      rw [laidAt_all _ _ rfl] at hw2
      refine bodyPost_ret (v := .agg (idCS s 32)) (results_cell_row (p := 2) rfl _ _ _ _ _ _ _ rfl hw2 Tryz.underlying24 rfl (by rw [idC_sizeS _ _ (by omega)]; exact size32)) rfl ?_
      exact ⟨rfl, (hr.2.trans hf2 (fun i hi e => by omega)).below (fun _ _ e => e)⟩
end Go.Proofs.YtgbhdjncccmabaaGreatDoor
/- What is proved: what a Hash holds behind Write. Conditions: the table of constants holds what start-up lays; the Hash lies alone in its block; the piece's bytes lie elsewhere. -/
namespace Go.Proofs.YtgbhdjncccmabaaGreatDoor
open Go.RowKit
set_option linter.unusedVariables false
theorem Lies.below {w w' : World} {A : Option Addr} {xs : List Value} (h : Lies w A xs) (f : Below w.heap.size w w') : Lies w' A xs := by
  rcases h with h | ⟨b, o, rfl, hc⟩
  · exact .inl h
  · refine .inr ⟨b, o, rfl, fun j u hu => ?_⟩
    have h1 := hc j u hu
    exact (World.cell?_of_block (f.block b (World.block_lt_of_cell? w _ h1))).trans h1
theorem Lies.lt {w : World} {A : Option Addr} {xs : List Value} (h : Lies w A xs) (hx : xs ≠ []) : ∀ ad, A = some ad → ad.block < w.heap.size := by
  rcases h with h | ⟨b, o, rfl, hc⟩
  · exact absurd h hx
  · intro ad had
    cases had
    cases xs with
    | nil => exact absurd rfl hx
    | cons v xs => exact World.block_lt_of_cell? w _ (hc 0 v rfl)
/-- Where the rest of a slice's bytes lies. -/
theorem lies_drop {w : World} {A : Option Addr} {bs : List UInt8} (n c : Nat) (h : Lies w A (bytesV bs)) (hn : n ≤ bs.length) :
    ∃ A', (if c = n then A else A.map (·.add n)) = A' ∧ (bs.length ≤ c → Lies w A' (bytesV (bs.drop n))) ∧ (∀ ad, A' = some ad → ∃ ad0, A = some ad0 ∧ ad0.block = ad.block) := by
  refine ⟨_, rfl, fun hc => ?_, ?_⟩
  · by_cases e : c = n
    · have hd : bs.drop n = [] := List.drop_of_length_le (by omega)
      rw [hd]
      exact .inl rfl
    · rw [if_neg e]
      rcases h with h | ⟨b, o, rfl, hcl⟩
      · have : bs = [] := List.eq_nil_of_length_eq_zero (by rw [← bytesV_length, h]; rfl)
        subst this
        exact .inl (by simp [bytesV])
      · refine .inr ⟨b, o + n, by simp [add_off], fun j u hu => ?_⟩
        have hu2 : (bytesV bs)[n + j]? = some u := by
          unfold bytesV at hu ⊢
          rw [List.getElem?_map, List.getElem?_drop] at hu
          rw [List.getElem?_map]
          exact hu
        have := hcl (n + j) u hu2
        rw [Nat.add_assoc]
        exact this
  · intro ad had
    by_cases e : c = n
    · rw [if_pos e] at had
      exact ⟨ad, had, rfl⟩
    · rw [if_neg e] at had
      cases A with
      | none => simp at had
      | some a0 =>
        simp at had
        exact ⟨a0, rfl, by rw [← had]; unfold Addr.add; split <;> rfl⟩
/-- A copy into a stretch of a row, as a step of a region that draws its order. -/
theorem step_copy_at {P : Program} {ops : Array Oper} {o : Oper} {a : Act} {w : World} {K : Act → World → Prop} {Q : Exit → Act → World → Prop} {E : Prop} (hgd : o.guard = none) (d s : Operand) (dT sT : TypeId)
    (ho : o.op = .call { callee := .builtin .copy, args := #[d, s], argTypes := #[dT, sT] }) (elem : TypeId) (hu : P.underlying dT = some (.slice elem)) (hsz : (P.info? elem).map (·.size) = some 1)
    (g off dLen dCap : Nat) (sp : Option Addr) (sLen sCap : Nat) (hd : a.eval d = .slice (some ⟨g, off, none⟩) dLen dCap) (hs : a.eval s = .slice sp sLen sCap)
    (cur : Array Value) (t : TypeId) (hg : Whole w g t cur) (cs : List Value) (hn : cs.length = Nat.min sLen dLen) (hpos : 0 < cs.length) (hsrc : Lies w sp cs)
    (hfit : off + cs.length ≤ cur.size) (h1 : ∀ v ∈ cs, v.oneCell' = true)
    (h : ∀ w', Whole w' g t (splice cur.toList off cs).toArray → Fr (fun k => k = g) w w' → K (a.put o.dst (goInt cs.length)) w') :
    if Region.wanted o (yielded ops a.tmps) = true then Oper.wp P o a w K Q else E := by
  have hw : Region.wanted o (yielded ops a.tmps) = true := by simp [Region.wanted, hgd]
  rw [if_pos hw]
  rcases hsrc with h0 | ⟨b, f, rfl, hc⟩
  · subst h0
    simp at hpos
  · have hrun := run_copy_row (P := P) w dT sT o.type elem g off dLen dCap ⟨b, f, none⟩ sLen sCap cur t cs hu hsz hg hn (fun j v hv => by rw [add_off]; exact hc j v hv) hfit h1
    unfold Oper.wp
    simp [execOp, ho, resolve, invoke, builtin, hd, hs, hrun, Result.andThen]
    exact h _ (by simpa [splice] using hg.laid _) (by simpa [splice] using Fr.laid w g _)
theorem run_storeCells_whole {P : Program} {w : World} {g o : Nat} {t : TypeId} {cs : Array Value} (vs : Array Value) (hg : Whole w g t cs) (hfit : o + vs.size ≤ cs.size) (h1 : vs.all (·.oneCell') = true) :
    ∃ w', (storeCells ⟨g, o, none⟩ vs.toList).run P w = .ok () w' ∧ Whole w' g t (laidAt cs o vs) ∧ Fr (fun k => k = g) w w' := by
  have := run_storeCells_at P g o t vs.toList 0 cs w hg (by simpa using hfit) (fun v hv => (Array.all_eq_true_iff_forall_mem.1 h1) v (by simpa using hv))
  simp only [Nat.add_zero] at this
  exact ⟨_, this, hg.laid _, Fr.laid w g _⟩
theorem lies_take {w : World} {A : Option Addr} {bs : List UInt8} (h : Lies w A (bytesV bs)) (n : Nat) : Lies w A (bytesV (bs.take n)) := by
  rcases h with h | ⟨b, o, rfl, hc⟩
  · have : bs = [] := List.eq_nil_of_length_eq_zero (by rw [← bytesV_length, h]; rfl)
    subst this
    exact .inl (by simp [bytesV])
  · refine .inr ⟨b, o, rfl, fun j u hu => hc j u ?_⟩
    unfold bytesV at hu ⊢
    rw [List.getElem?_map, List.getElem?_take] at hu
    rw [List.getElem?_map]
    split at hu
    · exact hu
    · simp at hu
theorem size_u8 : (Tryz.prog.info? 5).map (·.size) = some 1 := by kernel_rfl
theorem slice_rest (g o : Nat) (ho : o < 64) (w : World) : (Instr.sliceAt 134 (.pointer (some ⟨g, 10, none⟩)) (some (.int .u64 o)) none none).run Tryz.prog w = .ok (.slice (some ⟨g, 10 + o, none⟩) (64 - o) (64 - o)) w := by
  have ht : Tryz.prog.underlying 134 = some (.array (Tryz.prog.arrayLen 134) (Tryz.prog.elem 134)) := by kernel_rfl
  have hl : Tryz.prog.arrayLen 134 = 64 := by kernel_rfl
  have hs : (sizeOf (Tryz.prog.elem 134)).run Tryz.prog w = .ok 1 w := by kernel_rfl
  have h := run_sliceAt_array_l (P := Tryz.prog) w 134 ⟨g, 10, none⟩ ht .u64 (o : Int) (by omega) (by rw [hl]; omega)
  rw [h, hs, hl]
  have hne : ¬ 64 = o := by omega
  simp [slicedAt, hne, add_off]
theorem slice_all (g : Nat) (w : World) : (Instr.sliceAt 134 (.pointer (some ⟨g, 10, none⟩)) none none none).run Tryz.prog w = .ok (.slice (some ⟨g, 10, none⟩) 64 64) w := by
  have ht : Tryz.prog.underlying 134 = some (.array (Tryz.prog.arrayLen 134) (Tryz.prog.elem 134)) := by kernel_rfl
  have hl : Tryz.prog.arrayLen 134 = 64 := by kernel_rfl
  have hs : (sizeOf (Tryz.prog.elem 134)).run Tryz.prog w = .ok 1 w := by kernel_rfl
  have h := run_sliceAt_array_all (P := Tryz.prog) w 134 ⟨g, 10, none⟩ ht
  rw [h, hs, hl]
  simp [slicedAt, add_off]
theorem hcells_range {w : World} {g : Nat} {t : TypeId} {n : Nat} {s : S8} {r : List UInt8} (h : Whole w g t (hcells n s r)) : w.rangeAt g 2 s.vals.toList := fun j v hv => by
  rw [h.cell, hcells, List.getElem?_toArray, List.getElem?_append_left (by have := (List.getElem?_eq_some_iff.1 hv).1; simp only [List.length_append, List.length_cons, List.length_nil]; omega), List.getElem?_append_right (by simp)]
  show s.vals.toList[2 + j - 2]? = _
  rw [Nat.add_sub_cancel_left]
  exact hv
theorem hcells_cells {w : World} {g : Nat} {t : TypeId} {n : Nat} {s : S8} {r : List UInt8} (h : Whole w g t (hcells n s r)) :
    w.cell? ⟨g, 2, none⟩ = some (.int .u32 s.a) ∧ w.cell? ⟨g, 3, none⟩ = some (.int .u32 s.b) ∧ w.cell? ⟨g, 4, none⟩ = some (.int .u32 s.c) ∧ w.cell? ⟨g, 5, none⟩ = some (.int .u32 s.d) ∧
    w.cell? ⟨g, 6, none⟩ = some (.int .u32 s.e) ∧ w.cell? ⟨g, 7, none⟩ = some (.int .u32 s.f) ∧ w.cell? ⟨g, 8, none⟩ = some (.int .u32 s.g) ∧ w.cell? ⟨g, 9, none⟩ = some (.int .u32 s.h) :=
  ⟨hcells_range h 0 _ rfl, hcells_range h 1 _ rfl, hcells_range h 2 _ rfl, hcells_range h 3 _ rfl, hcells_range h 4 _ rfl, hcells_range h 5 _ rfl, hcells_range h 6 _ rfl, hcells_range h 7 _ rfl⟩
theorem hcells_byte {w : World} {g : Nat} {t : TypeId} {n : Nat} {s : S8} {r : List UInt8} (h : Whole w g t (hcells n s r)) (i : Nat) (hi : i < r.length) : w.cell? ⟨g, 10 + i, none⟩ = some (.int .u8 (byteI r i)) := by
  rw [h.cell, hcells_rest, bytesV, List.getElem?_map, List.getElem?_eq_getElem hi]
  simp [byteV, byteI, List.getD_eq_getElem?_getD, List.getElem?_eq_getElem hi]
theorem hash_some {w : World} {g : Nat} {m r q r2 : List UInt8} {k n o : Nat} (hn : m.length = n) (ho : n % 64 = o) (hk : (q.take k).length = k) (hr2 : r.take o ++ (q.take k ++ r.drop (o + (q.take k).length)) = r2) (hlt : o + k < 64)
    (len : r.length = 64) (rest : r.take (m.length % 64) = m.drop (64 * (m.length / 64))) (hw : Whole w g 136 (hcells (n + k) (stOf m) r2)) : HashAt w g (m ++ q.take k) r2 := by
  have hm : m.length % 64 = o := by rw [hn, ho]
  obtain ⟨s1, s2, s3⟩ := step_some m r (q.take k) (by omega) len rest
  rw [hm, hr2] at s2 s3
  refine ⟨s3, s2, ?_⟩
  rw [s1, List.length_append, hk, hn]
  exact hw
theorem hash_full {w : World} {g : Nat} {m r q r2 : List UInt8} {k n o : Nat} (hn : m.length = n) (ho : n % 64 = o) (hk : (q.take k).length = k) (hr2 : r.take o ++ (q.take k ++ r.drop (o + (q.take k).length)) = r2) (hlt : o + k = 64)
    (len : r.length = 64) (rest : r.take (m.length % 64) = m.drop (64 * (m.length / 64))) (hw : Whole w g 136 (hcells (n + k) (blk (stOf m) r2) r2)) : HashAt w g (m ++ q.take k) r2 := by
  have hm : m.length % 64 = o := by rw [hn, ho]
  obtain ⟨s1, s2, s3⟩ := step_full m r (q.take k) (by omega) len rest
  rw [hm, hr2] at s1 s2 s3
  refine ⟨s3, s2, ?_⟩
  rw [s1, List.length_append, hk, hn]
  exact hw
set_option maxHeartbeats 1600000 in
theorem HWrite_any (g : Nat) (l r : List UInt8) (A : Option Addr) (cap : Nat) (p : List UInt8) (w : World) (h : HashAt w g l r) (ht : Tab w) (hg : g ≠ 1) (hp : Lies w A (bytesV p)) (hA : p ≠ [] → ∀ ad, A = some ad → ad.block ≠ g) (hcap : p.length ≤ cap)
    (hm : l.length + p.length ≤ 140737488355328) :
    Calls Tryz.prog 49 #[.pointer (some ⟨g, 0, none⟩), .slice A p.length cap] w fun e w' => e = .returned (.tuple #[]) ∧ ∃ r', HashAt w' g (l ++ p) r' ∧ Fr (fun k => k = g) w w' := by
  go_enter Tryz.func49, Tryz.ntmps49
  go_wp2_with (go_at_call 77; refine (Hgood_any g l r _ h).mono ?_; rintro e w2 ⟨rfl, rfl⟩)
  go_loopw [1] (fun s wr => ∃ (j : Nat) (A' : Option Addr) (cap' : Nat) (r' : List UInt8), j ≤ p.length ∧ s = .slice A' (p.drop j).length cap' ∧ (p.drop j).length ≤ cap' ∧ Lies wr A' (bytesV (p.drop j)) ∧ (p ≠ [] → ∀ ad, A' = some ad → ad.block ≠ g) ∧ HashAt wr g (l ++ p.take j) r' ∧ Fr (fun k => k = g) w wr) (fun s _ => match s with | .slice _ n _ => n | _ => 0)
  case atStart => exact ⟨0, A, cap, r, by omega, rfl, hcap, hp, hA, by simpa using h, Fr.refl _ _⟩
  case round =>
    obtain ⟨j, A', cap', r', hj, rfl, hcap', hl, hA', hh, hf⟩ := hrel
    have hT := ht.fr hf (fun e => hg e.symm)
    obtain ⟨q, hq⟩ : ∃ q, p.drop j = q := ⟨_, rfl⟩
    obtain ⟨m, hml⟩ : ∃ m, l ++ p.take j = m := ⟨_, rfl⟩
    rw [hq] at hcap' hl ⊢
    rw [hml] at hh
    by_cases h0 : q.length = 0
    · have hj2 : j = p.length := by
        have : q.length = p.length - j := by rw [← hq, List.length_drop]
        omega
      rw [h0]
      go_wp2_with fail
      refine bodyPost_end (results_none rfl _ _ _) rfl ?_
      exact ⟨rfl, r', by rw [← hml, hj2, List.take_length] at hh; exact hh, hf⟩
    · have hlen : m.length ≤ 140737488355328 := by rw [← hml, List.length_append, List.length_take]; omega
      have hqb : m.length + q.length ≤ 140737488355328 := by rw [← hml, ← hq, List.length_append, List.length_take, List.length_drop]; omega
      have hql : 0 < q.length := by omega
      have hA' := hA' (by rintro rfl; rw [← hq] at hql; simp at hql)
      obtain ⟨n, hn⟩ : ∃ n, m.length = n := ⟨_, rfl⟩
      obtain ⟨z, hz⟩ : ∃ z, q.length = z := ⟨_, rfl⟩
      rw [hz] at hqb hql hcap' ⊢
      rw [hn] at hqb
      obtain ⟨k, hk⟩ : ∃ k, min (64 - n % 64) z = k := ⟨_, rfl⟩
      have hkz : k ≤ z := by omega
      have hk0 : 0 < k := by omega
      have hko : n % 64 + k ≤ 64 := by omega
      have cn := hh.whole.cell 1
      rw [hcells_n, hn] at cn
      have HH := Lib.hid hh
      have HL := Lib.hid hl
      clear hh hl
      have i0 : (0 : Int) < z := by omega
      have hqd : p.drop (j + k) = q.drop k := by rw [← hq, List.drop_drop]
      have hqdl : (q.drop k).length = z - k := by rw [List.length_drop, hz]
      have hpt : l ++ p.take (j + k) = m ++ q.take k := by rw [← hml, ← hq, List.take_add, List.append_assoc]
      have hjk : j + k ≤ p.length := by
        have : q.length = p.length - j := by rw [← hq, List.length_drop]
        omega
      obtain ⟨o, ho⟩ : ∃ o, n % 64 = o := ⟨_, rfl⟩
      have ho64 : o < 64 := by omega
      have i1 : (n : Int).tmod 64 = (o : Int) := by rw [← ho, Int.tmod_eq_emod_of_nonneg (by omega)]; omega
      have i2 := fun w => slice_rest g o ho64 w
      rw [ho] at hk hko
      have hqt : (bytesV (q.take k)).length = k := by rw [bytesV_length, List.length_take]; omega
      have hLt := lies_take HL.out k
      have hnk : (bytesV (q.take k)).length = Nat.min z (64 - o) := by rw [hqt, ← hk]; exact Nat.min_comm _ _
      go_wp2_with fail
      go_region_law (refine step_copy_at (by rfl) (.tmp 19) (.tmp 20) 28 28 (by rfl) 5 Tryz.underlying28 size_u8 g (10 + o) (64 - o) (64 - o) A' z cap' (by rfl) (by rfl) _ 136 HH.out.whole (bytesV (q.take k)) hnk (by omega) hLt (by rw [hcells_size, HH.out.len]; omega) (bytesV_one _) ?_; intro w2 hw2 hf2)
      rw [hcells_laidRest] at hw2
      obtain ⟨r2, hr2⟩ : ∃ r2, r'.take o ++ (q.take k ++ r'.drop (o + (q.take k).length)) = r2 := ⟨_, rfl⟩
      rw [hr2] at hw2
      have c1 := hw2.cell 1
      have f1 := hw2.frozen 1
      rw [hcells_n] at c1
      obtain ⟨A2, hA2, hl2, hb2⟩ := lies_drop k cap' HL.out (by omega)
      have hW3 := hw2.set 1 (.int .u64 ((n + k : Nat) : Int))
      rw [hcells_setN] at hW3
      have hF3 : Fr (fun k => k = g) wr (w2.setCell ⟨g, 1, none⟩ (.int .u64 ((n + k : Nat) : Int))) := (((Fr.refl _ wr).drew.trans hf2 (fun i hi e => e)).setCell (p := ⟨g, 1, none⟩) (fun _ => rfl) _)
      have j1 : (k : Int) ≤ z := by omega
      have j2 : (k : Int) ≤ cap' := by omega
      have hnk2 : ((n + k : Nat) : Int) = (n : Int) + k := by omega
      rw [hnk2] at hW3 hF3
      obtain ⟨W3, hW3e⟩ : ∃ W3, w2.setCell ⟨g, 1, none⟩ (.int .u64 ((n : Int) + k)) = W3 := ⟨_, rfl⟩
      rw [hW3e] at hW3 hF3
      have c3 := hW3.cell 1
      rw [hcells_n, hnk2] at c3
      have hrl : r2.length = 64 := by
        rw [← hr2]
        simp only [List.length_append, List.length_take, List.length_drop, HH.out.len]
        have : q.length = z := hz
        omega
      have HW3 := Lib.hid hW3
      have HF3 := Lib.hid hF3
      have HT3 := Lib.hid (hT.fr hF3 (fun e => hg e.symm))
      clear hW3 hF3 i1 i2 cn hT
      have HR2 := Lib.hid hr2
      have HL2 := Lib.hid hl2
      clear hr2 hl2
      by_cases hfull : o + k = 64
      · have t0 : ((n : Int) + k) % 64 = 0 := by omega
        have i3 := fun w => slice_all g w
        obtain ⟨sa, sb, sc, sd, se, sf, sg, sh⟩ := hcells_cells HW3.out
        have HWd := Lib.hid (Whole.fr HW3.out ((Fr.refl (fun _ => False) W3).drew) (fun e => e))
        have HTd := Lib.hid (Tab.fr HT3.out ((Fr.refl (fun _ => False) W3).drew) (fun e => e))
        go_wp2_with fail
        go_region_law (first
          | (go_simp; go_at_call 78; refine (SBlock_ok (stOf m) g 10 64 r2 _ hrl (fun i hi => hcells_byte HWd.out i (by rw [hrl]; exact hi)) HTd.out).mono ?_; rintro e w4 ⟨rfl, b4⟩; have hW4 := HWd.out.fr (Fr.of_below (S := fun _ => False) b4) (fun e => e); obtain ⟨w5, hst, hw5, hf5⟩ := run_storeCells_whole (P := Tryz.prog) (o := 2) (blk (stOf m) r2).vals hW4 (by rw [hcells_size, hrl, S8.size]; decide) (S8.one _); have hs8 := S8.size (blk (stOf m) r2)))
        rw [hcells_laidState] at hw5
        have hlw5 := Lies.fr (S := fun k => k = g) (HL2.out (by omega)) (((HF3.out.drew).trans (Fr.of_below (S := fun _ => False) b4) (fun _ _ e => e.elim)).trans hf5 (fun i hi e => e)) (fun ad had => by obtain ⟨ad0, h1, h2⟩ := hb2 ad had; rw [← h2]; exact hA' ad0 h1)
        have hh5 := hash_full hn ho (by rw [← bytesV_length]; exact hqt) HR2.out hfull HH.out.len HH.out.rest hw5
        have hf6 := ((HF3.out.drew).trans (Fr.of_below (S := fun _ => False) b4) (fun _ _ e => e.elim)).trans hf5 (fun i hi e => e)
        have HH5 := Lib.hid hh5
        have HL5 := Lib.hid hlw5
        clear hh5 hlw5 hst hs8 sa sb sc sd se sf sg sh
        go_wp2_with fail
        go_roundw
        case rel => exact ⟨j + k, A2, cap' - k, r2, by omega, by rw [hqd, hqdl], by rw [hqd, hqdl]; omega, by rw [hqd]; exact HL5.out, fun _ ad had => (by obtain ⟨ad0, h1, h2⟩ := hb2 ad had; rw [← h2]; exact hA' ad0 h1), by rw [hpt]; exact HH5.out, hf.trans hf6 (fun i hi e => e)⟩
        case measure => simp; omega
      · have t0 : ((n : Int) + k) % 64 ≠ 0 := by omega
        go_wp2_with fail
        go_roundw
        case rel => exact ⟨j + k, A2, cap' - k, r2, by omega, by rw [hqd, hqdl], by rw [hqd, hqdl]; omega, by rw [hqd]; exact Lies.fr (S := fun k => k = g) (HL2.out (by omega)) HF3.out (fun ad had => by obtain ⟨ad0, h1, h2⟩ := hb2 ad had; rw [← h2]; exact hA' ad0 h1), fun _ ad had => (by obtain ⟨ad0, h1, h2⟩ := hb2 ad had; rw [← h2]; exact hA' ad0 h1), by rw [hpt]; exact hash_some hn ho (by rw [← bytesV_length]; exact hqt) HR2.out (by omega) HH.out.len HH.out.rest HW3.out, hf.trans HF3.out (fun i hi e => e)⟩
        case measure => simp; omega
end Go.Proofs.YtgbhdjncccmabaaGreatDoor
/- What is proved: what Sum and Of answer. Conditions: the table of constants holds what start-up lays; the Hash lies alone in its block; the parts' bytes lie where they are said to lie. -/
namespace Go.Proofs.YtgbhdjncccmabaaGreatDoor
open Go.RowKit
set_option linter.unusedVariables false
/-- The sum of bytes, as a value's cells. -/
def sumV (l : List UInt8) : Array Value := idCS (stOf (l ++ padB l.length)) 32
theorem sumV_size (l : List UInt8) : (sumV l).size = 32 := idC_sizeS _ _ (by omega)
theorem sumV_one (l : List UInt8) : (sumV l).all (·.oneCell') = true := idC_oneS _ _
def zero32 : Array Value := (List.replicate 32 (Value.int .u8 0)).toArray
def zero74 : Array Value := hcells 0 S8.zero (List.replicate 64 0) |>.setIfInBounds 0 (.bool false)
theorem zeroH : (Tryz.prog.info? 136).map (fun i => (i.zero, i.size)) = some (some (.agg zero74), 74) := by kernel_rfl
theorem hcells_one (n : Nat) (s : S8) (r : List UInt8) : (hcells n s r).all (·.oneCell') = true := by
  refine Array.all_eq_true_iff_forall_mem.2 (fun v hv => ?_)
  simp only [hcells, S8.vals, List.mem_toArray, List.mem_append, List.mem_cons, List.not_mem_nil, or_false] at hv
  rcases hv with ((rfl | rfl) | hv) | hv
  · rfl
  · rfl
  · rcases hv with rfl | rfl | rfl | rfl | rfl | rfl | rfl | rfl <;> rfl
  · exact bytesV_one r v hv
set_option maxHeartbeats 1600000 in
theorem HSum_any (g : Nat) (l r : List UInt8) (w : World) (h : HashAt w g l r) (ht : Tab w) (hg : g ≠ 1) (hm : l.length ≤ 70368744177664) :
    Calls Tryz.prog 50 #[.pointer (some ⟨g, 0, none⟩)] w fun e w' => e = .returned (.agg (sumV l)) ∧ Below w.heap.size w w' := by
  obtain ⟨w1, hw1⟩ : ∃ w1, w.alloc (.cells zero32 24) = w1 := ⟨_, rfl⟩
  have hF : Fr (fun _ => False) w w1 := by subst hw1; exact (Fr.refl _ w).alloc _
  have hZ : Whole w1 w.heap.size 24 zero32 := by subst hw1; exact Whole.new w 24 zero32
  have hs1 : w1.heap.size = w.heap.size + 1 := by subst hw1; simp
  have hh1 := h.fr hF (fun e => e)
  have ht1 := ht.fr hF (fun e => e)
  have hglt := h.whole.lt
  unfold zero32 at hw1
  simp [List.replicate] at hw1
  have hz := (zero_of_info zeroH).1
  have c1 := hh1.whole.cell 1
  rw [hcells_n] at c1
  have HF := Lib.hid hF
  have HZ := Lib.hid hZ
  have HH1 := Lib.hid hh1
  have HT1 := Lib.hid ht1
  have HS1 := Lib.hid hs1
  clear hF hZ hh1 ht1 hs1 h ht
  go_enter Tryz.func50, Tryz.ntmps50
  go_wp2_with (first
    | (go_at_call 77; refine (Hgood_any g l r _ HH1.out).mono ?_; rintro e w2 ⟨rfl, rfl⟩)
    | (refine wpList_load_row rfl 136 _ rfl _ rfl 136 _ _ _ HH1.out.whole Tryz.underlying136 rfl (by rw [hcells_size, HH1.out.len]; exact sizeH) ?_)
    | (refine wpList_store_at rfl 136 _ _ rfl w1.heap.size 0 136 _ _ rfl rfl (Whole.new w1 136 zero74) (by rw [hcells_size, HH1.out.len]; decide) (by rw [hcells_size, HH1.out.len]; exact sizeH) (hcells_one _ _ _) ?_
       intro w2 hw2 hf2
       rw [laidAt_all _ _ (by rw [hcells_size, HH1.out.len]; rfl)] at hw2
       have hf3 : Fr (fun _ => False) w1 w2 := ((Fr.refl (fun _ => False) w1).alloc _).trans hf2 (fun i hi e => by omega)
       have c2 := hf3.cell c1 (fun e => e)
       have hh2 : HashAt w2 w1.heap.size l r := ⟨HH1.out.len, HH1.out.rest, hw2⟩)
    | (go_at_call 79; refine (SPad_any l.length (by omega) _).mono ?_; rintro e w3 ⟨gp, rfl, hgp, hwp, b3⟩)
    | (go_at_call 49
       have hp3 : Lies w3 (some ⟨gp, 0, none⟩) (bytesV (padB l.length)) := .inr ⟨gp, 0, rfl, fun j u hu => by rw [Nat.zero_add, hwp.cell]; simpa using hu⟩
       have hlt2 := hh2.whole.lt
       refine (HWrite_any w1.heap.size l r _ _ (padB l.length) w3 (hh2.fr (Fr.of_below (S := fun _ => False) b3) (fun e => e)) ((HT1.out.fr hf3 (fun e => e)).fr (Fr.of_below (S := fun _ => False) b3) (fun e => e)) (by have := HT1.out.lt; omega) hp3 (fun _ ad had => by cases had; show gp ≠ _; omega) (Nat.le_refl _) (by rw [padB_length]; have := noughts_lt l.length; omega)).mono ?_
       rintro e w4 ⟨rfl, r4, hh4, hf4⟩
       have hld := hcells_range hh4.whole)
    | (refine wpList_load_mid rfl 111 _ rfl w1.heap.size 2 rfl _ _ hld Tryz.underlying111 rfl size8 ?_)
    | (go_at_call 80; refine (Sjoined_any (stOf (l ++ padB l.length)) (stN_ok _ _) _).mono ?_; rintro e w5 ⟨rfl, b5⟩
       have F5 : Fr (fun _ => False) w1 w5 := ((hf3.then_below b3).trans hf4 (fun i hi e => by omega)).then_below b5
       have hz5 := HZ.out.fr F5 (fun e => e))
    | (refine wpList_store_at rfl 24 _ _ rfl w.heap.size 0 24 _ (sumV l) rfl rfl hz5 (by rw [sumV_size]; decide) (by rw [sumV_size]; exact size32) (sumV_one _) ?_
       intro w6 hw6 hf6))
  have e6 := laidAt_all zero32 (sumV l) (by rw [sumV_size]; rfl)
  rw [e6] at hw6
  refine bodyPost_ret (v := .agg (sumV l)) (results_cell_row (p := 2) rfl _ _ _ _ _ _ _ rfl hw6 Tryz.underlying24 rfl (by rw [sumV_size]; exact size32)) rfl ?_
  exact ⟨rfl, ((HF.out.trans F5 (fun i hi e => e)).trans hf6 (fun i hi e => by omega)).below (fun _ _ e => e)⟩
set_option maxHeartbeats 1600000 in
theorem SOf_any (A : Option Addr) (cap : Nat) (ps : List (List UInt8)) (w : World) (hp : Parts w A ps) (hps : ps.length ≤ 9223372036854775807) (ht : Tab w) (hm : ps.flatten.length ≤ 70368744177664) :
    Calls Tryz.prog 24 #[.slice A ps.length cap] w fun e w' => e = .returned (.agg (sumV ps.flatten)) ∧ Below w.heap.size w w' := by
  obtain ⟨w1, hw1⟩ : ∃ w1, w.alloc (.cells zero32 24) = w1 := ⟨_, rfl⟩
  have hF : Fr (fun _ => False) w w1 := by subst hw1; exact (Fr.refl _ w).alloc _
  have hZ : Whole w1 w.heap.size 24 zero32 := by subst hw1; exact Whole.new w 24 zero32
  have hs1 : w1.heap.size = w.heap.size + 1 := by subst hw1; simp
  unfold zero32 at hw1
  simp [List.replicate] at hw1
  have htlt := ht.lt
  have HF := Lib.hid hF
  have HZ := Lib.hid hZ
  have HS1 := Lib.hid hs1
  have HP := Lib.hid (hp.fr hF)
  have HT := Lib.hid (ht.fr hF (fun e => e))
  have HM := Lib.hid hm
  clear hF hZ hs1 hp ht hm
  go_enter Tryz.func24, Tryz.ntmps24
  go_wp2_with (go_at_call 48; refine (SNew_any _).mono ?_; rintro e w2 ⟨g, r, rfl, hg, hh, b2⟩)
  have HH := Lib.hid hh
  have hg0 : g ≠ 1 := by have := HS1.out; omega
  clear hw1 hh
  go_loopw [9] (fun i wr => ∃ (k : Nat) (r' : List UInt8), k ≤ ps.length ∧ i = .int .i64 k ∧ HashAt wr g (ps.take k).flatten r' ∧ Fr (fun _ => False) w1 wr) (fun i _ => ps.length - (intOf i).toNat)
  case atStart => exact ⟨0, r, by omega, rfl, HH.out, Fr.of_below b2⟩
  case round =>
    obtain ⟨k, r', hk, rfl, hh, hf⟩ := hrel
    by_cases hlt : k < ps.length
    · obtain ⟨p, hpk⟩ : ∃ p, ps[k]? = some p := ⟨_, List.getElem?_eq_getElem hlt⟩
      rcases HP.out with h0 | ⟨b, o, hA, hc⟩
      · rw [h0] at hlt
        simp at hlt
      · obtain ⟨Ai, ci, c1, c2, c3⟩ := hc k p hpk
        have c1' := hf.cell c1 (fun e => e)
        subst hA
        have hft := flatten_take_succ ps k p hpk
        have hfl := flatten_take_le ps (k + 1)
        have hpl : (ps.take k).flatten.length + p.length ≤ 140737488355328 := by
          rw [hft, List.length_append] at hfl
          have := HM.out
          omega
        have HHr := Lib.hid hh
        have HC3 := Lib.hid c3
        have HFT := Lib.hid hft
        clear hh c3 c1 hft hfl
        go_wp2_with (go_at_call 49; refine (HWrite_any g _ r' Ai ci p _ HHr.out (HT.out.fr hf (fun e => e)) hg0 (HC3.out.fr hf (fun _ _ e => e)) (fun hne ad had => by have := HC3.out.lt (by intro e; exact hne (List.eq_nil_of_length_eq_zero (by rw [← bytesV_length, e]; rfl))) ad had; omega) c2 hpl).mono ?_; rintro e w3 ⟨rfl, r3, hh3, hf3⟩)
        go_roundw
        case rel => exact ⟨k + 1, r3, by omega, by go_num, by rw [HFT.out]; exact hh3, hf.trans hf3 (fun i hi e => by omega)⟩
        case measure => simp [intOf]; omega
    · obtain rfl : k = ps.length := by omega
      rw [List.take_length] at hh
      have HHr := Lib.hid hh
      clear hh
      go_wp2_with (first
        | (go_at_call 50; refine (HSum_any g _ r' _ HHr.out (HT.out.fr hf (fun e => e)) hg0 HM.out).mono ?_; rintro e w4 ⟨rfl, b4⟩; have hz4 := HZ.out.fr (hf.then_below b4) (fun e => e))
        | (refine wpList_store_at rfl 24 _ _ rfl w.heap.size 0 24 _ (sumV ps.flatten) rfl rfl hz4 (by rw [sumV_size]; decide) (by rw [sumV_size]; exact size32) (sumV_one _) ?_
           intro w6 hw6 hf6))
      have e6 := laidAt_all zero32 (sumV ps.flatten) (by rw [sumV_size]; rfl)
      rw [e6] at hw6
      refine bodyPost_ret (v := .agg (sumV ps.flatten)) (results_cell_row (p := 2) rfl _ _ _ _ _ _ _ rfl hw6 Tryz.underlying24 rfl (by rw [sumV_size]; exact size32)) rfl ?_
      exact ⟨rfl, ((HF.out.trans (hf.then_below b4) (fun i hi e => e)).trans hf6 (fun i hi e => by omega)).below (fun _ _ e => e)⟩
end Go.Proofs.YtgbhdjncccmabaaGreatDoor

/- What is proved: a state's numbers as bytes (joined). Conditions: numbers of 32 bits. -/
import Derived.Test.YtbbjappmaigobaaDoorShh
namespace Go.Proofs.YtbbjappmaigobaaDoor
open Go.RowKit
set_option linter.unusedVariables false

def S8.nums (s : S8) : List Int := [s.a, s.b, s.c, s.d, s.e, s.f, s.g, s.h]
/-- All are numbers of 32 bits. -/
def S8.ok (s : S8) : Prop := ∀ x ∈ s.nums, 0 ≤ x ∧ x < 4294967296
theorem S8.start_ok : S8.start.ok := by
  intro x hx
  simp [S8.nums, S8.start] at hx
  omega
theorem blk_ok (s : S8) (b : List UInt8) : (blk s b).ok := by
  intro x hx
  simp [S8.nums, blk, S8.add] at hx
  omega
theorem stN_ok (l : List UInt8) (k : Nat) : (stN l k).ok := by
  cases k with
  | zero => exact S8.start_ok
  | succ k => exact blk_ok _ _
theorem S8.ok_get {s : S8} (h : s.ok) (i : Nat) : 0 ≤ s.nums.getD i 0 ∧ s.nums.getD i 0 < 4294967296 := by
  by_cases hi : i < s.nums.length
  · rw [List.getD_eq_getElem?_getD, List.getElem?_eq_getElem hi]
    exact h _ (List.getElem_mem hi)
  · rw [List.getD_eq_getElem?_getD, List.getElem?_eq_none (by omega)]
    decide

/-- Byte k of a state. -/
def idN (s : S8) (k : Nat) : Int := s.nums.getD (k / 4) 0 / 2 ^ (24 - 8 * (k % 4)) % 256
/-- The first m bytes, and noughts. -/
def idC (s : S8) (m : Nat) : Array Value := ((List.range m).map (fun k => Value.int .u8 (idN s k)) ++ List.replicate (32 - m) (Value.int .u8 0)).toArray
theorem idC_size (s : S8) (m : Nat) (h : m ≤ 32) : (idC s m).size = 32 := by simp [idC]; omega
theorem idC_one (s : S8) (m : Nat) : (idC s m).all (·.oneCell') = true := by
  refine Array.all_eq_true_iff_forall_mem.2 (fun v hv => ?_)
  simp only [idC, List.mem_toArray, List.mem_append, List.mem_map, List.mem_replicate] at hv
  rcases hv with ⟨x, _, rfl⟩ | ⟨_, rfl⟩ <;> rfl
theorem idC_get (s : S8) (m : Nat) (h : m < 32) : (idC s m)[m]? = some (.int .u8 0) := by
  simp only [idC, List.getElem?_toArray]
  rw [List.getElem?_append_right (by simp), List.getElem?_replicate, if_pos (by simp; omega)]
theorem idC_set (s : S8) (m : Nat) (h : m < 32) : (idC s m).setIfInBounds m (.int .u8 (idN s m)) = idC s (m + 1) := by
  apply Array.toList_inj.1
  simp only [idC, Array.toList_setIfInBounds]
  obtain ⟨k, hk⟩ : ∃ k, 32 - m = k + 1 := ⟨32 - m - 1, by omega⟩
  have h2 : 32 - (m + 1) = k := by omega
  rw [hk, h2, List.set_append, if_neg (by simp), List.length_map, List.length_range, Nat.sub_self, List.replicate_succ, List.set_cons_zero, List.range_succ, List.map_append, List.append_assoc]
  rfl

theorem size32 : (Tryd.prog.info? 38).map (·.size) = some 32 := by kernel_rfl
theorem index8 (s : S8) (i : Nat) (h : i < 8) (w : World) : (Instr.index 23 (.agg s.vals) (.int .i64 i)).run Tryd.prog w = .ok (.int .u32 (s.nums.getD i 0)) w := by
  have h8 : i = 0 ∨ i = 1 ∨ i = 2 ∨ i = 3 ∨ i = 4 ∨ i = 5 ∨ i = 6 ∨ i = 7 := by omega
  have i0 : ∀ w : World, (Instr.index 23 (.agg s.vals) (.int .i64 0)).run Tryd.prog w = .ok (.int .u32 s.a) w := fun _ => by kernel_rfl
  have i1 : ∀ w : World, (Instr.index 23 (.agg s.vals) (.int .i64 1)).run Tryd.prog w = .ok (.int .u32 s.b) w := fun _ => by kernel_rfl
  have i2 : ∀ w : World, (Instr.index 23 (.agg s.vals) (.int .i64 2)).run Tryd.prog w = .ok (.int .u32 s.c) w := fun _ => by kernel_rfl
  have i3 : ∀ w : World, (Instr.index 23 (.agg s.vals) (.int .i64 3)).run Tryd.prog w = .ok (.int .u32 s.d) w := fun _ => by kernel_rfl
  have i4 : ∀ w : World, (Instr.index 23 (.agg s.vals) (.int .i64 4)).run Tryd.prog w = .ok (.int .u32 s.e) w := fun _ => by kernel_rfl
  have i5 : ∀ w : World, (Instr.index 23 (.agg s.vals) (.int .i64 5)).run Tryd.prog w = .ok (.int .u32 s.f) w := fun _ => by kernel_rfl
  have i6 : ∀ w : World, (Instr.index 23 (.agg s.vals) (.int .i64 6)).run Tryd.prog w = .ok (.int .u32 s.g) w := fun _ => by kernel_rfl
  have i7 : ∀ w : World, (Instr.index 23 (.agg s.vals) (.int .i64 7)).run Tryd.prog w = .ok (.int .u32 s.h) w := fun _ => by kernel_rfl
  rcases h8 with rfl | rfl | rfl | rfl | rfl | rfl | rfl | rfl
  · exact i0 w
  · exact i1 w
  · exact i2 w
  · exact i3 w
  · exact i4 w
  · exact i5 w
  · exact i6 w
  · exact i7 w

def JoRel (w : World) (s : S8) (m : Nat) (wr : World) : Prop := Whole wr (w.heap.size + 1) 38 (idC s m) ∧ Fr (fun _ => False) w wr
theorem JoRel.put {w wr : World} {s : S8} {m : Nat} (h : JoRel w s m wr) (hm : m < 32) : JoRel w s (m + 1) (wr.setCell ⟨w.heap.size + 1, m, none⟩ (.int .u8 (idN s m))) := by
  refine ⟨?_, h.2.setCell (fun e => absurd e (by show ¬ w.heap.size + 1 < w.heap.size; omega)) _⟩
  have := h.1.set m (.int .u8 (idN s m))
  rwa [idC_set s m hm] at this

set_option maxHeartbeats 800000 in
theorem Sjoined_any (s : S8) (hs : s.ok) (w : World) : Calls Tryd.prog 26 #[.agg s.vals] w fun e w' => e = .returned (.agg (idC s 32)) ∧ Below w.heap.size w w' := by
  obtain ⟨w1, hw1⟩ : ∃ w1, ((w.alloc (.cells s.vals 23)).alloc (.cells (idC s 0) 38)) = w1 := ⟨_, rfl⟩
  have hF : Fr (fun _ => False) w w1 := by subst hw1; exact ((Fr.refl _ w).alloc _).alloc _
  have hJ : JoRel w s 0 w1 := by
    refine ⟨?_, hF⟩
    subst hw1
    have h := Whole.new (w.alloc (.cells s.vals 23)) 38 (idC s 0)
    have e : (w.alloc (.cells s.vals 23)).heap.size = w.heap.size + 1 := by simp
    rwa [e] at h
  have hS : Whole w1 w.heap.size 23 s.vals := by
    subst hw1
    exact (Whole.new w 23 s.vals).fr ((Fr.refl (fun _ => False) _).alloc _) (fun e => e)
  unfold idC at hw1
  simp [List.replicate] at hw1
  have HS := Lib.hid hS
  have HJ := Lib.hid hJ
  clear hS hJ hF
  go_enter Tryd.func26, Tryd.ntmps26
  go_wp2_with (first
    | (refine wpList_load_row rfl 23 _ rfl _ rfl 23 _ _ _ HS.out Tryd.underlying23 rfl size8 ?_))
  clear hw1
  go_loopw [7] (fun i wr => ∃ t : Nat, t ≤ 8 ∧ i = .int .i64 t ∧ JoRel w s (4 * t) wr) (fun i _ => 8 - (intOf i).toNat)
  case atStart => exact ⟨0, by omega, rfl, HJ.out⟩
  case round =>
    obtain ⟨t, ht, rfl, hr⟩ := hrel
    by_cases hlt : t < 8
    · have hi := index8 s t hlt
      obtain ⟨x, hx⟩ : ∃ x, s.nums.getD t 0 = x := ⟨_, rfl⟩
      have hxb := S8.ok_get hs t
      rw [hx] at hi hxb
      obtain ⟨hx0, hx1⟩ := hxb
      have HX := Lib.hid hx
      clear hx
      go_wp2_with fail
      go_loopw [11] (fun j wr => ∃ u : Nat, u ≤ 4 ∧ j = .int .i64 u ∧ JoRel w s (4 * t + u) wr) (fun j _ => 4 - (intOf j).toNat)
      case atStart => exact ⟨0, by omega, rfl, hr⟩
      case round =>
        clear hr hi
        obtain ⟨u, hu, rfl, hr⟩ := hrel
        by_cases hlu : u < 4
        · have c1 : wr.cell? ⟨w.heap.size + 1, 4 * t + u, none⟩ = some (.int .u8 0) := by rw [hr.1.cell, idC_get _ _ (by omega)]
          have f1 := hr.1.frozen (4 * t + u)
          have HE := Lib.hid (show idN s (4 * t + u) = x / 2 ^ (24 - 8 * u) % 256 by
            unfold idN
            have e1 : (4 * t + u) / 4 = t := by omega
            have e2 : (4 * t + u) % 4 = u := by omega
            rw [e1, e2, HX.out])
          have HR := Lib.hid hr
          clear hr
          go_wp2_with fail
          go_roundw
          case rel => exact ⟨u + 1, by omega, by go_num, by rw [← HE.out]; exact JoRel.put (m := 4 * t + u) HR.out (by omega)⟩
          case measure => simp [intOf]; omega
        · obtain rfl : u = 4 := by omega
          go_wp2_with fail
          go_roundw
          case rel => exact ⟨t + 1, by omega, by go_num, hr⟩
          case measure => simp [intOf]; omega
    · obtain rfl : t = 8 := by omega
      go_wp2_with (first
        | (refine wpList_load_row rfl 38 _ rfl _ rfl 38 _ _ _ hr.1 Tryd.underlying38 rfl (by rw [idC_size _ _ (by omega)]; exact size32) ?_)
        | (refine wpList_store_at rfl 38 _ _ rfl (w.heap.size + 1) 0 38 _ _ rfl rfl hr.1 (by rw [Nat.zero_add]; exact Nat.le_refl _) (by rw [idC_size _ _ (by omega)]; exact size32) (idC_one _ _) ?_; intro w2 hw2 hf2))
      rw [laidAt_all _ _ rfl] at hw2
      refine bodyPost_ret (v := .agg (idC s 32)) (results_cell_row (p := 2) rfl _ _ _ _ _ _ _ rfl hw2 Tryd.underlying38 rfl (by rw [idC_size _ _ (by omega)]; exact size32)) rfl ?_
      exact ⟨rfl, (hr.2.trans hf2 (fun i hi e => by omega)).below (fun _ _ e => e)⟩
end Go.Proofs.YtbbjappmaigobaaDoor

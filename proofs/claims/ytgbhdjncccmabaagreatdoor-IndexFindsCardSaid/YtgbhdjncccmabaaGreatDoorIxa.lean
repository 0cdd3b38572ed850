/- What is proved: places as cells, ids as bytes and back, plainly; a place of a list is read. Conditions: each theorem names its own. -/
import Derived.Test.YtgbhdjncccmabaaGreatDoorId
import Derived.Test.YtgbhdjncccmabaaGreatDoorDd
import Derived.Test.YtgbhdjncccmabaaGreatDoorBra
namespace Go.Proofs.YtgbhdjncccmabaaGreatDoor
open Go.RowKit
set_option linter.unusedVariables false

/-- A place: its id as a number, where it stands, its sum. -/
structure Pl where
  id : Nat
  pos : Int
  sm : Int
  deriving DecidableEq
instance : Inhabited Pl := ⟨⟨0, 0, 0⟩⟩
structure Pl.Ok (p : Pl) : Prop where
  id : p.id < big
  lo : -9223372036854775808 ≤ p.pos
  hi : p.pos ≤ 9223372036854775807
  s0 : 0 ≤ p.sm
  s1 : p.sm < 4294967296
def Pl.cells (p : Pl) : Array Value := idC (dgt p.id) ++ #[.int .i64 p.pos, .int .u32 p.sm]
theorem plC_size (p : Pl) : p.cells.size = 34 := by simp [Pl.cells, idC_size]
theorem plC_one (p : Pl) : p.cells.all (·.oneCell') = true := by
  rw [Pl.cells, Array.all_append, idC_one]; simp [Value.oneCell']
theorem plC_id (p : Pl) (j : Nat) (h : j < 32) : p.cells[j]? = some (cellD (dgt p.id) j) := by
  rw [Pl.cells, Array.getElem?_append_left (by rw [idC_size]; exact h), idC_get _ j h]
theorem plC_pos (p : Pl) : p.cells[32]? = some (.int .i64 p.pos) := by
  rw [Pl.cells, Array.getElem?_append_right (by rw [idC_size]; exact Nat.le_refl _), idC_size]; rfl
theorem plC_sm (p : Pl) : p.cells[33]? = some (.int .u32 p.sm) := by
  rw [Pl.cells, Array.getElem?_append_right (by rw [idC_size]; omega), idC_size]; rfl
theorem plC_ids (p : Pl) : p.cells.toList.take 32 = (idC (dgt p.id)).toList := by
  rw [Pl.cells, Array.toList_append, List.take_append_of_le_length (by rw [Array.length_toList, idC_size]; exact Nat.le_refl _), List.take_of_length_le (by rw [Array.length_toList, idC_size]; exact Nat.le_refl _)]
def flatP (ps : List Pl) : List Value := ps.flatMap fun p => p.cells.toList
theorem flatP_cons (p : Pl) (ps : List Pl) : flatP (p :: ps) = p.cells.toList ++ flatP ps := rfl
theorem flatP_append (a b : List Pl) : flatP (a ++ b) = flatP a ++ flatP b := by simp [flatP]
theorem flatP_single (p : Pl) : flatP [p] = p.cells.toList := by simp [flatP]
theorem flatP_len (ps : List Pl) : (flatP ps).length = ps.length * 34 := by
  induction ps with
  | nil => rfl
  | cons p ps ih => rw [flatP_cons, List.length_append, ih, List.length_cons, Array.length_toList, plC_size]; omega
theorem flatP_one (ps : List Pl) : ∀ u ∈ flatP ps, u.oneCell' = true := fun u hu => by
  obtain ⟨p, _, hp⟩ := List.mem_flatMap.1 hu
  exact (Array.all_eq_true_iff_forall_mem.1 (plC_one p)) u (by simpa using hp)
theorem flatP_get (ps : List Pl) (i : Nat) (p : Pl) (j : Nat) (h : ps[i]? = some p) (hj : j < 34) : (flatP ps)[i * 34 + j]? = p.cells[j]? := by
  induction ps generalizing i with
  | nil => simp at h
  | cons q ps ih =>
    have hl : q.cells.toList.length = 34 := by rw [Array.length_toList, plC_size]
    rw [flatP_cons]
    cases i with
    | zero =>
      cases h
      rw [List.getElem?_append_left (by omega), Nat.zero_mul, Nat.zero_add, Array.getElem?_toList]
    | succ i =>
      rw [List.getElem?_append_right (by omega), hl, show (i + 1) * 34 + j - 34 = i * 34 + j by omega]
      exact ih i (by simpa using h)
theorem flatP_take (ps : List Pl) (m : Nat) : flatP (ps.take m) = (flatP ps).take (m * 34) := by
  induction ps generalizing m with
  | nil => simp [flatP]
  | cons p ps ih =>
    cases m with
    | zero => simp [flatP]
    | succ m =>
      have hl : p.cells.toList.length = 34 := by rw [Array.length_toList, plC_size]
      rw [List.take_succ_cons, flatP_cons, flatP_cons, ih, List.take_append, hl, List.take_of_length_le (l := p.cells.toList) (by omega), show (m + 1) * 34 - 34 = m * 34 by omega]
theorem flatP_drop (ps : List Pl) (m : Nat) : flatP (ps.drop m) = (flatP ps).drop (m * 34) := by
  induction ps generalizing m with
  | nil => simp [flatP]
  | cons p ps ih =>
    cases m with
    | zero => simp [flatP]
    | succ m =>
      have hl : p.cells.toList.length = 34 := by rw [Array.length_toList, plC_size]
      rw [List.drop_succ_cons, flatP_cons, ih, List.drop_append, hl, List.drop_of_length_le (l := p.cells.toList) (by omega), show (m + 1) * 34 - 34 = m * 34 by omega]; rfl

section
variable {w w' : World} {b o : Nat} {ps : List Pl} {i : Nat} {p : Pl}
/-- Cell j of place i. -/
theorem cell_pl (h : Lies w (some ⟨b, o, none⟩) (flatP ps)) (hi : ps[i]? = some p) (f : Fr (fun _ => False) w w') (j : Nat) (v : Value) (hv : p.cells[j]? = some v) : w'.cell? ⟨b, o + i * 34 + j, none⟩ = some v := by
  have hj : j < 34 := by
    have := (Array.getElem?_eq_some_iff.1 hv).1
    rwa [plC_size] at this
  have hg := flatP_get ps i p j hi hj
  rw [hv] at hg
  rcases h with h | ⟨b', o', hA, hc⟩
  · rw [h] at hg; simp at hg
  · cases hA
    rw [Nat.add_assoc]
    exact f.cell (hc _ _ hg) (fun e => e)
theorem pos_pl (h : Lies w (some ⟨b, o, none⟩) (flatP ps)) (hi : ps[i]? = some p) (f : Fr (fun _ => False) w w') : w'.cell? ⟨b, o + i * 34 + 32, none⟩ = some (.int .i64 p.pos) := cell_pl h hi f 32 _ (plC_pos p)
theorem sm_pl (h : Lies w (some ⟨b, o, none⟩) (flatP ps)) (hi : ps[i]? = some p) (f : Fr (fun _ => False) w w') : w'.cell? ⟨b, o + i * 34 + 33, none⟩ = some (.int .u32 p.sm) := cell_pl h hi f 33 _ (plC_sm p)
theorem load_pl (h : Lies w (some ⟨b, o, none⟩) (flatP ps)) (hi : ps[i]? = some p) (f : Fr (fun _ => False) w w') (n : Nat) (hn : n = 34) : (loadCellsFrom ⟨b, o + i * 34, none⟩ 0 n #[]).run Tryz.prog w' = .ok p.cells w' := by
  have h2 := run_loadCells_list (P := Tryz.prog) w' ⟨b, o + i * 34, none⟩ p.cells.toList (fun j v hv => by
    rw [add_off]
    exact cell_pl h hi f j v (by simpa using hv))
  rw [Array.length_toList, plC_size, Array.toArray_toList] at h2
  rw [hn]
  simpa [loadCells] using h2
theorem load_plid (h : Lies w (some ⟨b, o, none⟩) (flatP ps)) (hi : ps[i]? = some p) (f : Fr (fun _ => False) w w') (n : Nat) (hn : n = 32) : (loadCellsFrom ⟨b, o + i * 34, none⟩ 0 n #[]).run Tryz.prog w' = .ok (idC (dgt p.id)) w' := by
  have h2 := run_loadCells_list (P := Tryz.prog) w' ⟨b, o + i * 34, none⟩ (idC (dgt p.id)).toList (fun j v hv => by
    have hj : j < 32 := by
      have := (List.getElem?_eq_some_iff.1 hv).1
      rwa [Array.length_toList, idC_size] at this
    rw [add_off]
    refine cell_pl h hi f j v ?_
    rw [plC_id p j hj, ← idC_get _ j hj]
    simpa using hv)
  rw [Array.length_toList, idC_size, Array.toArray_toList] at h2
  rw [hn]
  simpa [loadCells] using h2
theorem Lies.someP {A : Option Addr} (h : Lies w A (flatP ps)) (hn : 0 < ps.length) : ∃ b o, A = some ⟨b, o, none⟩ := by
  rcases h with h | ⟨b, o, rfl, _⟩
  · have := flatP_len ps
    rw [h] at this
    simp at this
    omega
  · exact ⟨b, o, rfl⟩
end
theorem some_pl {ps : List Pl} {i : Nat} (h : i < ps.length) : ps[i]? = some ps[i]! := by
  rw [List.getElem?_eq_getElem h, getElem!_pos ps i h]

/-! Ids as bytes. -/
def idL (n : Nat) : List UInt8 := hiB n 32 32
theorem idL_len (n : Nat) : (idL n).length = 32 := by simp [idL, hiB]
theorem dgt_byt (n i : Nat) (h : i < 32) : byt (dgt n) i = n / 2 ^ (8 * (31 - i)) % 256 := by
  have h1 : (2 : Nat) ^ (8 * (31 - i)) = 16 ^ (63 - (2 * i + 1)) := by rw [show (16 : Nat) = 2 ^ 4 from rfl, ← Nat.pow_mul]; congr 1; omega
  have h2 : (16 : Nat) ^ (63 - 2 * i) = 16 ^ (63 - (2 * i + 1)) * 16 := by rw [← Nat.pow_succ]; congr 1; omega
  unfold byt dgt
  rw [h1, h2, ← Nat.div_div_eq_div_mul]
  omega
theorem idL_cells (n : Nat) : (idC (dgt n)).toList = bytesV (idL n) := by
  rw [idC, bytesV, idL, hiB, List.map_map]
  show (List.range 32).map (cellD (dgt n)) = _
  refine List.map_congr_left (fun i hi => ?_)
  have hi2 : i < 32 := List.mem_range.1 hi
  rw [cellD, dgt_byt n i hi2, Function.comp_apply, byteV_toB (by omega) (by omega)]
  congr 1
theorem idC_idL (n : Nat) : idC (dgt n) = (bytesV (idL n)).toArray := by rw [← idL_cells, Array.toArray_toList]
theorem toB_nat {c : Int} (h0 : 0 ≤ c) (h1 : c ≤ 255) : (toB c).toNat = c.toNat := by
  unfold toB
  rw [UInt8.toNat_ofNat', Nat.mod_eq_of_lt (by omega)]
theorem hiB_bigN (m : Int) (size : Nat) (h0 : 0 ≤ m) (h1 : m < 2 ^ (8 * size)) (k : Nat) (hk : k ≤ size) : (bigV (hiB m size k) : Int) = m / 2 ^ (8 * (size - k)) := by
  induction k with
  | zero =>
    rw [Nat.sub_zero, Int.ediv_eq_zero_of_lt h0 h1]
    rfl
  | succ k ih =>
    have hr := ih (by omega)
    obtain ⟨q, hq⟩ : ∃ q, m / 2 ^ (8 * (size - 1 - k)) = q := ⟨_, rfl⟩
    have hd : m / 2 ^ (8 * (size - k)) = q / 256 := by
      rw [show 8 * (size - k) = 8 * (size - 1 - k) + 8 by omega, Int.pow_add, ← Int.ediv_ediv_of_nonneg (Int.le_of_lt (Int.pow_pos (by decide))), hq]
      rfl
    rw [hiB_succ, bigV_snoc, hq, toB_nat (by omega) (by omega), show size - (k + 1) = size - 1 - k by omega, hq]
    rw [hd] at hr
    omega
theorem hiB_bigN4 (m : Int) (h0 : 0 ≤ m) (h1 : m < 4294967296) : (bigV (hiB m 4 4) : Int) = m := by
  have := hiB_bigN m 4 h0 (by simpa using h1) 4 (by omega)
  simpa using this
theorem bigV_idL (n : Nat) (h : n < big) : bigV (idL n) = n := by
  have := hiB_bigN (n : Int) 32 (by omega) (by have : n < 2 ^ 256 := h; exact_mod_cast this) 32 (Nat.le_refl _)
  simp at this
  rw [idL]
  omega
theorem big_hiB (n : Int) (h0 : 0 ≤ n) (h1 : n < 4294967296) : (bigV (hiB n 4 4) : Int) = n := by
  have := hiB_bigN n 4 h0 (by simpa using h1) 4 (Nat.le_refl _)
  simpa using this
theorem bigV_at : ∀ (n : Nat) (l : List UInt8) (hl : l.length = n) (i : Nat) (h : i < n), bigV l / 256 ^ (n - 1 - i) % 256 = (l.getD i 0).toNat := by
  intro n
  induction n with
  | zero => intro l hl i h; omega
  | succ n ih =>
    intro l hl i h
    rcases List.eq_nil_or_concat l with rfl | ⟨l0, b, rfl⟩
    · simp at hl
    · rw [List.concat_eq_append] at *
      have hl0 : l0.length = n := by simpa using hl
      rw [bigV_snoc]
      have hb := b.toNat_lt
      rcases Nat.lt_or_ge i n with h1 | h1
      · rw [show n + 1 - 1 - i = (n - 1 - i) + 1 by omega, Nat.pow_succ, Nat.mul_comm (256 ^ _) 256, ← Nat.div_div_eq_div_mul, show (bigV l0 * 256 + b.toNat) / 256 = bigV l0 by omega, ih l0 hl0 i h1]
        simp [List.getD_eq_getElem?_getD, List.getElem?_append_left (show i < l0.length by omega)]
      · have : i = n := by omega
        subst this
        rw [show i + 1 - 1 - i = 0 by omega, Nat.pow_zero, Nat.div_one]
        simp [List.getD_eq_getElem?_getD, ← hl0]
theorem hiB_bigV (l : List UInt8) (n : Nat) (h : l.length = n) : hiB (bigV l) n n = l := by
  apply List.ext_getElem
  · simp [hiB, h]
  · intro i h1 h2
    have hi : i < n := by omega
    have := bigV_at n l h i hi
    simp only [hiB, List.getElem_map, List.getElem_range]
    have e : (bigV l : Int) / 2 ^ (8 * (n - 1 - i)) % 256 = ((bigV l / 256 ^ (n - 1 - i) % 256 : Nat) : Int) := by
      rw [show (256 : Nat) = 2 ^ 8 from rfl, ← Nat.pow_mul]
      rw [Int.natCast_emod, Int.natCast_ediv, Int.natCast_pow]
      rfl
    rw [e, this, List.getD_eq_getElem?_getD, List.getElem?_eq_getElem h2]
    simp [toB]
theorem idL_bigV (l : List UInt8) (h : l.length = 32) : idL (bigV l) = l := by
  exact hiB_bigV l 32 h
theorem bigV_big (l : List UInt8) (h : l.length = 32) : bigV l < big := by
  have := bigV_lt l
  rw [h] at this
  exact this
theorem hiB_bigV4 (l : List UInt8) (h : l.length = 4) : hiB (bigV l) 4 4 = l := by
  exact hiB_bigV l 4 h
theorem idL_inj {a b : Nat} (ha : a < big) (hb : b < big) (h : idL a = idL b) : a = b := by rw [← bigV_idL a ha, h, bigV_idL b hb]
theorem cells_bytes {l : List UInt8} (h : l.length = 32) : (bytesV l).toArray = idC (dgt (bigV l)) := by rw [idC_idL, idL_bigV l h]

/-- A sum, as bytes. -/
def sumL (l : List UInt8) : List UInt8 := (List.range 32).map fun k => toB (idN (stOf (l ++ padB l.length)) k)
theorem sumL_len (l : List UInt8) : (sumL l).length = 32 := by simp [sumL]
theorem sumV_sumL (l : List UInt8) : sumV l = (bytesV (sumL l)).toArray := by
  unfold sumV idCS bytesV sumL
  congr 1
  rw [List.map_map, Nat.sub_self, List.replicate_zero, List.append_nil]
  refine List.map_congr_left (fun k _ => ?_)
  show _ = byteV (toB _)
  rw [byteV_toB] <;> · unfold idN; omega
end Go.Proofs.YtgbhdjncccmabaaGreatDoor

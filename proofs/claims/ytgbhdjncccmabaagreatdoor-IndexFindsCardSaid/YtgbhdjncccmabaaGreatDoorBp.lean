/- What is proved: what the walks of this seat need of layers below, merged out of the texts Shr Shs (of each just what is needed). Conditions: each theorem names its own. -/
import Derived.Test.YtgbhdjncccmabaaGreatDoorRows
import Derived.Deep.DeepFit
import Derived.WalkSpells
import Derived.WalkLawsBesides
import Derived.Deep.WholeRow
import Derived.Deep.QuietTactic
import Derived.Deep.RegionHeld3
import Derived.BigQuiet
import Derived.Deep.AppendLies
import Derived.Test.YtgbhdjncccmabaaGreatDoorDa
set_option maxRecDepth 100000
/- What is proved: the program's numbers turned right (RotateLeft32, right, turned; the document's own right) answer what the definitions below say. Conditions: a turn by 1 to 31. -/
namespace Go.Proofs.YtgbhdjncccmabaaGreatDoor
open Go.RowKit
set_option linter.unusedVariables false
/-- x turned right by n. -/
def rotR (x : Int) (n : Nat) : Int := bits .or .u32 (x / 2 ^ n) (x * 2 ^ (32 - n) % 4294967296)
theorem bits_or_comm (k : IntKind) (a b : Int) : bits .or k a b = bits .or k b a := by
  unfold bits
  simp only []
  rw [BitVec.or_comm]
theorem neg_mask (n : Nat) (h1 : 1 ≤ n) (h2 : n < 32) : bits .and .u64 (IntKind.u64.wrap (-(n : Int))) 31 = 32 - n := by
  rw [IntKind.wrap_u64]
  rw [u64_and _ 31 (by omega) (by omega) (by omega) (by omega)]
  have e : ∀ m : Nat, m &&& 31 = m % 2 ^ 5 := fun m => Nat.and_two_pow_sub_one_eq_mod m 5
  show (((_ : Nat) &&& 31 : Nat) : Int) = _
  rw [e]
  omega
theorem Rotl_any (x : Int) (n : Nat) (h1 : 1 ≤ n) (h2 : n < 32) (w : World) :
    Calls Tryz.prog 112 #[.int .u32 x, .int .i64 (-n)] w fun e w' => e = .returned (.int .u32 (rotR x n)) ∧ w = w' := by
  have hm := neg_mask n h1 h2
  obtain ⟨s, hs⟩ : ∃ s : Int, 32 - (n : Int) = s := ⟨_, rfl⟩
  rw [hs] at hm
  have hs0 : 0 ≤ s := by omega
  have hs1 : s ≤ 32 := by omega
  have hs2 : IntKind.u64.wrap (32 - s) = 32 - s := by rw [IntKind.wrap_u64]; omega
  have hs3 : 0 ≤ 32 - s := by omega
  have hs4 : 32 - s ≤ 32 := by omega
  have e1 : s.toNat = 32 - n := by omega
  have e2 : (32 - s).toNat = n := by omega
  clear hs
  go_enter Tryz.func112, Tryz.ntmps112
  go_wp2
  go_ret
  exact ⟨ret_num (by unfold rotR; rw [bits_or_comm]), rfl⟩
theorem Sright_any (x : Int) (n : Nat) (h1 : 1 ≤ n) (h2 : n < 32) (w : World) :
    Calls Tryz.prog 110 #[.int .u32 x, .int .i64 n] w fun e w' => e = .returned (.int .u32 (rotR x n)) ∧ w = w' := by
  have hn : IntKind.i64.wrap (-(n : Int)) = -(n : Int) := by simp only [IntKind.wrap_i64]; omega
  go_enter Tryz.func110, Tryz.ntmps110
  go_wp2_with (go_at_call 112; refine (Rotl_any x n h1 h2 _).mono ?_; rintro e w' ⟨rfl, rfl⟩)
  go_ret
  exact ⟨rfl, rfl⟩
theorem Qright_any (x : Int) (n : Nat) (h1 : 1 ≤ n) (h2 : n < 32) (w : World) :
    Calls Tryz.prog 82 #[.int .u32 x, .int .u64 n] w fun e w' => e = .returned (.int .u32 (rotR x n)) ∧ w = w' := by
  obtain ⟨s, hs⟩ : ∃ s : Int, (n : Int) = s := ⟨_, rfl⟩
  rw [hs]
  have hs0 : 0 ≤ s := by omega
  have hs1 : s ≤ 32 := by omega
  have hs2 : IntKind.u64.wrap (32 - s) = 32 - s := by rw [IntKind.wrap_u64]; omega
  have hs3 : 0 ≤ 32 - s := by omega
  have hs4 : 32 - s ≤ 32 := by omega
  have e1 : s.toNat = n := by omega
  have e2 : (32 - s).toNat = 32 - n := by omega
  clear hs
  go_enter Tryz.func82, Tryz.ntmps82
  go_wp2
  go_ret
  exact ⟨rfl, rfl⟩
/-- x turned right by each of three numbers, in one. -/
def rot3 (x : Int) (i j l : Nat) : Int := bits .xor .u32 (bits .xor .u32 (rotR x i) (rotR x j)) (rotR x l)
theorem Sturned_any (x : Int) (i j l : Nat) (hi : 1 ≤ i ∧ i < 32) (hj : 1 ≤ j ∧ j < 32) (hl : 1 ≤ l ∧ l < 32) (w : World) :
    Calls Tryz.prog 109 #[.int .u32 x, .int .i64 i, .int .i64 j, .int .i64 l] w fun e w' => e = .returned (.int .u32 (rot3 x i j l)) ∧ w = w' := by
  go_enter Tryz.func109, Tryz.ntmps109
  obtain ⟨hi1, hi2⟩ := hi
  obtain ⟨hj1, hj2⟩ := hj
  obtain ⟨hl1, hl2⟩ := hl
  go_wp2_with (go_at_call 110; refine (Sright_any _ _ (by assumption) (by assumption) _).mono ?_; rintro e w' ⟨rfl, rfl⟩)
  go_ret
  exact ⟨rfl, rfl⟩
end Go.Proofs.YtgbhdjncccmabaaGreatDoor
/- What is proved: a block's 64 numbers (spread): what the program's own function makes of 64 bytes. Conditions: 64 bytes, where they lie. -/
namespace Go.Proofs.YtgbhdjncccmabaaGreatDoor
open Go.RowKit
set_option linter.unusedVariables false
def num (x : Int) : Value := .int .u32 x
def byteI (b : List UInt8) (i : Nat) : Int := ((b.getD i 0).toNat : Int)
/-- Four bytes as a number, the highest first. -/
def be4 (b : List UInt8) (t : Nat) : Int := (byteI b (4 * t) * 256 + byteI b (4 * t + 1)) * 65536 + byteI b (4 * t + 2) * 256 + byteI b (4 * t + 3)
def sig0 (x : Int) : Int := bits .xor .u32 (bits .xor .u32 (rotR x 7) (rotR x 18)) (x / 8)
def sig1 (x : Int) : Int := bits .xor .u32 (bits .xor .u32 (rotR x 17) (rotR x 19)) (x / 1024)
def nextW (l : List Int) (t : Nat) : Int := (l.getD (t - 16) 0 + sig0 (l.getD (t - 15) 0) + l.getD (t - 7) 0 + sig1 (l.getD (t - 2) 0)) % 4294967296
/-- The first t of a block's numbers. -/
def ws (b : List UInt8) : Nat → List Int
  | 0 => []
  | t + 1 => ws b t ++ [if t < 16 then be4 b t else nextW (ws b t) t]
theorem ws_length (b : List UInt8) (t : Nat) : (ws b t).length = t := by
  induction t with
  | zero => rfl
  | succ t ih => simp [ws, ih]
/-- An array of n numbers of which the first are there. -/
def padNums (l : List Int) (n : Nat) : Array Value := (l.map num ++ List.replicate (n - l.length) (num 0)).toArray
theorem padNums_size (l : List Int) (n : Nat) (h : l.length ≤ n) : (padNums l n).size = n := by simp [padNums]; omega
theorem padNums_get (l : List Int) (n i : Nat) (h : i < l.length) : (padNums l n)[i]? = some (num (l.getD i 0)) := by
  simp [padNums, List.getElem?_append, h]
theorem padNums_one (l : List Int) (n : Nat) : (padNums l n).all (·.oneCell') = true := by
  refine Array.all_eq_true_iff_forall_mem.2 (fun v hv => ?_)
  simp only [padNums, List.mem_toArray, List.mem_append, List.mem_map, List.mem_replicate] at hv
  rcases hv with ⟨x, _, rfl⟩ | ⟨_, rfl⟩ <;> rfl
theorem padNums_set (l : List Int) (n : Nat) (x : Int) (h : l.length < n) : (padNums l n).setIfInBounds l.length (num x) = padNums (l ++ [x]) n := by
  apply Array.toList_inj.1
  simp only [padNums, Array.toList_setIfInBounds, List.map_append, List.map_cons, List.map_nil, List.length_append, List.length_cons, List.length_nil]
  obtain ⟨k, hk⟩ : ∃ k, n - l.length = k + 1 := ⟨n - l.length - 1, by omega⟩
  have h2 : n - (l.length + (0 + 1)) = k := by omega
  rw [hk, h2, List.set_append, if_neg (by simp), List.length_map, Nat.sub_self, List.replicate_succ, List.set_cons_zero, List.append_assoc]
  rfl
/-- What stands at the head of a round. -/
def SpRel (w : World) (bs : List UInt8) (t : Nat) (wr : World) : Prop := Whole wr w.heap.size 160 (padNums (ws bs t) 64) ∧ Fr (fun _ => False) w wr
theorem SpRel.drew {w wr : World} {bs : List UInt8} {t : Nat} (h : SpRel w bs t wr) (n : Nat) : SpRel w bs t (wr.drewN n) := ⟨h.1, h.2.drewN n⟩
theorem SpRel.put {w wr : World} {bs : List UInt8} {t : Nat} (h : SpRel w bs t wr) (ht : t < 64) {x : Int} (hx : x = if t < 16 then be4 bs t else nextW (ws bs t) t) : SpRel w bs (t + 1) (wr.setCell ⟨w.heap.size, t, none⟩ (num x)) := by
  subst hx
  refine ⟨?_, h.2.setCell (fun e => absurd e (Nat.lt_irrefl _)) _⟩
  have := h.1.set t (num (if t < 16 then be4 bs t else nextW (ws bs t) t))
  have e := padNums_set (ws bs t) 64 (if t < 16 then be4 bs t else nextW (ws bs t) t) (by rw [ws_length]; exact ht)
  rw [ws_length] at e
  rw [e] at this
  exact this
theorem padNums_zero (l : List Int) (n i : Nat) (h : l.length ≤ i) (h2 : i < n) : (padNums l n)[i]? = some (num 0) := by
  simp only [padNums, List.getElem?_toArray]
  rw [List.getElem?_append_right (by simpa using h), List.getElem?_replicate, if_pos (by simp; omega)]
theorem SpRel.zero {w wr : World} {bs : List UInt8} {t : Nat} (h : SpRel w bs t wr) (ht : t < 64) : wr.cell? ⟨w.heap.size, t, none⟩ = some (.int .u32 0) := by
  rw [h.1.cell, padNums_zero _ _ _ (by rw [ws_length]; exact Nat.le_refl _) ht]
  rfl
theorem byteI_bound (b : List UInt8) (i : Nat) : 0 ≤ byteI b i ∧ byteI b i ≤ 255 := by
  have := (b.getD i 0).toNat_lt
  unfold byteI
  omega
theorem or_add (a b : Int) (n : Nat) (hn : n ≤ 24) (ha : 0 ≤ a) (hb0 : 0 ≤ b) (hb : b < 2 ^ n) (hs : a * 2 ^ n + b < 4294967296) : bits .or .u32 (a * 2 ^ n) b = a * 2 ^ n + b := by
  obtain ⟨m, rfl⟩ := Int.eq_ofNat_of_zero_le ha
  obtain ⟨k, rfl⟩ := Int.eq_ofNat_of_zero_le hb0
  have e : ((m : Int) * 2 ^ n) = ((m * 2 ^ n : Nat) : Int) := by push_cast; rfl
  have hk : k < 2 ^ n := by exact_mod_cast hb
  rw [e] at hs ⊢
  rw [u32_or_nat _ _ (by omega) (by omega), ← Nat.shiftLeft_eq, ← Nat.shiftLeft_add_eq_or_of_lt hk]
  push_cast
  rfl
theorem or4 (b0 b1 b2 b3 : Int) (h0 : 0 ≤ b0 ∧ b0 ≤ 255) (h1 : 0 ≤ b1 ∧ b1 ≤ 255) (h2 : 0 ≤ b2 ∧ b2 ≤ 255) (h3 : 0 ≤ b3 ∧ b3 ≤ 255) :
    bits .or .u32 (bits .or .u32 (bits .or .u32 (b0 * 16777216) (b1 * 65536)) (b2 * 256)) b3 = (b0 * 256 + b1) * 65536 + b2 * 256 + b3 := by
  have e1 := or_add b0 (b1 * 65536) 24 (by omega) (by omega) (by omega) (by omega) (by omega)
  have e2 := or_add (b0 * 256 + b1) (b2 * 256) 16 (by omega) (by omega) (by omega) (by omega) (by omega)
  have e3 := or_add ((b0 * 256 + b1) * 256 + b2) b3 8 (by omega) (by omega) (by omega) (by omega) (by omega)
  have p24 : (2 : Int) ^ 24 = 16777216 := by decide
  have p16 : (2 : Int) ^ 16 = 65536 := by decide
  have p8 : (2 : Int) ^ 8 = 256 := by decide
  rw [p24] at e1
  rw [p16] at e2
  rw [p8] at e3
  rw [e1]
  have f1 : b0 * 16777216 + b1 * 65536 = (b0 * 256 + b1) * 65536 := by omega
  rw [f1, e2]
  have f2 : (b0 * 256 + b1) * 65536 + b2 * 256 = ((b0 * 256 + b1) * 256 + b2) * 256 := by omega
  rw [f2, e3]
theorem SpRel.cell {w wr : World} {bs : List UInt8} {t : Nat} (h : SpRel w bs t wr) (i : Nat) (hi : i < t) : wr.cell? ⟨w.heap.size, i, none⟩ = some (.int .u32 ((ws bs t).getD i 0)) := by
  rw [h.1.cell, padNums_get _ _ _ (by rw [ws_length]; exact hi)]
  rfl
set_option maxHeartbeats 1600000 in
set_option maxRecDepth 20000 in
theorem Sspread_any (bk off cap : Nat) (bs : List UInt8) (w : World) (hlen : bs.length = 64) (hl : ∀ i, i < 64 → w.cell? ⟨bk, off + i, none⟩ = some (.int .u8 (byteI bs i))) :
    Calls Tryz.prog 103 #[.slice (some ⟨bk, off, none⟩) 64 cap] w fun e w' => e = .returned (.agg (padNums (ws bs 64) 64)) ∧ Below w.heap.size w w' := by
  have HL := Lib.hid hl
  clear hl
  go_enter Tryz.func103, Tryz.ntmps103
  go_wp2
  go_loopw [9] (fun i wr => ∃ t : Nat, t ≤ 16 ∧ i = .int .i64 t ∧ SpRel w bs t wr) (fun i _ => 16 - (intOf i).toNat)
  case atStart => exact ⟨0, by omega, rfl, Whole.new w 160 (padNums [] 64), (Fr.refl _ w).alloc _⟩
  case round =>
    obtain ⟨t, ht, rfl, hr⟩ := hrel
    by_cases hlt : t < 16
    · have c0 := hr.2.cell (HL.out (4 * t) (by omega)) (fun e => e)
      have c1 := hr.2.cell (HL.out (4 * t + 1) (by omega)) (fun e => e)
      have c2 := hr.2.cell (HL.out (4 * t + 2) (by omega)) (fun e => e)
      have c3 := hr.2.cell (HL.out (4 * t + 3) (by omega)) (fun e => e)
      have c4 := hr.zero (show t < 64 by omega)
      have c5 := hr.1.frozen t
      have hb0 := byteI_bound bs (4 * t)
      have hb1 := byteI_bound bs (4 * t + 1)
      have hb2 := byteI_bound bs (4 * t + 2)
      have hb3 := byteI_bound bs (4 * t + 3)
      have hx : ∃ x, x = be4 bs t := ⟨_, rfl⟩
      unfold be4 at hx
      obtain ⟨b0, e0⟩ : ∃ x, byteI bs (4 * t) = x := ⟨_, rfl⟩
      obtain ⟨b1, e1⟩ : ∃ x, byteI bs (4 * t + 1) = x := ⟨_, rfl⟩
      obtain ⟨b2, e2⟩ : ∃ x, byteI bs (4 * t + 2) = x := ⟨_, rfl⟩
      obtain ⟨b3, e3⟩ : ∃ x, byteI bs (4 * t + 3) = x := ⟨_, rfl⟩
      have HE := Lib.hid (show be4 bs t = (b0 * 256 + b1) * 65536 + b2 * 256 + b3 by unfold be4; rw [e0, e1, e2, e3])
      rw [e0] at c0 hb0
      rw [e1] at c1 hb1
      rw [e2] at c2 hb2
      rw [e3] at c3 hb3
      clear hx e0 e1 e2 e3
      obtain ⟨g00, g01⟩ := hb0
      obtain ⟨g10, g11⟩ := hb1
      obtain ⟨g20, g21⟩ := hb2
      obtain ⟨g30, g31⟩ := hb3
      have HO := Lib.hid (or4 b0 b1 b2 b3 ⟨g00, g01⟩ ⟨g10, g11⟩ ⟨g20, g21⟩ ⟨g30, g31⟩)
      have HR := Lib.hid hr
      clear hr
      go_wp2_with fail
      go_region
      go_wp2_with fail
      go_roundw
      case rel => exact ⟨t + 1, by omega, by go_num, by rw [HO.out, ← HE.out]; exact (SpRel.put (HR.out.drew 1) (by omega) (by rw [if_pos hlt]))⟩
      case measure => simp [intOf]; omega
    · obtain rfl : t = 16 := by omega
      go_wp2_with fail
      have e16 : ((16 : Nat) : Int) = 16 := rfl
      simp only [e16]
      clear e16
      go_loopw [4] (fun i wr => ∃ t : Nat, 16 ≤ t ∧ t ≤ 64 ∧ i = .int .i64 t ∧ SpRel w bs t wr) (fun i _ => 64 - (intOf i).toNat)
      case atStart => exact ⟨16, by omega, by omega, rfl, hr⟩
      case round =>
        clear hr ht hlt
        obtain ⟨t, ht0, ht, rfl, hr⟩ := hrel
        by_cases hlt : t < 64
        · have c1 := hr.cell (t - 15) (by omega)
          have c2 := hr.cell (t - 2) (by omega)
          have c3 := hr.cell (t - 16) (by omega)
          have c4 := hr.cell (t - 7) (by omega)
          have c5 := hr.zero (show t < 64 by omega)
          have c6 := hr.1.frozen t
          have HN := Lib.hid (show nextW (ws bs t) t = _ from rfl)
          unfold nextW at HN
          obtain ⟨x15, e1⟩ : ∃ x, (ws bs t).getD (t - 15) 0 = x := ⟨_, rfl⟩
          obtain ⟨x2, e2⟩ : ∃ x, (ws bs t).getD (t - 2) 0 = x := ⟨_, rfl⟩
          obtain ⟨x16, e3⟩ : ∃ x, (ws bs t).getD (t - 16) 0 = x := ⟨_, rfl⟩
          obtain ⟨x7, e4⟩ : ∃ x, (ws bs t).getD (t - 7) 0 = x := ⟨_, rfl⟩
          have HE := Lib.hid (show nextW (ws bs t) t = (x16 + sig0 x15 + x7 + sig1 x2) % 4294967296 by unfold nextW; rw [e1, e2, e3, e4])
          rw [e1] at c1
          rw [e2] at c2
          rw [e3] at c3
          rw [e4] at c4
          clear e1 e2 e3 e4 HN
          have HR := Lib.hid hr
          clear hr
          go_wp2_with fail
          go_region
          go_wp2_with (go_at_call 110; first
            | (refine (Sright_any x15 7 (by decide) (by decide) _).mono ?_; rintro e w' ⟨rfl, rfl⟩)
            | (refine (Sright_any x15 18 (by decide) (by decide) _).mono ?_; rintro e w' ⟨rfl, rfl⟩)
            | (refine (Sright_any x2 17 (by decide) (by decide) _).mono ?_; rintro e w' ⟨rfl, rfl⟩)
            | (refine (Sright_any x2 19 (by decide) (by decide) _).mono ?_; rintro e w' ⟨rfl, rfl⟩))
          go_region
          go_wp2_with fail
          go_roundw
          case rel => exact ⟨t + 1, by omega, by omega, by go_num, (SpRel.put (HR.out.drew 2) (by omega) (by rw [if_neg (by omega), HE.out]; rfl))⟩
          case measure => simp [intOf]; omega
        · obtain rfl : t = 64 := by omega
          go_wp2_with (first
            | (refine wpList_load_row rfl 160 _ rfl _ rfl 160 _ _ _ hr.1 Tryz.underlying160 rfl (by rw [padNums_size _ _ (by rw [ws_length]; exact Nat.le_refl _)]; kernel_rfl) ?_)
            | (refine wpList_store_at rfl 160 _ _ rfl w.heap.size 0 160 _ _ rfl rfl hr.1 (by rw [Nat.zero_add]; exact Nat.le_refl _) (by rw [padNums_size _ _ (by rw [ws_length]; exact Nat.le_refl _)]; kernel_rfl) (padNums_one _ _) ?_; intro w2 hw2 hf2))
          rw [laidAt_all _ _ rfl] at hw2
          refine bodyPost_ret (v := .agg (padNums (ws bs 64) 64)) (results_cell_row (p := 2) rfl _ _ _ _ _ _ _ rfl hw2 Tryz.underlying160 rfl (by rw [padNums_size _ _ (by rw [ws_length]; exact Nat.le_refl _)]; kernel_rfl)) rfl ?_
          exact ⟨rfl, (hr.2.trans hf2 (fun i hi e => by omega)).below (fun _ _ e => e)⟩
end Go.Proofs.YtgbhdjncccmabaaGreatDoor

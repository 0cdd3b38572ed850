/- What is proved: texts that stand one behind the other: Bp Bpa Bpb Bpc Bq. Conditions: each theorem names its own. -/
import Derived.Test.YtkaeoflgnnlbeaaGreatDoorRows
import Derived.Deep.DeepFit
import Derived.WalkSpells
import Derived.WalkLawsBesides
import Derived.Deep.WholeRow
import Derived.Deep.QuietTactic
import Derived.Deep.RegionHeld3
import Derived.BigQuiet
import Derived.Deep.AppendLies
import Derived.Test.YtkaeoflgnnlbeaaGreatDoorQDa
import Derived.LoopN
import Derived.Laws.OwnMore
import Derived.Deep.RegionLaw
import Derived.Test.YtkaeoflgnnlbeaaGreatDoorQPa
/- What is proved: what the walks of this seat need of layers below, merged out of the texts Shr Shs (of each just what is needed). Conditions: each theorem names its own. -/
set_option maxRecDepth 100000
/- What is proved: the program's numbers turned right (RotateLeft32, right, turned; the document's own right) answer what the definitions below say. Conditions: a turn by 1 to 31. -/
namespace Go.Proofs.YtkaeoflgnnlbeaaGreatDoor
open Go.RowKit
set_option linter.unusedVariables false
/-- x turned right by n. -/
def rotR (x : Int) (n : Nat) : Int := bits .or .u32 (x / 2 ^ n) (x * 2 ^ (32 - n) % 4294967296)
theorem bits_or_comm (k : IntKind) (a b : Int) : bits .or k a b = bits .or k b a := by
  unfold bits
  simp only []
  rw [BitVec.or_comm]
theorem neg_mask (n : Nat) (h1 : 1 ≤ n) (h2 : n < 32) : bits .and .u64 (IntKind.u64.wrap (-(n : Int))) 31 = 32 - n := by
  rw [IntKind.wrap_u64]
  rw [u64_and _ 31 (by omega) (by omega) (by omega) (by omega)]
  have e : ∀ m : Nat, m &&& 31 = m % 2 ^ 5 := fun m => Nat.and_two_pow_sub_one_eq_mod m 5
  show (((_ : Nat) &&& 31 : Nat) : Int) = _
  rw [e]
  omega
theorem Rotl_any (x : Int) (n : Nat) (h1 : 1 ≤ n) (h2 : n < 32) (w : World) :
    Calls Tryz.prog 176 #[.int .u32 x, .int .i64 (-n)] w fun e w' => e = .returned (.int .u32 (rotR x n)) ∧ w = w' := by
  have hm := neg_mask n h1 h2
  obtain ⟨s, hs⟩ : ∃ s : Int, 32 - (n : Int) = s := ⟨_, rfl⟩
  rw [hs] at hm
  have hs0 : 0 ≤ s := by omega
  have hs1 : s ≤ 32 := by omega
  have hs2 : IntKind.u64.wrap (32 - s) = 32 - s := by rw [IntKind.wrap_u64]; omega
  have hs3 : 0 ≤ 32 - s := by omega
  have hs4 : 32 - s ≤ 32 := by omega
  have e1 : s.toNat = 32 - n := by omega
  have e2 : (32 - s).toNat = n := by omega
  clear hs
  go_enter Tryz.func176, Tryz.ntmps176
  go_wp2
  go_ret
  exact ⟨ret_num (by unfold rotR; rw [bits_or_comm]), rfl⟩
theorem Sright_any (x : Int) (n : Nat) (h1 : 1 ≤ n) (h2 : n < 32) (w : World) :
    Calls Tryz.prog 158 #[.int .u32 x, .int .i64 n] w fun e w' => e = .returned (.int .u32 (rotR x n)) ∧ w = w' := by
  have hn : IntKind.i64.wrap (-(n : Int)) = -(n : Int) := by simp only [IntKind.wrap_i64]; omega
  go_enter Tryz.func158, Tryz.ntmps158
  go_wp2_with (go_at_call 176; refine (Rotl_any x n h1 h2 _).mono ?_; rintro e w' ⟨rfl, rfl⟩)
  go_ret
  exact ⟨rfl, rfl⟩
/-- x turned right by each of three numbers, in one. -/
def rot3 (x : Int) (i j l : Nat) : Int := bits .xor .u32 (bits .xor .u32 (rotR x i) (rotR x j)) (rotR x l)
theorem Sturned_any (x : Int) (i j l : Nat) (hi : 1 ≤ i ∧ i < 32) (hj : 1 ≤ j ∧ j < 32) (hl : 1 ≤ l ∧ l < 32) (w : World) :
    Calls Tryz.prog 157 #[.int .u32 x, .int .i64 i, .int .i64 j, .int .i64 l] w fun e w' => e = .returned (.int .u32 (rot3 x i j l)) ∧ w = w' := by
  go_enter Tryz.func157, Tryz.ntmps157
  obtain ⟨hi1, hi2⟩ := hi
  obtain ⟨hj1, hj2⟩ := hj
  obtain ⟨hl1, hl2⟩ := hl
  go_wp2_with (go_at_call 158; refine (Sright_any _ _ (by assumption) (by assumption) _).mono ?_; rintro e w' ⟨rfl, rfl⟩)
  go_ret
  exact ⟨rfl, rfl⟩
end Go.Proofs.YtkaeoflgnnlbeaaGreatDoor
/- What is proved: a block's 64 numbers (spread): what the program's own function makes of 64 bytes. Conditions: 64 bytes, where they lie. -/
namespace Go.Proofs.YtkaeoflgnnlbeaaGreatDoor
open Go.RowKit
set_option linter.unusedVariables false
def num (x : Int) : Value := .int .u32 x
def byteI (b : List UInt8) (i : Nat) : Int := ((b.getD i 0).toNat : Int)
/-- Four bytes as a number, the highest first. -/
def be4 (b : List UInt8) (t : Nat) : Int := (byteI b (4 * t) * 256 + byteI b (4 * t + 1)) * 65536 + byteI b (4 * t + 2) * 256 + byteI b (4 * t + 3)
def sig0 (x : Int) : Int := bits .xor .u32 (bits .xor .u32 (rotR x 7) (rotR x 18)) (x / 8)
def sig1 (x : Int) : Int := bits .xor .u32 (bits .xor .u32 (rotR x 17) (rotR x 19)) (x / 1024)
def nextW (l : List Int) (t : Nat) : Int := (l.getD (t - 16) 0 + sig0 (l.getD (t - 15) 0) + l.getD (t - 7) 0 + sig1 (l.getD (t - 2) 0)) % 4294967296
/-- The first t of a block's numbers. -/
def ws (b : List UInt8) : Nat → List Int
  | 0 => []
  | t + 1 => ws b t ++ [if t < 16 then be4 b t else nextW (ws b t) t]
theorem ws_length (b : List UInt8) (t : Nat) : (ws b t).length = t := by
  induction t with
  | zero => rfl
  | succ t ih => simp [ws, ih]
/-- An array of n numbers of which the first are there. -/
def padNums (l : List Int) (n : Nat) : Array Value := (l.map num ++ List.replicate (n - l.length) (num 0)).toArray
theorem padNums_size (l : List Int) (n : Nat) (h : l.length ≤ n) : (padNums l n).size = n := by simp [padNums]; omega
theorem padNums_get (l : List Int) (n i : Nat) (h : i < l.length) : (padNums l n)[i]? = some (num (l.getD i 0)) := by
  simp [padNums, List.getElem?_append, h]
theorem padNums_one (l : List Int) (n : Nat) : (padNums l n).all (·.oneCell') = true := by
  refine Array.all_eq_true_iff_forall_mem.2 (fun v hv => ?_)
  simp only [padNums, List.mem_toArray, List.mem_append, List.mem_map, List.mem_replicate] at hv
  rcases hv with ⟨x, _, rfl⟩ | ⟨_, rfl⟩ <;> rfl
theorem padNums_set (l : List Int) (n : Nat) (x : Int) (h : l.length < n) : (padNums l n).setIfInBounds l.length (num x) = padNums (l ++ [x]) n := by
  apply Array.toList_inj.1
  simp only [padNums, Array.toList_setIfInBounds, List.map_append, List.map_cons, List.map_nil, List.length_append, List.length_cons, List.length_nil]
  obtain ⟨k, hk⟩ : ∃ k, n - l.length = k + 1 := ⟨n - l.length - 1, by omega⟩
  have h2 : n - (l.length + (0 + 1)) = k := by omega
  rw [hk, h2, List.set_append, if_neg (by simp), List.length_map, Nat.sub_self, List.replicate_succ, List.set_cons_zero, List.append_assoc]
  rfl
/-- What stands at the head of a round. -/
def SpRel (w : World) (bs : List UInt8) (t : Nat) (wr : World) : Prop := Whole wr w.heap.size 236 (padNums (ws bs t) 64) ∧ Fr (fun _ => False) w wr
theorem SpRel.drew {w wr : World} {bs : List UInt8} {t : Nat} (h : SpRel w bs t wr) (n : Nat) : SpRel w bs t (wr.drewN n) := ⟨h.1, h.2.drewN n⟩
theorem SpRel.put {w wr : World} {bs : List UInt8} {t : Nat} (h : SpRel w bs t wr) (ht : t < 64) {x : Int} (hx : x = if t < 16 then be4 bs t else nextW (ws bs t) t) : SpRel w bs (t + 1) (wr.setCell ⟨w.heap.size, t, none⟩ (num x)) := by
  subst hx
  refine ⟨?_, h.2.setCell (fun e => absurd e (Nat.lt_irrefl _)) _⟩
  have := h.1.set t (num (if t < 16 then be4 bs t else nextW (ws bs t) t))
  have e := padNums_set (ws bs t) 64 (if t < 16 then be4 bs t else nextW (ws bs t) t) (by rw [ws_length]; exact ht)
  rw [ws_length] at e
  rw [e] at this
  exact this
theorem padNums_zero (l : List Int) (n i : Nat) (h : l.length ≤ i) (h2 : i < n) : (padNums l n)[i]? = some (num 0) := by
  simp only [padNums, List.getElem?_toArray]
  rw [List.getElem?_append_right (by simpa using h), List.getElem?_replicate, if_pos (by simp; omega)]
theorem SpRel.zero {w wr : World} {bs : List UInt8} {t : Nat} (h : SpRel w bs t wr) (ht : t < 64) : wr.cell? ⟨w.heap.size, t, none⟩ = some (.int .u32 0) := by
  rw [h.1.cell, padNums_zero _ _ _ (by rw [ws_length]; exact Nat.le_refl _) ht]
  rfl
theorem byteI_bound (b : List UInt8) (i : Nat) : 0 ≤ byteI b i ∧ byteI b i ≤ 255 := by
  have := (b.getD i 0).toNat_lt
  unfold byteI
  omega
theorem or_add (a b : Int) (n : Nat) (hn : n ≤ 24) (ha : 0 ≤ a) (hb0 : 0 ≤ b) (hb : b < 2 ^ n) (hs : a * 2 ^ n + b < 4294967296) : bits .or .u32 (a * 2 ^ n) b = a * 2 ^ n + b := by
  obtain ⟨m, rfl⟩ := Int.eq_ofNat_of_zero_le ha
  obtain ⟨k, rfl⟩ := Int.eq_ofNat_of_zero_le hb0
  have e : ((m : Int) * 2 ^ n) = ((m * 2 ^ n : Nat) : Int) := by push_cast; rfl
  have hk : k < 2 ^ n := by exact_mod_cast hb
  rw [e] at hs ⊢
  rw [u32_or_nat _ _ (by omega) (by omega), ← Nat.shiftLeft_eq, ← Nat.shiftLeft_add_eq_or_of_lt hk]
  push_cast
  rfl
theorem or4 (b0 b1 b2 b3 : Int) (h0 : 0 ≤ b0 ∧ b0 ≤ 255) (h1 : 0 ≤ b1 ∧ b1 ≤ 255) (h2 : 0 ≤ b2 ∧ b2 ≤ 255) (h3 : 0 ≤ b3 ∧ b3 ≤ 255) :
    bits .or .u32 (bits .or .u32 (bits .or .u32 (b0 * 16777216) (b1 * 65536)) (b2 * 256)) b3 = (b0 * 256 + b1) * 65536 + b2 * 256 + b3 := by
  have e1 := or_add b0 (b1 * 65536) 24 (by omega) (by omega) (by omega) (by omega) (by omega)
  have e2 := or_add (b0 * 256 + b1) (b2 * 256) 16 (by omega) (by omega) (by omega) (by omega) (by omega)
  have e3 := or_add ((b0 * 256 + b1) * 256 + b2) b3 8 (by omega) (by omega) (by omega) (by omega) (by omega)
  have p24 : (2 : Int) ^ 24 = 16777216 := by decide
  have p16 : (2 : Int) ^ 16 = 65536 := by decide
  have p8 : (2 : Int) ^ 8 = 256 := by decide
  rw [p24] at e1
  rw [p16] at e2
  rw [p8] at e3
  rw [e1]
  have f1 : b0 * 16777216 + b1 * 65536 = (b0 * 256 + b1) * 65536 := by omega
  rw [f1, e2]
  have f2 : (b0 * 256 + b1) * 65536 + b2 * 256 = ((b0 * 256 + b1) * 256 + b2) * 256 := by omega
  rw [f2, e3]
theorem SpRel.cell {w wr : World} {bs : List UInt8} {t : Nat} (h : SpRel w bs t wr) (i : Nat) (hi : i < t) : wr.cell? ⟨w.heap.size, i, none⟩ = some (.int .u32 ((ws bs t).getD i 0)) := by
  rw [h.1.cell, padNums_get _ _ _ (by rw [ws_length]; exact hi)]
  rfl
set_option maxHeartbeats 1600000 in
set_option maxRecDepth 20000 in
theorem Sspread_any (bk off cap : Nat) (bs : List UInt8) (w : World) (hlen : bs.length = 64) (hl : ∀ i, i < 64 → w.cell? ⟨bk, off + i, none⟩ = some (.int .u8 (byteI bs i))) :
    Calls Tryz.prog 140 #[.slice (some ⟨bk, off, none⟩) 64 cap] w fun e w' => e = .returned (.agg (padNums (ws bs 64) 64)) ∧ Below w.heap.size w w' := by
  have HL := Lib.hid hl
  clear hl
  go_enter Tryz.func140, Tryz.ntmps140
  go_wp2
  go_loopw [9] (fun i wr => ∃ t : Nat, t ≤ 16 ∧ i = .int .i64 t ∧ SpRel w bs t wr) (fun i _ => 16 - (intOf i).toNat)
  case atStart => exact ⟨0, by omega, rfl, Whole.new w 236 (padNums [] 64), (Fr.refl _ w).alloc _⟩
  case round =>
    obtain ⟨t, ht, rfl, hr⟩ := hrel
    by_cases hlt : t < 16
    · have c0 := hr.2.cell (HL.out (4 * t) (by omega)) (fun e => e)
      have c1 := hr.2.cell (HL.out (4 * t + 1) (by omega)) (fun e => e)
      have c2 := hr.2.cell (HL.out (4 * t + 2) (by omega)) (fun e => e)
      have c3 := hr.2.cell (HL.out (4 * t + 3) (by omega)) (fun e => e)
      have c4 := hr.zero (show t < 64 by omega)
      have c5 := hr.1.frozen t
      have hb0 := byteI_bound bs (4 * t)
      have hb1 := byteI_bound bs (4 * t + 1)
      have hb2 := byteI_bound bs (4 * t + 2)
      have hb3 := byteI_bound bs (4 * t + 3)
      have hx : ∃ x, x = be4 bs t := ⟨_, rfl⟩
      unfold be4 at hx
      obtain ⟨b0, e0⟩ : ∃ x, byteI bs (4 * t) = x := ⟨_, rfl⟩
      obtain ⟨b1, e1⟩ : ∃ x, byteI bs (4 * t + 1) = x := ⟨_, rfl⟩
      obtain ⟨b2, e2⟩ : ∃ x, byteI bs (4 * t + 2) = x := ⟨_, rfl⟩
      obtain ⟨b3, e3⟩ : ∃ x, byteI bs (4 * t + 3) = x := ⟨_, rfl⟩
      have HE := Lib.hid (show be4 bs t = (b0 * 256 + b1) * 65536 + b2 * 256 + b3 by unfold be4; rw [e0, e1, e2, e3])
      rw [e0] at c0 hb0
      rw [e1] at c1 hb1
      rw [e2] at c2 hb2
      rw [e3] at c3 hb3
      clear hx e0 e1 e2 e3
      obtain ⟨g00, g01⟩ := hb0
      obtain ⟨g10, g11⟩ := hb1
      obtain ⟨g20, g21⟩ := hb2
      obtain ⟨g30, g31⟩ := hb3
      have HO := Lib.hid (or4 b0 b1 b2 b3 ⟨g00, g01⟩ ⟨g10, g11⟩ ⟨g20, g21⟩ ⟨g30, g31⟩)
      have HR := Lib.hid hr
      clear hr
      go_wp2_with fail
      go_region
      go_wp2_with fail
      go_roundw
      case rel => exact ⟨t + 1, by omega, by go_num, by rw [HO.out, ← HE.out]; exact (SpRel.put (HR.out.drew 1) (by omega) (by rw [if_pos hlt]))⟩
      case measure => simp [intOf]; omega
    · obtain rfl : t = 16 := by omega
      go_wp2_with fail
      have e16 : ((16 : Nat) : Int) = 16 := rfl
      simp only [e16]
      clear e16
      go_loopw [4] (fun i wr => ∃ t : Nat, 16 ≤ t ∧ t ≤ 64 ∧ i = .int .i64 t ∧ SpRel w bs t wr) (fun i _ => 64 - (intOf i).toNat)
      case atStart => exact ⟨16, by omega, by omega, rfl, hr⟩
      case round =>
        clear hr ht hlt
        obtain ⟨t, ht0, ht, rfl, hr⟩ := hrel
        by_cases hlt : t < 64
        · have c1 := hr.cell (t - 15) (by omega)
          have c2 := hr.cell (t - 2) (by omega)
          have c3 := hr.cell (t - 16) (by omega)
          have c4 := hr.cell (t - 7) (by omega)
          have c5 := hr.zero (show t < 64 by omega)
          have c6 := hr.1.frozen t
          have HN := Lib.hid (show nextW (ws bs t) t = _ from rfl)
          unfold nextW at HN
          obtain ⟨x15, e1⟩ : ∃ x, (ws bs t).getD (t - 15) 0 = x := ⟨_, rfl⟩
          obtain ⟨x2, e2⟩ : ∃ x, (ws bs t).getD (t - 2) 0 = x := ⟨_, rfl⟩
          obtain ⟨x16, e3⟩ : ∃ x, (ws bs t).getD (t - 16) 0 = x := ⟨_, rfl⟩
          obtain ⟨x7, e4⟩ : ∃ x, (ws bs t).getD (t - 7) 0 = x := ⟨_, rfl⟩
          have HE := Lib.hid (show nextW (ws bs t) t = (x16 + sig0 x15 + x7 + sig1 x2) % 4294967296 by unfold nextW; rw [e1, e2, e3, e4])
          rw [e1] at c1
          rw [e2] at c2
          rw [e3] at c3
          rw [e4] at c4
          clear e1 e2 e3 e4 HN
          have HR := Lib.hid hr
          clear hr
          go_wp2_with fail
          go_region
          go_wp2_with (go_at_call 158; first
            | (refine (Sright_any x15 7 (by decide) (by decide) _).mono ?_; rintro e w' ⟨rfl, rfl⟩)
            | (refine (Sright_any x15 18 (by decide) (by decide) _).mono ?_; rintro e w' ⟨rfl, rfl⟩)
            | (refine (Sright_any x2 17 (by decide) (by decide) _).mono ?_; rintro e w' ⟨rfl, rfl⟩)
            | (refine (Sright_any x2 19 (by decide) (by decide) _).mono ?_; rintro e w' ⟨rfl, rfl⟩))
          go_region
          go_wp2_with fail
          go_roundw
          case rel => exact ⟨t + 1, by omega, by omega, by go_num, (SpRel.put (HR.out.drew 2) (by omega) (by rw [if_neg (by omega), HE.out]; rfl))⟩
          case measure => simp [intOf]; omega
        · obtain rfl : t = 64 := by omega
          go_wp2_with (first
            | (refine wpList_load_row rfl 236 _ rfl _ rfl 236 _ _ _ hr.1 Tryz.underlying236 rfl (by rw [padNums_size _ _ (by rw [ws_length]; exact Nat.le_refl _)]; kernel_rfl) ?_)
            | (refine wpList_store_at rfl 236 _ _ rfl w.heap.size 0 236 _ _ rfl rfl hr.1 (by rw [Nat.zero_add]; exact Nat.le_refl _) (by rw [padNums_size _ _ (by rw [ws_length]; exact Nat.le_refl _)]; kernel_rfl) (padNums_one _ _) ?_; intro w2 hw2 hf2))
          rw [laidAt_all _ _ rfl] at hw2
          refine bodyPost_ret (v := .agg (padNums (ws bs 64) 64)) (results_cell_row (p := 2) rfl _ _ _ _ _ _ _ rfl hw2 Tryz.underlying236 rfl (by rw [padNums_size _ _ (by rw [ws_length]; exact Nat.le_refl _)]; kernel_rfl)) rfl ?_
          exact ⟨rfl, (hr.2.trans hf2 (fun i hi e => by omega)).below (fun _ _ e => e)⟩
end Go.Proofs.YtkaeoflgnnlbeaaGreatDoor
/- What is proved: what the walks of this seat need of layers below, merged out of the texts Shm (of each just what is needed). Conditions: each theorem names its own. -/
set_option maxRecDepth 100000
/- What is proved: what the program's 64 turns (mixed) make of a state and a block's numbers. Conditions: the table of constants holds what start-up lays. -/
namespace Go.Proofs.YtkaeoflgnnlbeaaGreatDoor
open Go.RowKit
set_option linter.unusedVariables false
/-- The constants. -/
def kt : List Int := [1116352408, 1899447441, 3049323471, 3921009573, 961987163, 1508970993, 2453635748, 2870763221, 3624381080, 310598401, 607225278, 1426881987, 1925078388, 2162078206, 2614888103, 3248222580, 3835390401, 4022224774, 264347078, 604807628, 770255983, 1249150122, 1555081692, 1996064986, 2554220882, 2821834349, 2952996808, 3210313671, 3336571891, 3584528711, 113926993, 338241895, 666307205, 773529912, 1294757372, 1396182291, 1695183700, 1986661051, 2177026350, 2456956037, 2730485921, 2820302411, 3259730800, 3345764771, 3516065817, 3600352804, 4094571909, 275423344, 430227734, 506948616, 659060556, 883997877, 958139571, 1322822218, 1537002063, 1747873779, 1955562222, 2024104815, 2227730452, 2361852424, 2428436474, 2756734187, 3204031479, 3329325298]
/-- The table lies in the program's variable. -/
def Tab (w : World) : Prop := ∀ i, i < 64 → w.cell? ⟨0, i, none⟩ = some (.int .u32 (kt.getD i 0))
theorem Tab.lt {w : World} (h : Tab w) : 0 < w.heap.size := World.block_lt_of_cell? w ⟨0, 0, none⟩ (h 0 (by decide))
theorem Tab.fr {S : Nat → Prop} {w w' : World} (h : Tab w) (f : Fr S w w') (hn : ¬ S 0) : Tab w' := fun i hi => f.cell (h i hi) hn
/-- A state's eight numbers. -/
structure S8 where
  a : Int
  b : Int
  c : Int
  d : Int
  e : Int
  f : Int
  g : Int
  h : Int
def S8.vals (s : S8) : Array Value := #[.int .u32 s.a, .int .u32 s.b, .int .u32 s.c, .int .u32 s.d, .int .u32 s.e, .int .u32 s.f, .int .u32 s.g, .int .u32 s.h]
def chF (e f g : Int) : Int := bits .xor .u32 (bits .and .u32 e f) (bits .and .u32 (bits .xor .u32 4294967295 e) g)
def maF (a b c : Int) : Int := bits .xor .u32 (bits .xor .u32 (bits .and .u32 a b) (bits .and .u32 a c)) (bits .and .u32 b c)
def t1F (s : S8) (k w : Int) : Int := (s.h + rot3 s.e 6 11 25 + chF s.e s.f s.g + k + w) % 4294967296
def t2F (s : S8) : Int := (rot3 s.a 2 13 22 + maF s.a s.b s.c) % 4294967296
/-- One turn. -/
def rnd (s : S8) (k w : Int) : S8 :=
  ⟨(t1F s k w + t2F s) % 4294967296, s.a, s.b, s.c, (s.d + t1F s k w) % 4294967296, s.e, s.f, s.g⟩
/-- t turns. -/
def rnds (s : S8) (W : List Int) : Nat → S8
  | 0 => s
  | t + 1 => rnd (rnds s W t) (kt.getD t 0) (W.getD t 0)
def MxRel (w : World) (W : List Int) (wr : World) : Prop := Whole wr (w.heap.size + 1) 236 (padNums W 64) ∧ Whole wr (w.heap.size + 1 + 1) 147 (S8.vals ⟨0, 0, 0, 0, 0, 0, 0, 0⟩) ∧ Fr (fun _ => False) w wr
theorem MxRel.drew {w wr : World} {W : List Int} (h : MxRel w W wr) (n : Nat) : MxRel w W (wr.drewN n) := ⟨h.1, h.2.1, h.2.2.drewN n⟩
theorem S8.one (s : S8) : s.vals.all (·.oneCell') = true := by simp [S8.vals, Value.oneCell']
theorem S8.laid {w : World} {g : Nat} {t : TypeId} {s q : S8} (h : Whole w g t (laidAt s.vals 0 q.vals)) : Whole w g t q.vals := by
  rwa [laidAt_all s.vals q.vals (by rfl)] at h
theorem S8.size (s : S8) : s.vals.size = 8 := rfl
set_option maxHeartbeats 1600000 in
theorem Smixed_any (s : S8) (W : List Int) (w : World) (hlen : W.length = 64) (ht : Tab w) :
    Calls Tryz.prog 139 #[.agg s.vals, .agg (padNums W 64)] w fun e w' => e = .returned (.agg (rnds s W 64).vals) ∧ Below w.heap.size w w' := by
  obtain ⟨w1, hw1⟩ : ∃ w1, (((w.alloc (.cells s.vals 147)).alloc (.cells (padNums W 64) 236)).alloc (.cells (S8.vals ⟨0, 0, 0, 0, 0, 0, 0, 0⟩) 147)) = w1 := ⟨_, rfl⟩
  have hF : Fr (fun _ => False) w w1 := by subst hw1; exact (((Fr.refl _ w).alloc _).alloc _).alloc _
  have hS : Whole w1 w.heap.size 147 s.vals := by
    subst hw1
    exact ((Whole.new w 147 s.vals).fr ((Fr.refl (fun _ => False) _).alloc _) (fun e => e)).fr ((Fr.refl (fun _ => False) _).alloc _) (fun e => e)
  have hR : MxRel w W w1 := by
    refine ⟨?_, ?_, hF⟩
    · subst hw1
      have h := Whole.new (w.alloc (.cells s.vals 147)) 236 (padNums W 64)
      have e : (w.alloc (.cells s.vals 147)).heap.size = w.heap.size + 1 := by simp
      rw [e] at h
      exact h.fr ((Fr.refl (fun _ => False) _).alloc _) (fun e => e)
    · subst hw1
      have h := Whole.new ((w.alloc (.cells s.vals 147)).alloc (.cells (padNums W 64) 236)) 147 (S8.vals ⟨0, 0, 0, 0, 0, 0, 0, 0⟩)
      have e : ((w.alloc (.cells s.vals 147)).alloc (.cells (padNums W 64) 236)).heap.size = w.heap.size + 1 + 1 := by simp
      rw [e] at h
      exact h
  have s0 := hS.cell 0
  have s1 := hS.cell 1
  have s2 := hS.cell 2
  have s3 := hS.cell 3
  have s4 := hS.cell 4
  have s5 := hS.cell 5
  have s6 := hS.cell 6
  have s7 := hS.cell 7
  simp [S8.vals] at s0 s1 s2 s3 s4 s5 s6 s7
  clear hS
  unfold S8.vals at hw1
  obtain ⟨cw, hcw⟩ : ∃ cw, padNums W 64 = cw := ⟨_, rfl⟩
  rw [hcw] at hw1 ⊢
  obtain ⟨sv, hsv⟩ : ∃ sv, s.vals = sv := ⟨_, rfl⟩
  have hsv2 := hsv
  unfold S8.vals at hsv2
  rw [hsv2] at hw1
  rw [hsv]
  clear hsv2
  have HT := Lib.hid ht
  clear ht
  go_enter Tryz.func139, Tryz.ntmps139
  go_wp2
  clear hw1
  go_quiet (fail)
  go_wp2_with fail
  go_quiet (fail)
  go_wp2_with fail
  clear s0 s1 s2 s3 s4 s5 s6 s7 hF
  go_loopw [5, 6, 7, 8, 9, 10, 11, 12, 32] (fun ra rb rc rd re rf rg rh i wr => ∃ (t : Nat) (q : S8), t ≤ 64 ∧ rnds s W t = q ∧ i = .int .i64 t ∧ ra = .int .u32 q.a ∧ rb = .int .u32 q.b ∧ rc = .int .u32 q.c ∧ rd = .int .u32 q.d ∧ re = .int .u32 q.e ∧ rf = .int .u32 q.f ∧ rg = .int .u32 q.g ∧ rh = .int .u32 q.h ∧ MxRel w W wr) (fun _ _ _ _ _ _ _ _ i _ => 64 - (intOf i).toNat)
  case atStart => exact ⟨0, s, by omega, rfl, rfl, rfl, rfl, rfl, rfl, rfl, rfl, rfl, rfl, (hR.drew _).drew _⟩
  case round =>
    clear hR
    obtain ⟨t, q, ht, hq, rfl, rfl, rfl, rfl, rfl, rfl, rfl, rfl, rfl, hr⟩ := hrel
    by_cases hlt : t < 64
    · have c1 : wr.cell? ⟨w.heap.size + 1, t, none⟩ = some (.int .u32 (W.getD t 0)) := by
        rw [hr.1.cell, padNums_get _ _ _ (by omega)]
        rfl
      have c2 := (HT.out.fr hr.2.2 (fun e => e)) t hlt
      obtain ⟨qa, qb, qc, qd, qe, qf, qg, qh⟩ := q
      obtain ⟨kk, hkk⟩ : ∃ k, kt.getD t 0 = k := ⟨_, rfl⟩
      obtain ⟨ww, hww⟩ : ∃ k, W.getD t 0 = k := ⟨_, rfl⟩
      rw [hkk] at c2
      rw [hww] at c1
      have HN := Lib.hid (show rnds s W (t + 1) = rnd ⟨qa, qb, qc, qd, qe, qf, qg, qh⟩ kk ww by rw [← hq, ← hkk, ← hww]; rfl)
      have HR := Lib.hid hr
      clear hr hq hkk hww
      go_wp2_with fail
      go_quiet (first
        | (go_at_call 157; exact Calls.quiet_of_same ((Sturned_any qe 6 11 25 (by decide) (by decide) (by decide) _).mono fun _ _ hh => ⟨hh.1, hh.2.symm⟩)))
      go_wp2_with (go_at_call 157; refine (Sturned_any qa 2 13 22 (by decide) (by decide) (by decide) _).mono ?_; rintro e w' ⟨rfl, rfl⟩)
      go_roundw
      case rel =>
        exact ⟨t + 1, _, by omega, HN.out, by go_num, rfl, rfl, rfl, rfl, rfl, rfl, rfl, rfl, HR.out.drew _⟩
      case measure => simp [intOf]; omega
    · obtain rfl : t = 64 := by omega
      obtain ⟨qa, qb, qc, qd, qe, qf, qg, qh⟩ := q
      have HQ := Lib.hid hq
      clear hq
      go_wp2_with (refine wpList_store_at rfl 147 _ _ rfl (w.heap.size + 1 + 1) 0 147 _ (S8.vals ⟨qa, qb, qc, qd, qe, qf, qg, qh⟩) rfl rfl hr.2.1 (show 0 + 8 ≤ 8 from Nat.le_refl 8) (show (Tryz.prog.info? 147).map (·.size) = some 8 by kernel_rfl) (S8.one _) ?_; intro w2 hw2 hf2)
      replace hw2 := S8.laid hw2
      rw [HQ.out]
      refine bodyPost_ret (v := .agg (S8.vals ⟨qa, qb, qc, qd, qe, qf, qg, qh⟩)) (results_cell_row (p := 4) rfl _ _ _ _ _ _ _ rfl hw2 Tryz.underlying147 rfl (show (Tryz.prog.info? 147).map (·.size) = some 8 by kernel_rfl)) rfl ?_
      exact ⟨rfl, (hr.2.2.trans hf2 (fun i hi e => by omega)).below (fun _ _ e => e)⟩
end Go.Proofs.YtkaeoflgnnlbeaaGreatDoor
/- What is proved: what the walks of this seat need of layers below, merged out of the texts Shb (of each just what is needed). Conditions: each theorem names its own. -/
set_option maxRecDepth 100000
/- What is proved: what the program's Block makes of a state and of bytes; what Start answers. Conditions: the table of constants holds what start-up lays; the bytes lie where they are said to lie. -/
namespace Go.Proofs.YtkaeoflgnnlbeaaGreatDoor
open Go.RowKit
set_option linter.unusedVariables false
def S8.add (s q : S8) : S8 := ⟨(s.a + q.a) % 4294967296, (s.b + q.b) % 4294967296, (s.c + q.c) % 4294967296, (s.d + q.d) % 4294967296, (s.e + q.e) % 4294967296, (s.f + q.f) % 4294967296, (s.g + q.g) % 4294967296, (s.h + q.h) % 4294967296⟩
/-- What a state becomes by 64 bytes. -/
def blk (s : S8) (b : List UInt8) : S8 := s.add (rnds s (ws b 64) 64)
def S8.zero : S8 := ⟨0, 0, 0, 0, 0, 0, 0, 0⟩
/-- The start. -/
def S8.start : S8 := ⟨1779033703, 3144134277, 1013904242, 2773480762, 1359893119, 2600822924, 528734635, 1541459225⟩
theorem size8 : (Tryz.prog.info? 147).map (·.size) = some 8 := by kernel_rfl
theorem SStart_any (w : World) : Calls Tryz.prog 111 #[] w fun e w' => e = .returned (.agg S8.start.vals) ∧ Below w.heap.size w w' := by
  have hW := Whole.new w 147 S8.zero.vals
  have hF : Fr (fun _ => False) w (w.alloc (.cells S8.zero.vals 147)) := (Fr.refl _ w).alloc _
  have HW := Lib.hid hW
  have HF := Lib.hid hF
  clear hW hF
  go_enter Tryz.func111, Tryz.ntmps111
  go_wp2_with (refine wpList_store_at rfl 147 _ _ rfl w.heap.size 0 147 _ S8.start.vals rfl rfl HW.out (show 0 + 8 ≤ 8 from Nat.le_refl 8) size8 (S8.one _) ?_; intro w2 hw2 hf2)
  replace hw2 := S8.laid hw2
  refine bodyPost_ret (v := .agg S8.start.vals) (results_cell_row (p := 0) rfl _ _ _ _ _ _ _ rfl hw2 Tryz.underlying147 rfl size8) rfl ?_
  exact ⟨rfl, (HF.out.trans hf2 (fun i hi e => by omega)).below (fun _ _ e => e)⟩
theorem S8.set0 (s : S8) (x : Int) : s.vals.setIfInBounds 0 (.int .u32 x) = S8.vals ⟨x, s.b, s.c, s.d, s.e, s.f, s.g, s.h⟩ := by simp [S8.vals]
theorem S8.set1 (s : S8) (x : Int) : s.vals.setIfInBounds 1 (.int .u32 x) = S8.vals ⟨s.a, x, s.c, s.d, s.e, s.f, s.g, s.h⟩ := by simp [S8.vals]
theorem S8.set2 (s : S8) (x : Int) : s.vals.setIfInBounds 2 (.int .u32 x) = S8.vals ⟨s.a, s.b, x, s.d, s.e, s.f, s.g, s.h⟩ := by simp [S8.vals]
theorem S8.set3 (s : S8) (x : Int) : s.vals.setIfInBounds 3 (.int .u32 x) = S8.vals ⟨s.a, s.b, s.c, x, s.e, s.f, s.g, s.h⟩ := by simp [S8.vals]
theorem S8.set4 (s : S8) (x : Int) : s.vals.setIfInBounds 4 (.int .u32 x) = S8.vals ⟨s.a, s.b, s.c, s.d, x, s.f, s.g, s.h⟩ := by simp [S8.vals]
theorem S8.set5 (s : S8) (x : Int) : s.vals.setIfInBounds 5 (.int .u32 x) = S8.vals ⟨s.a, s.b, s.c, s.d, s.e, x, s.g, s.h⟩ := by simp [S8.vals]
theorem S8.set6 (s : S8) (x : Int) : s.vals.setIfInBounds 6 (.int .u32 x) = S8.vals ⟨s.a, s.b, s.c, s.d, s.e, s.f, x, s.h⟩ := by simp [S8.vals]
theorem S8.set7 (s : S8) (x : Int) : s.vals.setIfInBounds 7 (.int .u32 x) = S8.vals ⟨s.a, s.b, s.c, s.d, s.e, s.f, s.g, x⟩ := by simp [S8.vals]
theorem S8.cells {w : World} {g : Nat} {s : S8} (h : Whole w g 147 s.vals) : w.cell? ⟨g, 0, none⟩ = some (.int .u32 s.a) ∧ w.cell? ⟨g, 1, none⟩ = some (.int .u32 s.b) ∧ w.cell? ⟨g, 2, none⟩ = some (.int .u32 s.c) ∧ w.cell? ⟨g, 3, none⟩ = some (.int .u32 s.d) ∧
    w.cell? ⟨g, 4, none⟩ = some (.int .u32 s.e) ∧ w.cell? ⟨g, 5, none⟩ = some (.int .u32 s.f) ∧ w.cell? ⟨g, 6, none⟩ = some (.int .u32 s.g) ∧ w.cell? ⟨g, 7, none⟩ = some (.int .u32 s.h) :=
  ⟨h.cell 0, h.cell 1, h.cell 2, h.cell 3, h.cell 4, h.cell 5, h.cell 6, h.cell 7⟩
set_option maxHeartbeats 1600000 in
theorem SBlock_ok (s : S8) (bk off cap : Nat) (bs : List UInt8) (w : World) (hlen : bs.length = 64) (hl : ∀ i, i < 64 → w.cell? ⟨bk, off + i, none⟩ = some (.int .u8 (byteI bs i))) (ht : Tab w) :
    Calls Tryz.prog 113 #[.agg s.vals, .slice (some ⟨bk, off, none⟩) 64 cap] w fun e w' => e = .returned (.tuple #[.agg (blk s bs).vals, .int .i64 0]) ∧ Below w.heap.size w w' := by
  obtain ⟨w1, hw1⟩ : ∃ w1, ((w.alloc (.cells s.vals 147)).alloc (.cells S8.zero.vals 147)) = w1 := ⟨_, rfl⟩
  have hF : Fr (fun _ => False) w w1 := by subst hw1; exact ((Fr.refl _ w).alloc _).alloc _
  have hW : Whole w1 (w.heap.size + 1) 147 S8.zero.vals := by
    subst hw1
    have h := Whole.new (w.alloc (.cells s.vals 147)) 147 S8.zero.vals
    have e : (w.alloc (.cells s.vals 147)).heap.size = w.heap.size + 1 := by simp
    rwa [e] at h
  have hS : Whole w1 w.heap.size 147 s.vals := by
    subst hw1
    exact (Whole.new w 147 s.vals).fr ((Fr.refl (fun _ => False) _).alloc _) (fun e => e)
  have HT := Lib.hid (ht.fr hF (fun e => e))
  have HB := Lib.hid (fun i (hi : i < 64) => hF.cell (hl i hi) (fun e => e))
  have HS := Lib.hid hS
  have HW := Lib.hid hW
  have HF := Lib.hid hF
  have hS0 := S8.cells hS
  clear ht hl hS hW hF
  unfold S8.zero S8.vals at hw1
  obtain ⟨sv, hsv⟩ : ∃ sv, s.vals = sv := ⟨_, rfl⟩
  have hsv2 := hsv
  unfold S8.vals at hsv2
  rw [hsv2] at hw1
  rw [hsv]
  clear hsv2
  have hsv3 := hsv
  unfold S8.vals at hsv3
  have hd : w.drew.heap = w.heap := rfl
  go_enter Tryz.func113, Tryz.ntmps113
  go_wp2_with fail
  clear hw1
  go_region_held3 (fun w' => w'.cell? ⟨w.heap.size, 0, none⟩ = some (.int .u32 s.a) ∧ w'.cell? ⟨w.heap.size, 1, none⟩ = some (.int .u32 s.b) ∧ w'.cell? ⟨w.heap.size, 2, none⟩ = some (.int .u32 s.c) ∧ w'.cell? ⟨w.heap.size, 3, none⟩ = some (.int .u32 s.d) ∧
    w'.cell? ⟨w.heap.size, 4, none⟩ = some (.int .u32 s.e) ∧ w'.cell? ⟨w.heap.size, 5, none⟩ = some (.int .u32 s.f) ∧ w'.cell? ⟨w.heap.size, 6, none⟩ = some (.int .u32 s.g) ∧ w'.cell? ⟨w.heap.size, 7, none⟩ = some (.int .u32 s.h)) (first
      | exact S8.cells (HS.out.fr ((Fr.refl (fun _ => False) w1).drew) (fun e => e))
      | exact S8.cells (HS.out.fr ((Fr.refl (fun _ => False) w1).drew.then_below b2) (fun e => e))
      | exact S8.cells (HS.out.fr (((Fr.refl (fun _ => False) w1).drew.then_below b2).then_below b3) (fun e => e))) (first
    | (go_at_call 140; refine (Sspread_any bk off cap bs w1.drew hlen (fun i hi => (HB.out i hi))).mono ?_; rintro e w2 ⟨rfl, b2⟩)
    | (go_at_call 139; rw [← hsv]; refine (Smixed_any s (ws bs 64) w2 (ws_length _ _) (HT.out.fr ((Fr.refl (fun _ => False) w1).drew.then_below b2) (fun e => e))).mono ?_; rintro e w3 ⟨rfl, b3⟩))
  have F3 : Fr (fun _ => False) w1 w3 := ((Fr.refl (fun _ => False) w1).drew.then_below b2).then_below b3
  have hs3 := HS.out.fr F3 (fun e => e)
  have hw3 := HW.out.fr F3 (fun e => e)
  have hF3 := HF.out.trans F3 (fun i hi e => e)
  obtain ⟨q, hq⟩ : ∃ q, rnds s (ws bs 64) 64 = q := ⟨_, rfl⟩
  rw [hq]
  have HQ := Lib.hid (show blk s bs = s.add q by unfold blk; rw [hq])
  clear hS0 F3 hq hsv3 hsv
  have f0 := hs3.frozen 0
  have f1 := hs3.frozen 1
  have f2 := hs3.frozen 2
  have f3 := hs3.frozen 3
  have f4 := hs3.frozen 4
  have f5 := hs3.frozen 5
  have f6 := hs3.frozen 6
  have f7 := hs3.frozen 7
  obtain ⟨c0, c1, c2, c3, c4, c5, c6, c7⟩ := S8.cells hs3
  have i0 : ∀ w : World, (Instr.index 147 (.agg q.vals) (.int .i64 0)).run Tryz.prog w = .ok (.int .u32 q.a) w := fun _ => by kernel_rfl
  have i1 : ∀ w : World, (Instr.index 147 (.agg q.vals) (.int .i64 1)).run Tryz.prog w = .ok (.int .u32 q.b) w := fun _ => by kernel_rfl
  have i2 : ∀ w : World, (Instr.index 147 (.agg q.vals) (.int .i64 2)).run Tryz.prog w = .ok (.int .u32 q.c) w := fun _ => by kernel_rfl
  have i3 : ∀ w : World, (Instr.index 147 (.agg q.vals) (.int .i64 3)).run Tryz.prog w = .ok (.int .u32 q.d) w := fun _ => by kernel_rfl
  have i4 : ∀ w : World, (Instr.index 147 (.agg q.vals) (.int .i64 4)).run Tryz.prog w = .ok (.int .u32 q.e) w := fun _ => by kernel_rfl
  have i5 : ∀ w : World, (Instr.index 147 (.agg q.vals) (.int .i64 5)).run Tryz.prog w = .ok (.int .u32 q.f) w := fun _ => by kernel_rfl
  have i6 : ∀ w : World, (Instr.index 147 (.agg q.vals) (.int .i64 6)).run Tryz.prog w = .ok (.int .u32 q.g) w := fun _ => by kernel_rfl
  have i7 : ∀ w : World, (Instr.index 147 (.agg q.vals) (.int .i64 7)).run Tryz.prog w = .ok (.int .u32 q.h) w := fun _ => by kernel_rfl
  obtain ⟨W4, hW4⟩ : ∃ W4, (((((((((w3.setCell ⟨w.heap.size, 0, none⟩ (.int .u32 ((s.a + q.a) % 4294967296))).setCell ⟨w.heap.size, 1, none⟩ (.int .u32 ((s.b + q.b) % 4294967296))).setCell ⟨w.heap.size, 2, none⟩ (.int .u32 ((s.c + q.c) % 4294967296))).setCell ⟨w.heap.size, 3, none⟩ (.int .u32 ((s.d + q.d) % 4294967296))).setCell ⟨w.heap.size, 4, none⟩ (.int .u32 ((s.e + q.e) % 4294967296))).setCell ⟨w.heap.size, 5, none⟩ (.int .u32 ((s.f + q.f) % 4294967296))).setCell ⟨w.heap.size, 6, none⟩ (.int .u32 ((s.g + q.g) % 4294967296))).setCell ⟨w.heap.size, 7, none⟩ (.int .u32 ((s.h + q.h) % 4294967296)))) = W4 := ⟨_, rfl⟩
  have hs4 : Whole W4 w.heap.size 147 (s.add q).vals := by
    subst hW4
    have h := hs3.set 0 (.int .u32 ((s.a + q.a) % 4294967296))
    rw [S8.set0] at h
    have h := h.set 1 (.int .u32 ((s.b + q.b) % 4294967296))
    rw [S8.set1] at h
    have h := h.set 2 (.int .u32 ((s.c + q.c) % 4294967296))
    rw [S8.set2] at h
    have h := h.set 3 (.int .u32 ((s.d + q.d) % 4294967296))
    rw [S8.set3] at h
    have h := h.set 4 (.int .u32 ((s.e + q.e) % 4294967296))
    rw [S8.set4] at h
    have h := h.set 5 (.int .u32 ((s.f + q.f) % 4294967296))
    rw [S8.set5] at h
    have h := h.set 6 (.int .u32 ((s.g + q.g) % 4294967296))
    rw [S8.set6] at h
    have h := h.set 7 (.int .u32 ((s.h + q.h) % 4294967296))
    rw [S8.set7] at h
    exact h
  have hF4 : Fr (fun _ => False) w W4 := by
    subst hW4
    exact (((((((hF3.setCell (p := ⟨w.heap.size, 0, none⟩) (fun e => absurd e (Nat.lt_irrefl _)) _).setCell (p := ⟨w.heap.size, 1, none⟩) (fun e => absurd e (Nat.lt_irrefl _)) _).setCell (p := ⟨w.heap.size, 2, none⟩) (fun e => absurd e (Nat.lt_irrefl _)) _).setCell (p := ⟨w.heap.size, 3, none⟩) (fun e => absurd e (Nat.lt_irrefl _)) _).setCell (p := ⟨w.heap.size, 4, none⟩) (fun e => absurd e (Nat.lt_irrefl _)) _).setCell (p := ⟨w.heap.size, 5, none⟩) (fun e => absurd e (Nat.lt_irrefl _)) _).setCell (p := ⟨w.heap.size, 6, none⟩) (fun e => absurd e (Nat.lt_irrefl _)) _).setCell (p := ⟨w.heap.size, 7, none⟩) (fun e => absurd e (Nat.lt_irrefl _)) _
  have hw4 : Whole W4 (w.heap.size + 1) 147 S8.zero.vals := by
    have hfr : Fr (fun k => k = w.heap.size) w3 W4 := by
      subst hW4
      exact ((((((((Fr.refl (fun k => k = w.heap.size) w3).setCell (p := ⟨w.heap.size, 0, none⟩) (fun _ => rfl) _).setCell (p := ⟨w.heap.size, 1, none⟩) (fun _ => rfl) _).setCell (p := ⟨w.heap.size, 2, none⟩) (fun _ => rfl) _).setCell (p := ⟨w.heap.size, 3, none⟩) (fun _ => rfl) _).setCell (p := ⟨w.heap.size, 4, none⟩) (fun _ => rfl) _).setCell (p := ⟨w.heap.size, 5, none⟩) (fun _ => rfl) _).setCell (p := ⟨w.heap.size, 6, none⟩) (fun _ => rfl) _).setCell (p := ⟨w.heap.size, 7, none⟩) (fun _ => rfl) _
    exact hw3.fr hfr (show ¬ (w.heap.size + 1 = w.heap.size) by omega)
  have HW4 := Lib.hid hW4
  clear hW4 hs3 hw3 hF3
  go_wp2_with fail
  refine wp_loop_rounds 9 ?_
  rw [rounds_succ]
  go_wp2_with fail
  rw [rounds_succ]
  go_wp2_with fail
  rw [rounds_succ]
  go_wp2_with fail
  rw [rounds_succ]
  go_wp2_with fail
  rw [rounds_succ]
  go_wp2_with fail
  rw [rounds_succ]
  go_wp2_with fail
  rw [rounds_succ]
  go_wp2_with fail
  rw [rounds_succ]
  go_wp2_with fail
  rw [HW4.out]
  clear c0 c1 c2 c3 c4 c5 c6 c7 f0 f1 f2 f3 f4 f5 f6 f7 i0 i1 i2 i3 i4 i5 i6 i7
  rw [rounds_succ]
  go_wp2_with (first
    | (refine wpList_load_row rfl 147 _ rfl _ rfl 147 _ _ _ hs4 Tryz.underlying147 rfl size8 ?_)
    | (refine wpList_store_at rfl 147 _ _ rfl (w.heap.size + 1) 0 147 _ (s.add q).vals rfl rfl hw4 (show 0 + 8 ≤ 8 from Nat.le_refl 8) size8 (S8.one _) ?_; intro w5 hw5 hf5))
  replace hw5 := S8.laid hw5
  rw [HQ.out]
  refine bodyPost_ret (v := .tuple #[.agg (s.add q).vals, .int .i64 0]) (results_cell_slot (p := 4) (u := 5) rfl _ _ _ _ _ _ rfl hw5 Tryz.underlying147 rfl size8) rfl ?_
  exact ⟨rfl, (hF4.trans hf5 (fun i hi e => by omega)).below (fun _ _ e => e)⟩
end Go.Proofs.YtkaeoflgnnlbeaaGreatDoor
/- What is proved: what the walks of this seat need of layers below, merged out of the texts Shp Shh (of each just what is needed). Conditions: each theorem names its own. -/
set_option maxRecDepth 100000
/- What is proved: what the program's Pad answers: a byte 128, noughts, eight bytes. Conditions: none. -/
namespace Go.Proofs.YtkaeoflgnnlbeaaGreatDoor
open Go.RowKit
set_option linter.unusedVariables false
/-- The last t bytes of a number, the highest first. -/
def tailB (m : Nat) : Nat → List UInt8
  | 0 => []
  | t + 1 => UInt8.ofNat (m / 256 ^ t % 256) :: tailB m t
theorem tailB_length (m t : Nat) : (tailB m t).length = t := by
  induction t with
  | zero => rfl
  | succ t ih => simp [tailB, ih]
def noughts (n : Nat) : Nat := (119 - n % 64) % 64
/-- What stands behind n bytes. -/
def padB (n : Nat) : List UInt8 := 128 :: (List.replicate (noughts n) 0 ++ tailB (8 * n % 18446744073709551616) 8)
theorem padB_length (n : Nat) : (padB n).length = noughts n + 9 := by simp [padB, tailB_length]
theorem noughts_lt (n : Nat) : noughts n < 64 := Nat.mod_lt _ (by decide)
/-- While it is filled. -/
def padC (k m t : Nat) : List UInt8 := 128 :: (List.replicate (k + (8 - t)) 0 ++ tailB m t)
theorem padC_length (k m t : Nat) (h : t ≤ 8) : (padC k m t).length = k + 9 := by simp [padC, tailB_length]; omega
theorem padC_end (n : Nat) : padC (noughts n) (8 * n % 18446744073709551616) 8 = padB n := rfl
theorem padC_set (k m t : Nat) (h : t < 8) : (bytesV (padC k m t)).toArray.setIfInBounds (k + 8 - t) (.int .u8 ((m / 256 ^ t % 256 : Nat) : Int)) = (bytesV (padC k m (t + 1))).toArray := by
  apply Array.toList_inj.1
  simp only [Array.toList_setIfInBounds]
  obtain ⟨j, hj⟩ : ∃ j, k + (8 - t) = j + 1 := ⟨k + (8 - t) - 1, by omega⟩
  have e1 : k + 8 - t = j + 1 := by omega
  have e2 : k + (8 - (t + 1)) = j := by omega
  have e3 : byteV (UInt8.ofNat (m / 256 ^ t % 256)) = .int .u8 ((m / 256 ^ t % 256 : Nat) : Int) := by
    unfold byteV
    rw [UInt8.toNat_ofNat_of_lt' (by show _ < 256; omega)]
  unfold padC
  rw [hj, e1, e2, tailB, List.replicate_succ']
  simp only [bytesV, List.map_cons, List.map_append, List.map_replicate, List.set_cons_succ, List.append_assoc, List.cons_append, List.nil_append]
  rw [List.set_append_right _ _ (by simp), List.length_replicate, Nat.sub_self, List.set_cons_zero, e3]
theorem info_u8S : (Tryz.prog.info? 5).map (fun i => (i.zero, i.size, i.bytes)) = some (some (.int .u8 0), 1, 1) := by kernel_rfl
theorem info_partsS {P : Program} {t : TypeId} {z : Value} {s b : Nat} (h : (P.info? t).map (fun i => (i.zero, i.size, i.bytes)) = some (some z, s, b)) : ∃ i, P.info? t = some i ∧ i.zero = some z ∧ i.size = s ∧ i.bytes = b := by
  cases hq : P.info? t with
  | none => simp [hq] at h
  | some i =>
    simp [hq] at h
    exact ⟨i, rfl, h.1, h.2.1, h.2.2⟩
/-- A new slice of noughts. -/
theorem make_bytes (w : World) (k : Nat) (hk : k < 64) : (Instr.makeSlice 25 (.int .u64 (1 + k + 8)) (.int .u64 (1 + k + 8))).run Tryz.prog w =
    .ok (.slice (some ⟨w.heap.size, 0, none⟩) (k + 9) (k + 9)) (w.alloc (.cells (bytesV (List.replicate (k + 9) 0)).toArray 5)) := by
  obtain ⟨i0, hi, hz0, hz1, hz2⟩ := info_partsS info_u8S
  have h := run_make (P := Tryz.prog) w 25 5 i0 (.int .u8 0) Tryz.underlying25 hi hz0 .u64 .u64 (1 + k + 8) (1 + k + 8) (by omega) (by omega) (by rw [hz2]; omega) (by omega)
  have e : ((1 : Int) + k + 8).toNat = k + 9 := by omega
  rw [e, hz1, Nat.mul_one] at h
  have e2 : madeCells (Value.int .u8 0).cells (k + 9) = (bytesV (List.replicate (k + 9) 0)).toArray := by
    apply Array.toList_inj.1
    show (madeCells #[Value.int .u8 0] (k + 9)).toList = _
    rw [toList_madeCells_one]
    simp [bytesV, byteV]
  rw [e2] at h
  exact h
theorem shr_tail (m : Int) (M t : Nat) (h : (M : Int) = m) : m / 2 ^ (8 * t) % 256 = ((M / 256 ^ t % 256 : Nat) : Int) := by
  rw [← h]
  have e : (256 : Nat) ^ t = 2 ^ (8 * t) := by rw [Nat.pow_mul]
  rw [e, Int.natCast_emod, Int.natCast_ediv, Int.natCast_pow]
  rfl
def PadRel (w : World) (k M t : Nat) (wr : World) : Prop := Whole wr w.heap.size 5 (bytesV (padC k M t)).toArray ∧ Fr (fun _ => False) w wr
theorem PadRel.put {w wr : World} {k M t : Nat} (h : PadRel w k M t wr) (ht : t < 8) : PadRel w k M (t + 1) (wr.setCell ⟨w.heap.size, k + 8 - t, none⟩ (.int .u8 ((M / 256 ^ t % 256 : Nat) : Int))) := by
  refine ⟨?_, h.2.setCell (fun e => absurd e (Nat.lt_irrefl _)) _⟩
  have := h.1.set (k + 8 - t) (.int .u8 ((M / 256 ^ t % 256 : Nat) : Int))
  rwa [padC_set k M t ht] at this
theorem PadRel.cell {w wr : World} {k M t : Nat} (h : PadRel w k M t wr) (ht : t < 8) : ∃ u, wr.cell? ⟨w.heap.size, k + 8 - t, none⟩ = some u := by
  rw [h.1.cell]
  have : k + 8 - t < (bytesV (padC k M t)).toArray.size := by rw [List.size_toArray, bytesV_length, padC_length _ _ _ (by omega)]; omega
  exact ⟨_, Array.getElem?_eq_getElem this⟩
set_option maxHeartbeats 800000 in
theorem SPad_any (n : Nat) (hn : n < 18446744073709551616) (w : World) :
    Calls Tryz.prog 114 #[.int .u64 n] w fun e w' => ∃ g, e = .returned (.slice (some ⟨g, 0, none⟩) (padB n).length (padB n).length) ∧ w.heap.size ≤ g ∧ Whole w' g 5 (bytesV (padB n)).toArray ∧ Below w.heap.size w w' := by
  obtain ⟨N, hN⟩ : ∃ N : Int, (n : Int) = N := ⟨_, rfl⟩
  rw [hN]
  obtain ⟨k, hk⟩ : ∃ k, noughts n = k := ⟨_, rfl⟩
  have hk64 : k < 64 := by rw [← hk]; exact noughts_lt n
  obtain ⟨x, hx⟩ : ∃ x : Int, (55 - N) % 18446744073709551616 = x := ⟨_, rfl⟩
  have e0 : IntKind.u64.wrap (55 - N) = x := by rw [IntKind.wrap_u64]; exact hx
  have hx0 : 0 ≤ x := by omega
  have hx1 : x < 18446744073709551616 := by omega
  have e1 : x % 64 = (k : Int) := by
    rw [← hk, ← hx, ← hN]
    unfold noughts
    omega
  obtain ⟨M, hM⟩ : ∃ M, 8 * n % 18446744073709551616 = M := ⟨_, rfl⟩
  obtain ⟨m, hm⟩ : ∃ m : Int, (M : Int) = m := ⟨_, rfl⟩
  have e2 : IntKind.u64.wrap (8 * N) = m := by rw [IntKind.wrap_u64, ← hN, ← hm, ← hM]; omega
  have hm0 : 0 ≤ m := by omega
  have hm1 : m < 18446744073709551616 := by omega
  have HE := Lib.hid (show padC k M 8 = padB n by rw [← hk, ← hM]; exact padC_end n)
  have HL := Lib.hid (show (padB n).length = k + 9 by rw [padB_length, hk])
  clear hN hk hM hx
  have HM := Lib.hid hm
  clear hm
  have hmk := fun w => make_bytes w k hk64
  have hW := Whole.new w 5 (bytesV (List.replicate (k + 9) 0)).toArray
  have hP : PadRel w k M 0 (w.alloc (.cells ((bytesV (List.replicate (k + 9) 0)).toArray.setIfInBounds 0 (.int .u8 128)) 5)) := by
    have e : (bytesV (List.replicate (k + 9) 0)).toArray.setIfInBounds 0 (.int .u8 128) = (bytesV (padC k M 0)).toArray := by
      apply Array.toList_inj.1
      simp only [Array.toList_setIfInBounds]
      rw [List.replicate_succ]
      simp only [bytesV, List.map_cons, List.set_cons_zero, padC, tailB, List.append_nil]
      rfl
    rw [e]
    exact ⟨Whole.new w 5 _, (Fr.refl _ w).alloc _⟩
  have c0 : ∃ u, (w.alloc (.cells (bytesV (List.replicate (k + 9) 0)).toArray 5)).cell? ⟨w.heap.size, 0, none⟩ = some u := by
    rw [hW.cell, List.replicate_succ]
    exact ⟨_, rfl⟩
  obtain ⟨u0, c0⟩ := c0
  have f0 := hW.frozen 0
  obtain ⟨Z, hZ⟩ : ∃ Z, (bytesV (List.replicate (k + 9) 0)).toArray = Z := ⟨_, rfl⟩
  rw [hZ] at hP c0 f0
  have hmk' : ∀ w, (Instr.makeSlice 25 (.int .u64 (1 + k + 8)) (.int .u64 (1 + k + 8))).run Tryz.prog w = .ok (.slice (some ⟨w.heap.size, 0, none⟩) (k + 9) (k + 9)) (w.alloc (.cells Z 5)) := fun w => by rw [← hZ]; exact hmk w
  have HP := Lib.hid hP
  clear hmk hZ hW hP
  rw [HL.out]
  go_enter Tryz.func114, Tryz.ntmps114
  go_wp2_with fail
  go_loopw [15] (fun i wr => ∃ t : Nat, t ≤ 8 ∧ i = .int .i64 t ∧ PadRel w k M t wr) (fun i _ => 8 - (intOf i).toNat)
  case atStart => exact ⟨0, by omega, rfl, HP.out⟩
  case round =>
    clear c0 f0 hmk'
    obtain ⟨t, ht, rfl, hr⟩ := hrel
    by_cases hlt : t < 8
    · obtain ⟨u, c1⟩ := hr.cell hlt
      have f1 := hr.1.frozen (k + 8 - t)
      have HS := Lib.hid (shr_tail m M t HM.out)
      have HR := Lib.hid hr
      clear hr
      go_wp2_with fail
      go_roundw
      case rel => exact ⟨t + 1, by omega, by go_num, by rw [HS.out]; exact PadRel.put HR.out hlt⟩
      case measure => simp [intOf]; omega
    · obtain rfl : t = 8 := by omega
      go_wp2_with fail
      go_ret
      refine ⟨w.heap.size, rfl, Nat.le_refl _, ?_, hr.2.below (fun _ _ e => e)⟩
      rw [← HE.out]
      exact hr.1
end Go.Proofs.YtkaeoflgnnlbeaaGreatDoor
/- What is proved: what a Hash holds of the bytes that came (a definition, and what a piece more makes of it), and New, good, Len. Conditions: none beyond each lemma's own premises. -/
namespace Go.Proofs.YtkaeoflgnnlbeaaGreatDoor
open Go.RowKit
set_option linter.unusedVariables false
def blockAt (l : List UInt8) (k : Nat) : List UInt8 := (l.drop (64 * k)).take 64
/-- The state after k blocks. -/
def stN (l : List UInt8) : Nat → S8
  | 0 => S8.start
  | k + 1 => blk (stN l k) (blockAt l k)
def stOf (l : List UInt8) : S8 := stN l (l.length / 64)
theorem blockAt_append (l q : List UInt8) (k : Nat) (h : 64 * (k + 1) ≤ l.length) : blockAt (l ++ q) k = blockAt l k := by
  unfold blockAt
  rw [List.drop_append_of_le_length (by omega), List.take_append_of_le_length (by rw [List.length_drop]; omega)]
theorem stN_append (l q : List UInt8) (k : Nat) (h : 64 * k ≤ l.length) : stN (l ++ q) k = stN l k := by
  induction k with
  | zero => rfl
  | succ k ih => rw [stN, stN, ih (by omega), blockAt_append l q k h]
/-- A Hash's cells. -/
def hcells (n : Nat) (s : S8) (r : List UInt8) : Array Value := ([Value.bool true, Value.int .u64 n] ++ s.vals.toList ++ bytesV r).toArray
/-- What a Hash at block g holds when the bytes l have come; r: what stands in rest. -/
structure HashAt (w : World) (g : Nat) (l r : List UInt8) : Prop where
  len : r.length = 64
  rest : r.take (l.length % 64) = l.drop (64 * (l.length / 64))
  whole : Whole w g 203 (hcells l.length (stOf l) r)
theorem HashAt.fr {S : Nat → Prop} {w w' : World} {g : Nat} {l r : List UInt8} (h : HashAt w g l r) (f : Fr S w w') (hn : ¬ S g) : HashAt w' g l r := ⟨h.len, h.rest, h.whole.fr f hn⟩
theorem hcells_size (n : Nat) (s : S8) (r : List UInt8) : (hcells n s r).size = 10 + r.length := by
  simp only [hcells, List.size_toArray, List.length_append, List.length_cons, List.length_nil, Array.length_toList, S8.size, bytesV_length]
theorem hcells_made (n : Nat) (s : S8) (r : List UInt8) : (hcells n s r)[0]? = some (.bool true) := rfl
theorem hcells_n (n : Nat) (s : S8) (r : List UInt8) : (hcells n s r)[1]? = some (.int .u64 n) := rfl
theorem hcells_rest (n : Nat) (s : S8) (r : List UInt8) (i : Nat) : (hcells n s r)[10 + i]? = (bytesV r)[i]? := by
  rw [hcells, List.getElem?_toArray, List.getElem?_append_right (by show 10 ≤ 10 + i; omega)]
  show (bytesV r)[10 + i - 10]? = _
  congr 1
  omega
theorem hcells_setN (n m : Nat) (s : S8) (r : List UInt8) : (hcells n s r).setIfInBounds 1 (.int .u64 m) = hcells m s r := by
  apply Array.toList_inj.1
  simp only [Array.toList_setIfInBounds]
  rfl
theorem hcells_laidRest (n : Nat) (s : S8) (r q : List UInt8) (o : Nat) : splice (hcells n s r).toList (10 + o) (bytesV q) = (hcells n s (r.take o ++ (q ++ r.drop (o + q.length)))).toList := by
  have e1 : (hcells n s r).toList = ([Value.bool true, Value.int .u64 n] ++ s.vals.toList) ++ bytesV r := rfl
  have hl : ([Value.bool true, Value.int .u64 n] ++ s.vals.toList).length = 10 := rfl
  rw [e1, splice, List.take_append, List.drop_append, hl]
  have h1 : List.take (10 + o) ([Value.bool true, Value.int .u64 n] ++ s.vals.toList) = [Value.bool true, Value.int .u64 n] ++ s.vals.toList := List.take_of_length_le (by rw [hl]; omega)
  have h2 : List.drop (10 + o + (bytesV q).length) ([Value.bool true, Value.int .u64 n] ++ s.vals.toList) = [] := List.drop_of_length_le (by rw [hl]; omega)
  rw [h1, h2, bytesV_length]
  have h3 : 10 + o - 10 = o := by omega
  have h4 : 10 + o + q.length - 10 = o + q.length := by omega
  rw [h3, h4]
  show _ = ([Value.bool true, Value.int .u64 n] ++ s.vals.toList) ++ bytesV _
  simp only [bytesV, List.map_append, List.map_take, List.map_drop, List.append_assoc, List.nil_append]
theorem hcells_laidState (n : Nat) (s q : S8) (r : List UInt8) : laidAt (hcells n s r) 2 q.vals = hcells n q r := by
  apply Array.toList_inj.1
  rfl
/-- A piece that does not fill the block. -/
theorem step_some (l r q : List UInt8) (h : l.length % 64 + q.length < 64) (hr : r.length = 64) (hrest : r.take (l.length % 64) = l.drop (64 * (l.length / 64))) :
    stOf (l ++ q) = stOf l ∧ (r.take (l.length % 64) ++ (q ++ r.drop (l.length % 64 + q.length))).take ((l ++ q).length % 64) = (l ++ q).drop (64 * ((l ++ q).length / 64)) ∧ (r.take (l.length % 64) ++ (q ++ r.drop (l.length % 64 + q.length))).length = 64 := by
  have e1 : (l ++ q).length / 64 = l.length / 64 := by rw [List.length_append]; omega
  have e2 : (l ++ q).length % 64 = l.length % 64 + q.length := by rw [List.length_append]; omega
  refine ⟨?_, ?_, ?_⟩
  · unfold stOf
    rw [e1, stN_append _ _ _ (by omega)]
  · rw [e1, e2, List.drop_append_of_le_length (by omega), ← hrest, ← List.append_assoc]
    have : (r.take (l.length % 64) ++ q).length = l.length % 64 + q.length := by rw [List.length_append, List.length_take]; omega
    rw [← this, List.take_left']
    rfl
  · simp only [List.length_append, List.length_take, List.length_drop]
    omega
/-- A piece that fills it. -/
theorem step_full (l r q : List UInt8) (h : l.length % 64 + q.length = 64) (hr : r.length = 64) (hrest : r.take (l.length % 64) = l.drop (64 * (l.length / 64))) :
    stOf (l ++ q) = blk (stOf l) (r.take (l.length % 64) ++ (q ++ r.drop (l.length % 64 + q.length))) ∧ (r.take (l.length % 64) ++ (q ++ r.drop (l.length % 64 + q.length))).take ((l ++ q).length % 64) = (l ++ q).drop (64 * ((l ++ q).length / 64)) ∧
      (r.take (l.length % 64) ++ (q ++ r.drop (l.length % 64 + q.length))).length = 64 := by
  have e1 : (l ++ q).length / 64 = l.length / 64 + 1 := by rw [List.length_append]; omega
  have e2 : (l ++ q).length % 64 = 0 := by rw [List.length_append]; omega
  have e3 : r.drop (l.length % 64 + q.length) = [] := List.drop_of_length_le (by omega)
  refine ⟨?_, ?_, ?_⟩
  · unfold stOf
    rw [e1, stN, stN_append _ _ _ (by omega), e3, List.append_nil, hrest]
    congr 1
    unfold blockAt
    rw [List.drop_append_of_le_length (by omega), List.take_of_length_le (by rw [List.length_append, List.length_drop]; omega)]
  · rw [e1, e2, List.take_zero, List.drop_of_length_le (by rw [List.length_append]; omega)]
  · simp only [List.length_append, List.length_take, List.length_drop]
    omega
theorem wpList_build_eq {P : Program} {ops : Array Oper} {rest : List Oper} {o : Oper} {a : Act} {w : World} {Q : Exit → Act → World → Prop} (hgd : o.guard = none) (t : TypeId) (parts : Array (Nat × Operand)) (ho : o.op = .build t parts)
    (cells : Array Value) (hc : P.built t (parts.map fun (i, x) => (i, a.eval x)).toList = some cells) (h : wpList P ops Q rest (a.put o.dst (.agg cells)) w) : wpList P ops Q (o :: rest) a w :=
  wpList_plain hgd fun _ hK => wp_build t parts ho (by rw [hc]; rfl) (by rw [hc]; exact hK _ _ h)
theorem sizeH : (Tryz.prog.info? 203).map (·.size) = some 74 := by kernel_rfl
theorem builtH : Tryz.prog.built 203 [(0, .bool true), (2, .agg S8.start.vals)] = some (hcells 0 S8.start (List.replicate 64 0)) := by kernel_rfl
theorem SNew_any (w : World) : Calls Tryz.prog 79 #[] w fun e w' => ∃ g r, e = .returned (.pointer (some ⟨g, 0, none⟩)) ∧ w.heap.size ≤ g ∧ HashAt w' g [] r ∧ Below w.heap.size w w' := by
  have hb := builtH
  obtain ⟨Z, hZ⟩ : ∃ Z, hcells 0 S8.start (List.replicate 64 0) = Z := ⟨_, rfl⟩
  rw [hZ] at hb
  have HB := Lib.hid hb
  clear hb
  go_enter Tryz.func79, Tryz.ntmps79
  go_wp2_with (first
    | (go_at_call 111; refine (SStart_any _).mono ?_; rintro e w2 ⟨rfl, b2⟩)
    | (refine wpList_build_eq rfl 203 _ rfl Z (by simpa [Act.eval] using HB.out) ?_))
  go_ret
  refine ⟨w2.heap.size, List.replicate 64 0, rfl, b2.size, ⟨rfl, rfl, ?_⟩, b2.alloc b2.size _⟩
  rw [← hZ]
  exact Whole.new w2 203 _
theorem Hgood_any (g : Nat) (l r : List UInt8) (w : World) (h : HashAt w g l r) : Calls Tryz.prog 112 #[.pointer (some ⟨g, 0, none⟩)] w fun e w' => e = .returned (.bool true) ∧ w = w' := by
  have c0 := h.whole.cell 0
  rw [hcells_made] at c0
  clear h
  go_enter Tryz.func112, Tryz.ntmps112
  go_wp2_with fail
  go_ret
  exact ⟨rfl, rfl⟩
end Go.Proofs.YtkaeoflgnnlbeaaGreatDoor
/- What is proved: what the walks of this seat need of layers below, merged out of the texts Shj Shw Sho (of each just what is needed). Conditions: each theorem names its own. -/
set_option maxRecDepth 100000
/- What is proved: a state's numbers as bytes (joined). Conditions: numbers of 32 bits. -/
namespace Go.Proofs.YtkaeoflgnnlbeaaGreatDoor
open Go.RowKit
set_option linter.unusedVariables false
def S8.nums (s : S8) : List Int := [s.a, s.b, s.c, s.d, s.e, s.f, s.g, s.h]
/-- All are numbers of 32 bits. -/
def S8.ok (s : S8) : Prop := ∀ x ∈ s.nums, 0 ≤ x ∧ x < 4294967296
theorem S8.start_ok : S8.start.ok := by
  intro x hx
  simp [S8.nums, S8.start] at hx
  omega
theorem blk_ok (s : S8) (b : List UInt8) : (blk s b).ok := by
  intro x hx
  simp [S8.nums, blk, S8.add] at hx
  omega
theorem stN_ok (l : List UInt8) (k : Nat) : (stN l k).ok := by
  cases k with
  | zero => exact S8.start_ok
  | succ k => exact blk_ok _ _
theorem S8.ok_get {s : S8} (h : s.ok) (i : Nat) : 0 ≤ s.nums.getD i 0 ∧ s.nums.getD i 0 < 4294967296 := by
  by_cases hi : i < s.nums.length
  · rw [List.getD_eq_getElem?_getD, List.getElem?_eq_getElem hi]
    exact h _ (List.getElem_mem hi)
  · rw [List.getD_eq_getElem?_getD, List.getElem?_eq_none (by omega)]
    decide
/-- Byte k of a state. -/
def idN (s : S8) (k : Nat) : Int := s.nums.getD (k / 4) 0 / 2 ^ (24 - 8 * (k % 4)) % 256
/-- The first m bytes, and noughts. -/
def idC (s : S8) (m : Nat) : Array Value := ((List.range m).map (fun k => Value.int .u8 (idN s k)) ++ List.replicate (32 - m) (Value.int .u8 0)).toArray
theorem idC_size (s : S8) (m : Nat) (h : m ≤ 32) : (idC s m).size = 32 := by simp [idC]; omega
theorem idC_one (s : S8) (m : Nat) : (idC s m).all (·.oneCell') = true := by
  refine Array.all_eq_true_iff_forall_mem.2 (fun v hv => ?_)
  simp only [idC, List.mem_toArray, List.mem_append, List.mem_map, List.mem_replicate] at hv
  rcases hv with ⟨x, _, rfl⟩ | ⟨_, rfl⟩ <;> rfl
theorem idC_get (s : S8) (m : Nat) (h : m < 32) : (idC s m)[m]? = some (.int .u8 0) := by
  simp only [idC, List.getElem?_toArray]
  rw [List.getElem?_append_right (by simp), List.getElem?_replicate, if_pos (by simp; omega)]
theorem idC_set (s : S8) (m : Nat) (h : m < 32) : (idC s m).setIfInBounds m (.int .u8 (idN s m)) = idC s (m + 1) := by
  apply Array.toList_inj.1
  simp only [idC, Array.toList_setIfInBounds]
  obtain ⟨k, hk⟩ : ∃ k, 32 - m = k + 1 := ⟨32 - m - 1, by omega⟩
  have h2 : 32 - (m + 1) = k := by omega
  rw [hk, h2, List.set_append, if_neg (by simp), List.length_map, List.length_range, Nat.sub_self, List.replicate_succ, List.set_cons_zero, List.range_succ, List.map_append, List.append_assoc]
  rfl
theorem size32 : (Tryz.prog.info? 48).map (·.size) = some 32 := by kernel_rfl
theorem index8 (s : S8) (i : Nat) (h : i < 8) (w : World) : (Instr.index 147 (.agg s.vals) (.int .i64 i)).run Tryz.prog w = .ok (.int .u32 (s.nums.getD i 0)) w := by
  have h8 : i = 0 ∨ i = 1 ∨ i = 2 ∨ i = 3 ∨ i = 4 ∨ i = 5 ∨ i = 6 ∨ i = 7 := by omega
  have i0 : ∀ w : World, (Instr.index 147 (.agg s.vals) (.int .i64 0)).run Tryz.prog w = .ok (.int .u32 s.a) w := fun _ => by kernel_rfl
  have i1 : ∀ w : World, (Instr.index 147 (.agg s.vals) (.int .i64 1)).run Tryz.prog w = .ok (.int .u32 s.b) w := fun _ => by kernel_rfl
  have i2 : ∀ w : World, (Instr.index 147 (.agg s.vals) (.int .i64 2)).run Tryz.prog w = .ok (.int .u32 s.c) w := fun _ => by kernel_rfl
  have i3 : ∀ w : World, (Instr.index 147 (.agg s.vals) (.int .i64 3)).run Tryz.prog w = .ok (.int .u32 s.d) w := fun _ => by kernel_rfl
  have i4 : ∀ w : World, (Instr.index 147 (.agg s.vals) (.int .i64 4)).run Tryz.prog w = .ok (.int .u32 s.e) w := fun _ => by kernel_rfl
  have i5 : ∀ w : World, (Instr.index 147 (.agg s.vals) (.int .i64 5)).run Tryz.prog w = .ok (.int .u32 s.f) w := fun _ => by kernel_rfl
  have i6 : ∀ w : World, (Instr.index 147 (.agg s.vals) (.int .i64 6)).run Tryz.prog w = .ok (.int .u32 s.g) w := fun _ => by kernel_rfl
  have i7 : ∀ w : World, (Instr.index 147 (.agg s.vals) (.int .i64 7)).run Tryz.prog w = .ok (.int .u32 s.h) w := fun _ => by kernel_rfl
  rcases h8 with rfl | rfl | rfl | rfl | rfl | rfl | rfl | rfl
  · exact i0 w
  · exact i1 w
  · exact i2 w
  · exact i3 w
  · exact i4 w
  · exact i5 w
  · exact i6 w
  · exact i7 w
def JoRel (w : World) (s : S8) (m : Nat) (wr : World) : Prop := Whole wr (w.heap.size + 1) 48 (idC s m) ∧ Fr (fun _ => False) w wr
theorem JoRel.put {w wr : World} {s : S8} {m : Nat} (h : JoRel w s m wr) (hm : m < 32) : JoRel w s (m + 1) (wr.setCell ⟨w.heap.size + 1, m, none⟩ (.int .u8 (idN s m))) := by
  refine ⟨?_, h.2.setCell (fun e => absurd e (by show ¬ w.heap.size + 1 < w.heap.size; omega)) _⟩
  have := h.1.set m (.int .u8 (idN s m))
  rwa [idC_set s m hm] at this
set_option maxHeartbeats 800000 in
theorem Sjoined_any (s : S8) (hs : s.ok) (w : World) : Calls Tryz.prog 115 #[.agg s.vals] w fun e w' => e = .returned (.agg (idC s 32)) ∧ Below w.heap.size w w' := by
  obtain ⟨w1, hw1⟩ : ∃ w1, ((w.alloc (.cells s.vals 147)).alloc (.cells (idC s 0) 48)) = w1 := ⟨_, rfl⟩
  have hF : Fr (fun _ => False) w w1 := by subst hw1; exact ((Fr.refl _ w).alloc _).alloc _
  have hJ : JoRel w s 0 w1 := by
    refine ⟨?_, hF⟩
    subst hw1
    have h := Whole.new (w.alloc (.cells s.vals 147)) 48 (idC s 0)
    have e : (w.alloc (.cells s.vals 147)).heap.size = w.heap.size + 1 := by simp
    rwa [e] at h
  have hS : Whole w1 w.heap.size 147 s.vals := by
    subst hw1
    exact (Whole.new w 147 s.vals).fr ((Fr.refl (fun _ => False) _).alloc _) (fun e => e)
  unfold idC at hw1
  simp [List.replicate] at hw1
  have HS := Lib.hid hS
  have HJ := Lib.hid hJ
  clear hS hJ hF
  go_enter Tryz.func115, Tryz.ntmps115
  go_wp2_with (first
    | (refine wpList_load_row rfl 147 _ rfl _ rfl 147 _ _ _ HS.out Tryz.underlying147 rfl size8 ?_))
  clear hw1
  go_loopw [7] (fun i wr => ∃ t : Nat, t ≤ 8 ∧ i = .int .i64 t ∧ JoRel w s (4 * t) wr) (fun i _ => 8 - (intOf i).toNat)
  case atStart => exact ⟨0, by omega, rfl, HJ.out⟩
  case round =>
    obtain ⟨t, ht, rfl, hr⟩ := hrel
    by_cases hlt : t < 8
    · have hi := index8 s t hlt
      obtain ⟨x, hx⟩ : ∃ x, s.nums.getD t 0 = x := ⟨_, rfl⟩
      have hxb := S8.ok_get hs t
      rw [hx] at hi hxb
      obtain ⟨hx0, hx1⟩ := hxb
      have HX := Lib.hid hx
      clear hx
      go_wp2_with fail
      go_loopw [11] (fun j wr => ∃ u : Nat, u ≤ 4 ∧ j = .int .i64 u ∧ JoRel w s (4 * t + u) wr) (fun j _ => 4 - (intOf j).toNat)
      case atStart => exact ⟨0, by omega, rfl, hr⟩
      case round =>
        clear hr hi
        obtain ⟨u, hu, rfl, hr⟩ := hrel
        by_cases hlu : u < 4
        · have c1 : wr.cell? ⟨w.heap.size + 1, 4 * t + u, none⟩ = some (.int .u8 0) := by rw [hr.1.cell, idC_get _ _ (by omega)]
          have f1 := hr.1.frozen (4 * t + u)
          have HE := Lib.hid (show idN s (4 * t + u) = x / 2 ^ (24 - 8 * u) % 256 by
            unfold idN
            have e1 : (4 * t + u) / 4 = t := by omega
            have e2 : (4 * t + u) % 4 = u := by omega
            rw [e1, e2, HX.out])
          have HR := Lib.hid hr
          clear hr
          go_wp2_with fail
          go_roundw
          case rel => exact ⟨u + 1, by omega, by go_num, by rw [← HE.out]; exact JoRel.put (m := 4 * t + u) HR.out (by omega)⟩
          case measure => simp [intOf]; omega
        · obtain rfl : u = 4 := by omega
          go_wp2_with fail
          go_roundw
          case rel => exact ⟨t + 1, by omega, by go_num, hr⟩
          case measure => simp [intOf]; omega
    · obtain rfl : t = 8 := by omega
      go_wp2_with (first
        | (refine wpList_load_row rfl 48 _ rfl _ rfl 48 _ _ _ hr.1 Tryz.underlying48 rfl (by rw [idC_size _ _ (by omega)]; exact size32) ?_)
        | (refine wpList_store_at rfl 48 _ _ rfl (w.heap.size + 1) 0 48 _ _ rfl rfl hr.1 (by rw [Nat.zero_add]; exact Nat.le_refl _) (by rw [idC_size _ _ (by omega)]; exact size32) (idC_one _ _) ?_; intro w2 hw2 hf2))
      rw [laidAt_all _ _ rfl] at hw2
      refine bodyPost_ret (v := .agg (idC s 32)) (results_cell_row (p := 2) rfl _ _ _ _ _ _ _ rfl hw2 Tryz.underlying48 rfl (by rw [idC_size _ _ (by omega)]; exact size32)) rfl ?_
      exact ⟨rfl, (hr.2.trans hf2 (fun i hi e => by omega)).below (fun _ _ e => e)⟩
end Go.Proofs.YtkaeoflgnnlbeaaGreatDoor
/- What is proved: what a Hash holds behind Write. Conditions: the table of constants holds what start-up lays; the Hash lies alone in its block; the piece's bytes lie elsewhere. -/
namespace Go.Proofs.YtkaeoflgnnlbeaaGreatDoor
open Go.RowKit
set_option linter.unusedVariables false
theorem Lies.below {w w' : World} {A : Option Addr} {xs : List Value} (h : Lies w A xs) (f : Below w.heap.size w w') : Lies w' A xs := by
  rcases h with h | ⟨b, o, rfl, hc⟩
  · exact .inl h
  · refine .inr ⟨b, o, rfl, fun j u hu => ?_⟩
    have h1 := hc j u hu
    exact (World.cell?_of_block (f.block b (World.block_lt_of_cell? w _ h1))).trans h1
theorem Lies.lt {w : World} {A : Option Addr} {xs : List Value} (h : Lies w A xs) (hx : xs ≠ []) : ∀ ad, A = some ad → ad.block < w.heap.size := by
  rcases h with h | ⟨b, o, rfl, hc⟩
  · exact absurd h hx
  · intro ad had
    cases had
    cases xs with
    | nil => exact absurd rfl hx
    | cons v xs => exact World.block_lt_of_cell? w _ (hc 0 v rfl)
/-- Where the rest of a slice's bytes lies. -/
theorem lies_drop {w : World} {A : Option Addr} {bs : List UInt8} (n c : Nat) (h : Lies w A (bytesV bs)) (hn : n ≤ bs.length) :
    ∃ A', (if c = n then A else A.map (·.add n)) = A' ∧ (bs.length ≤ c → Lies w A' (bytesV (bs.drop n))) ∧ (∀ ad, A' = some ad → ∃ ad0, A = some ad0 ∧ ad0.block = ad.block) := by
  refine ⟨_, rfl, fun hc => ?_, ?_⟩
  · by_cases e : c = n
    · have hd : bs.drop n = [] := List.drop_of_length_le (by omega)
      rw [hd]
      exact .inl rfl
    · rw [if_neg e]
      rcases h with h | ⟨b, o, rfl, hcl⟩
      · have : bs = [] := List.eq_nil_of_length_eq_zero (by rw [← bytesV_length, h]; rfl)
        subst this
        exact .inl (by simp [bytesV])
      · refine .inr ⟨b, o + n, by simp [add_off], fun j u hu => ?_⟩
        have hu2 : (bytesV bs)[n + j]? = some u := by
          unfold bytesV at hu ⊢
          rw [List.getElem?_map, List.getElem?_drop] at hu
          rw [List.getElem?_map]
          exact hu
        have := hcl (n + j) u hu2
        rw [Nat.add_assoc]
        exact this
  · intro ad had
    by_cases e : c = n
    · rw [if_pos e] at had
      exact ⟨ad, had, rfl⟩
    · rw [if_neg e] at had
      cases A with
      | none => simp at had
      | some a0 =>
        simp at had
        exact ⟨a0, rfl, by rw [← had]; unfold Addr.add; split <;> rfl⟩
/-- A copy into a stretch of a row, as a step of a region that draws its order. -/
theorem step_copy_at {P : Program} {ops : Array Oper} {o : Oper} {a : Act} {w : World} {K : Act → World → Prop} {Q : Exit → Act → World → Prop} {E : Prop} (hgd : o.guard = none) (d s : Operand) (dT sT : TypeId)
    (ho : o.op = .call { callee := .builtin .copy, args := #[d, s], argTypes := #[dT, sT] }) (elem : TypeId) (hu : P.underlying dT = some (.slice elem)) (hsz : (P.info? elem).map (·.size) = some 1)
    (g off dLen dCap : Nat) (sp : Option Addr) (sLen sCap : Nat) (hd : a.eval d = .slice (some ⟨g, off, none⟩) dLen dCap) (hs : a.eval s = .slice sp sLen sCap)
    (cur : Array Value) (t : TypeId) (hg : Whole w g t cur) (cs : List Value) (hn : cs.length = Nat.min sLen dLen) (hpos : 0 < cs.length) (hsrc : Lies w sp cs)
    (hfit : off + cs.length ≤ cur.size) (h1 : ∀ v ∈ cs, v.oneCell' = true)
    (h : ∀ w', Whole w' g t (splice cur.toList off cs).toArray → Fr (fun k => k = g) w w' → K (a.put o.dst (goInt cs.length)) w') :
    if Region.wanted o (yielded ops a.tmps) = true then Oper.wp P o a w K Q else E := by
  have hw : Region.wanted o (yielded ops a.tmps) = true := by simp [Region.wanted, hgd]
  rw [if_pos hw]
  rcases hsrc with h0 | ⟨b, f, rfl, hc⟩
  · subst h0
    simp at hpos
  · have hrun := run_copy_row (P := P) w dT sT o.type elem g off dLen dCap ⟨b, f, none⟩ sLen sCap cur t cs hu hsz hg hn (fun j v hv => by rw [add_off]; exact hc j v hv) hfit h1
    unfold Oper.wp
    simp [execOp, ho, resolve, invoke, builtin, hd, hs, hrun, Result.andThen]
    exact h _ (by simpa [splice] using hg.laid _) (by simpa [splice] using Fr.laid w g _)
theorem run_storeCells_whole {P : Program} {w : World} {g o : Nat} {t : TypeId} {cs : Array Value} (vs : Array Value) (hg : Whole w g t cs) (hfit : o + vs.size ≤ cs.size) (h1 : vs.all (·.oneCell') = true) :
    ∃ w', (storeCells ⟨g, o, none⟩ vs.toList).run P w = .ok () w' ∧ Whole w' g t (laidAt cs o vs) ∧ Fr (fun k => k = g) w w' := by
  have := run_storeCells_at P g o t vs.toList 0 cs w hg (by simpa using hfit) (fun v hv => (Array.all_eq_true_iff_forall_mem.1 h1) v (by simpa using hv))
  simp only [Nat.add_zero] at this
  exact ⟨_, this, hg.laid _, Fr.laid w g _⟩
theorem lies_take {w : World} {A : Option Addr} {bs : List UInt8} (h : Lies w A (bytesV bs)) (n : Nat) : Lies w A (bytesV (bs.take n)) := by
  rcases h with h | ⟨b, o, rfl, hc⟩
  · have : bs = [] := List.eq_nil_of_length_eq_zero (by rw [← bytesV_length, h]; rfl)
    subst this
    exact .inl (by simp [bytesV])
  · refine .inr ⟨b, o, rfl, fun j u hu => hc j u ?_⟩
    unfold bytesV at hu ⊢
    rw [List.getElem?_map, List.getElem?_take] at hu
    rw [List.getElem?_map]
    split at hu
    · exact hu
    · simp at hu
theorem size_u8 : (Tryz.prog.info? 5).map (·.size) = some 1 := by kernel_rfl
theorem slice_rest (g o : Nat) (ho : o < 64) (w : World) : (Instr.sliceAt 201 (.pointer (some ⟨g, 10, none⟩)) (some (.int .u64 o)) none none).run Tryz.prog w = .ok (.slice (some ⟨g, 10 + o, none⟩) (64 - o) (64 - o)) w := by
  have ht : Tryz.prog.underlying 201 = some (.array (Tryz.prog.arrayLen 201) (Tryz.prog.elem 201)) := by kernel_rfl
  have hl : Tryz.prog.arrayLen 201 = 64 := by kernel_rfl
  have hs : (sizeOf (Tryz.prog.elem 201)).run Tryz.prog w = .ok 1 w := by kernel_rfl
  have h := run_sliceAt_array_l (P := Tryz.prog) w 201 ⟨g, 10, none⟩ ht .u64 (o : Int) (by omega) (by rw [hl]; omega)
  rw [h, hs, hl]
  have hne : ¬ 64 = o := by omega
  simp [slicedAt, hne, add_off]
theorem slice_all (g : Nat) (w : World) : (Instr.sliceAt 201 (.pointer (some ⟨g, 10, none⟩)) none none none).run Tryz.prog w = .ok (.slice (some ⟨g, 10, none⟩) 64 64) w := by
  have ht : Tryz.prog.underlying 201 = some (.array (Tryz.prog.arrayLen 201) (Tryz.prog.elem 201)) := by kernel_rfl
  have hl : Tryz.prog.arrayLen 201 = 64 := by kernel_rfl
  have hs : (sizeOf (Tryz.prog.elem 201)).run Tryz.prog w = .ok 1 w := by kernel_rfl
  have h := run_sliceAt_array_all (P := Tryz.prog) w 201 ⟨g, 10, none⟩ ht
  rw [h, hs, hl]
  simp [slicedAt, add_off]
theorem hcells_range {w : World} {g : Nat} {t : TypeId} {n : Nat} {s : S8} {r : List UInt8} (h : Whole w g t (hcells n s r)) : w.rangeAt g 2 s.vals.toList := fun j v hv => by
  rw [h.cell, hcells, List.getElem?_toArray, List.getElem?_append_left (by have := (List.getElem?_eq_some_iff.1 hv).1; simp only [List.length_append, List.length_cons, List.length_nil]; omega), List.getElem?_append_right (by simp)]
  show s.vals.toList[2 + j - 2]? = _
  rw [Nat.add_sub_cancel_left]
  exact hv
theorem hcells_cells {w : World} {g : Nat} {t : TypeId} {n : Nat} {s : S8} {r : List UInt8} (h : Whole w g t (hcells n s r)) :
    w.cell? ⟨g, 2, none⟩ = some (.int .u32 s.a) ∧ w.cell? ⟨g, 3, none⟩ = some (.int .u32 s.b) ∧ w.cell? ⟨g, 4, none⟩ = some (.int .u32 s.c) ∧ w.cell? ⟨g, 5, none⟩ = some (.int .u32 s.d) ∧
    w.cell? ⟨g, 6, none⟩ = some (.int .u32 s.e) ∧ w.cell? ⟨g, 7, none⟩ = some (.int .u32 s.f) ∧ w.cell? ⟨g, 8, none⟩ = some (.int .u32 s.g) ∧ w.cell? ⟨g, 9, none⟩ = some (.int .u32 s.h) :=
  ⟨hcells_range h 0 _ rfl, hcells_range h 1 _ rfl, hcells_range h 2 _ rfl, hcells_range h 3 _ rfl, hcells_range h 4 _ rfl, hcells_range h 5 _ rfl, hcells_range h 6 _ rfl, hcells_range h 7 _ rfl⟩
theorem hcells_byte {w : World} {g : Nat} {t : TypeId} {n : Nat} {s : S8} {r : List UInt8} (h : Whole w g t (hcells n s r)) (i : Nat) (hi : i < r.length) : w.cell? ⟨g, 10 + i, none⟩ = some (.int .u8 (byteI r i)) := by
  rw [h.cell, hcells_rest, bytesV, List.getElem?_map, List.getElem?_eq_getElem hi]
  simp [byteV, byteI, List.getD_eq_getElem?_getD, List.getElem?_eq_getElem hi]
theorem hash_some {w : World} {g : Nat} {m r q r2 : List UInt8} {k n o : Nat} (hn : m.length = n) (ho : n % 64 = o) (hk : (q.take k).length = k) (hr2 : r.take o ++ (q.take k ++ r.drop (o + (q.take k).length)) = r2) (hlt : o + k < 64)
    (len : r.length = 64) (rest : r.take (m.length % 64) = m.drop (64 * (m.length / 64))) (hw : Whole w g 203 (hcells (n + k) (stOf m) r2)) : HashAt w g (m ++ q.take k) r2 := by
  have hm : m.length % 64 = o := by rw [hn, ho]
  obtain ⟨s1, s2, s3⟩ := step_some m r (q.take k) (by omega) len rest
  rw [hm, hr2] at s2 s3
  refine ⟨s3, s2, ?_⟩
  rw [s1, List.length_append, hk, hn]
  exact hw
theorem hash_full {w : World} {g : Nat} {m r q r2 : List UInt8} {k n o : Nat} (hn : m.length = n) (ho : n % 64 = o) (hk : (q.take k).length = k) (hr2 : r.take o ++ (q.take k ++ r.drop (o + (q.take k).length)) = r2) (hlt : o + k = 64)
    (len : r.length = 64) (rest : r.take (m.length % 64) = m.drop (64 * (m.length / 64))) (hw : Whole w g 203 (hcells (n + k) (blk (stOf m) r2) r2)) : HashAt w g (m ++ q.take k) r2 := by
  have hm : m.length % 64 = o := by rw [hn, ho]
  obtain ⟨s1, s2, s3⟩ := step_full m r (q.take k) (by omega) len rest
  rw [hm, hr2] at s1 s2 s3
  refine ⟨s3, s2, ?_⟩
  rw [s1, List.length_append, hk, hn]
  exact hw
set_option maxHeartbeats 1600000 in
theorem HWrite_any (g : Nat) (l r : List UInt8) (A : Option Addr) (cap : Nat) (p : List UInt8) (w : World) (h : HashAt w g l r) (ht : Tab w) (hg : g ≠ 0) (hp : Lies w A (bytesV p)) (hA : p ≠ [] → ∀ ad, A = some ad → ad.block ≠ g) (hcap : p.length ≤ cap)
    (hm : l.length + p.length ≤ 140737488355328) :
    Calls Tryz.prog 80 #[.pointer (some ⟨g, 0, none⟩), .slice A p.length cap] w fun e w' => e = .returned (.tuple #[]) ∧ ∃ r', HashAt w' g (l ++ p) r' ∧ Fr (fun k => k = g) w w' := by
  go_enter Tryz.func80, Tryz.ntmps80
  go_wp2_with (go_at_call 112; refine (Hgood_any g l r _ h).mono ?_; rintro e w2 ⟨rfl, rfl⟩)
  go_loopw [1] (fun s wr => ∃ (j : Nat) (A' : Option Addr) (cap' : Nat) (r' : List UInt8), j ≤ p.length ∧ s = .slice A' (p.drop j).length cap' ∧ (p.drop j).length ≤ cap' ∧ Lies wr A' (bytesV (p.drop j)) ∧ (p ≠ [] → ∀ ad, A' = some ad → ad.block ≠ g) ∧ HashAt wr g (l ++ p.take j) r' ∧ Fr (fun k => k = g) w wr) (fun s _ => match s with | .slice _ n _ => n | _ => 0)
  case atStart => exact ⟨0, A, cap, r, by omega, rfl, hcap, hp, hA, by simpa using h, Fr.refl _ _⟩
  case round =>
    obtain ⟨j, A', cap', r', hj, rfl, hcap', hl, hA', hh, hf⟩ := hrel
    have hT := ht.fr hf (fun e => hg e.symm)
    obtain ⟨q, hq⟩ : ∃ q, p.drop j = q := ⟨_, rfl⟩
    obtain ⟨m, hml⟩ : ∃ m, l ++ p.take j = m := ⟨_, rfl⟩
    rw [hq] at hcap' hl ⊢
    rw [hml] at hh
    by_cases h0 : q.length = 0
    · have hj2 : j = p.length := by
        have : q.length = p.length - j := by rw [← hq, List.length_drop]
        omega
      rw [h0]
      go_wp2_with fail
      refine bodyPost_end (results_none rfl _ _ _) rfl ?_
      exact ⟨rfl, r', by rw [← hml, hj2, List.take_length] at hh; exact hh, hf⟩
    · have hlen : m.length ≤ 140737488355328 := by rw [← hml, List.length_append, List.length_take]; omega
      have hqb : m.length + q.length ≤ 140737488355328 := by rw [← hml, ← hq, List.length_append, List.length_take, List.length_drop]; omega
      have hql : 0 < q.length := by omega
      have hA' := hA' (by rintro rfl; rw [← hq] at hql; simp at hql)
      obtain ⟨n, hn⟩ : ∃ n, m.length = n := ⟨_, rfl⟩
      obtain ⟨z, hz⟩ : ∃ z, q.length = z := ⟨_, rfl⟩
      rw [hz] at hqb hql hcap' ⊢
      rw [hn] at hqb
      obtain ⟨k, hk⟩ : ∃ k, min (64 - n % 64) z = k := ⟨_, rfl⟩
      have hkz : k ≤ z := by omega
      have hk0 : 0 < k := by omega
      have hko : n % 64 + k ≤ 64 := by omega
      have cn := hh.whole.cell 1
      rw [hcells_n, hn] at cn
      have HH := Lib.hid hh
      have HL := Lib.hid hl
      clear hh hl
      have i0 : (0 : Int) < z := by omega
      have hqd : p.drop (j + k) = q.drop k := by rw [← hq, List.drop_drop]
      have hqdl : (q.drop k).length = z - k := by rw [List.length_drop, hz]
      have hpt : l ++ p.take (j + k) = m ++ q.take k := by rw [← hml, ← hq, List.take_add, List.append_assoc]
      have hjk : j + k ≤ p.length := by
        have : q.length = p.length - j := by rw [← hq, List.length_drop]
        omega
      obtain ⟨o, ho⟩ : ∃ o, n % 64 = o := ⟨_, rfl⟩
      have ho64 : o < 64 := by omega
      have i1 : (n : Int).tmod 64 = (o : Int) := by rw [← ho, Int.tmod_eq_emod_of_nonneg (by omega)]; omega
      have i2 := fun w => slice_rest g o ho64 w
      rw [ho] at hk hko
      have hqt : (bytesV (q.take k)).length = k := by rw [bytesV_length, List.length_take]; omega
      have hLt := lies_take HL.out k
      have hnk : (bytesV (q.take k)).length = Nat.min z (64 - o) := by rw [hqt, ← hk]; exact Nat.min_comm _ _
      go_wp2_with fail
      go_region_law (refine step_copy_at (by rfl) (.tmp 19) (.tmp 20) 25 25 (by rfl) 5 Tryz.underlying25 size_u8 g (10 + o) (64 - o) (64 - o) A' z cap' (by rfl) (by rfl) _ 203 HH.out.whole (bytesV (q.take k)) hnk (by omega) hLt (by rw [hcells_size, HH.out.len]; omega) (bytesV_one _) ?_; intro w2 hw2 hf2)
      rw [hcells_laidRest] at hw2
      obtain ⟨r2, hr2⟩ : ∃ r2, r'.take o ++ (q.take k ++ r'.drop (o + (q.take k).length)) = r2 := ⟨_, rfl⟩
      rw [hr2] at hw2
      have c1 := hw2.cell 1
      have f1 := hw2.frozen 1
      rw [hcells_n] at c1
      obtain ⟨A2, hA2, hl2, hb2⟩ := lies_drop k cap' HL.out (by omega)
      have hW3 := hw2.set 1 (.int .u64 ((n + k : Nat) : Int))
      rw [hcells_setN] at hW3
      have hF3 : Fr (fun k => k = g) wr (w2.setCell ⟨g, 1, none⟩ (.int .u64 ((n + k : Nat) : Int))) := (((Fr.refl _ wr).drew.trans hf2 (fun i hi e => e)).setCell (p := ⟨g, 1, none⟩) (fun _ => rfl) _)
      have j1 : (k : Int) ≤ z := by omega
      have j2 : (k : Int) ≤ cap' := by omega
      have hnk2 : ((n + k : Nat) : Int) = (n : Int) + k := by omega
      rw [hnk2] at hW3 hF3
      obtain ⟨W3, hW3e⟩ : ∃ W3, w2.setCell ⟨g, 1, none⟩ (.int .u64 ((n : Int) + k)) = W3 := ⟨_, rfl⟩
      rw [hW3e] at hW3 hF3
      have c3 := hW3.cell 1
      rw [hcells_n, hnk2] at c3
      have hrl : r2.length = 64 := by
        rw [← hr2]
        simp only [List.length_append, List.length_take, List.length_drop, HH.out.len]
        have : q.length = z := hz
        omega
      have HW3 := Lib.hid hW3
      have HF3 := Lib.hid hF3
      have HT3 := Lib.hid (hT.fr hF3 (fun e => hg e.symm))
      clear hW3 hF3 i1 i2 cn hT
      have HR2 := Lib.hid hr2
      have HL2 := Lib.hid hl2
      clear hr2 hl2
      by_cases hfull : o + k = 64
      · have t0 : ((n : Int) + k) % 64 = 0 := by omega
        have i3 := fun w => slice_all g w
        obtain ⟨sa, sb, sc, sd, se, sf, sg, sh⟩ := hcells_cells HW3.out
        have HWd := Lib.hid (Whole.fr HW3.out ((Fr.refl (fun _ => False) W3).drew) (fun e => e))
        have HTd := Lib.hid (Tab.fr HT3.out ((Fr.refl (fun _ => False) W3).drew) (fun e => e))
        go_wp2_with fail
        go_region_law (first
          | (go_simp; go_at_call 113; refine (SBlock_ok (stOf m) g 10 64 r2 _ hrl (fun i hi => hcells_byte HWd.out i (by rw [hrl]; exact hi)) HTd.out).mono ?_; rintro e w4 ⟨rfl, b4⟩; have hW4 := HWd.out.fr (Fr.of_below (S := fun _ => False) b4) (fun e => e); obtain ⟨w5, hst, hw5, hf5⟩ := run_storeCells_whole (P := Tryz.prog) (o := 2) (blk (stOf m) r2).vals hW4 (by rw [hcells_size, hrl, S8.size]; decide) (S8.one _); have hs8 := S8.size (blk (stOf m) r2)))
        rw [hcells_laidState] at hw5
        have hlw5 := Lies.fr (S := fun k => k = g) (HL2.out (by omega)) (((HF3.out.drew).trans (Fr.of_below (S := fun _ => False) b4) (fun _ _ e => e.elim)).trans hf5 (fun i hi e => e)) (fun ad had => by obtain ⟨ad0, h1, h2⟩ := hb2 ad had; rw [← h2]; exact hA' ad0 h1)
        have hh5 := hash_full hn ho (by rw [← bytesV_length]; exact hqt) HR2.out hfull HH.out.len HH.out.rest hw5
        have hf6 := ((HF3.out.drew).trans (Fr.of_below (S := fun _ => False) b4) (fun _ _ e => e.elim)).trans hf5 (fun i hi e => e)
        have HH5 := Lib.hid hh5
        have HL5 := Lib.hid hlw5
        clear hh5 hlw5 hst hs8 sa sb sc sd se sf sg sh
        go_wp2_with fail
        go_roundw
        case rel => exact ⟨j + k, A2, cap' - k, r2, by omega, by rw [hqd, hqdl], by rw [hqd, hqdl]; omega, by rw [hqd]; exact HL5.out, fun _ ad had => (by obtain ⟨ad0, h1, h2⟩ := hb2 ad had; rw [← h2]; exact hA' ad0 h1), by rw [hpt]; exact HH5.out, hf.trans hf6 (fun i hi e => e)⟩
        case measure => simp; omega
      · have t0 : ((n : Int) + k) % 64 ≠ 0 := by omega
        go_wp2_with fail
        go_roundw
        case rel => exact ⟨j + k, A2, cap' - k, r2, by omega, by rw [hqd, hqdl], by rw [hqd, hqdl]; omega, by rw [hqd]; exact Lies.fr (S := fun k => k = g) (HL2.out (by omega)) HF3.out (fun ad had => by obtain ⟨ad0, h1, h2⟩ := hb2 ad had; rw [← h2]; exact hA' ad0 h1), fun _ ad had => (by obtain ⟨ad0, h1, h2⟩ := hb2 ad had; rw [← h2]; exact hA' ad0 h1), by rw [hpt]; exact hash_some hn ho (by rw [← bytesV_length]; exact hqt) HR2.out (by omega) HH.out.len HH.out.rest HW3.out, hf.trans HF3.out (fun i hi e => e)⟩
        case measure => simp; omega
end Go.Proofs.YtkaeoflgnnlbeaaGreatDoor
/- What is proved: what Sum and Of answer. Conditions: the table of constants holds what start-up lays; the Hash lies alone in its block; the parts' bytes lie where they are said to lie. -/
namespace Go.Proofs.YtkaeoflgnnlbeaaGreatDoor
open Go.RowKit
set_option linter.unusedVariables false
/-- The sum of bytes, as a value's cells. -/
def sumV (l : List UInt8) : Array Value := idC (stOf (l ++ padB l.length)) 32
theorem sumV_size (l : List UInt8) : (sumV l).size = 32 := idC_size _ _ (by omega)
theorem sumV_one (l : List UInt8) : (sumV l).all (·.oneCell') = true := idC_one _ _
def zero32 : Array Value := (List.replicate 32 (Value.int .u8 0)).toArray
def zero74 : Array Value := hcells 0 S8.zero (List.replicate 64 0) |>.setIfInBounds 0 (.bool false)
theorem zeroH : (Tryz.prog.info? 203).map (fun i => (i.zero, i.size)) = some (some (.agg zero74), 74) := by kernel_rfl
theorem hcells_one (n : Nat) (s : S8) (r : List UInt8) : (hcells n s r).all (·.oneCell') = true := by
  refine Array.all_eq_true_iff_forall_mem.2 (fun v hv => ?_)
  simp only [hcells, S8.vals, List.mem_toArray, List.mem_append, List.mem_cons, List.not_mem_nil, or_false] at hv
  rcases hv with ((rfl | rfl) | hv) | hv
  · rfl
  · rfl
  · rcases hv with rfl | rfl | rfl | rfl | rfl | rfl | rfl | rfl <;> rfl
  · exact bytesV_one r v hv
set_option maxHeartbeats 1600000 in
theorem HSum_any (g : Nat) (l r : List UInt8) (w : World) (h : HashAt w g l r) (ht : Tab w) (hg : g ≠ 0) (hm : l.length ≤ 70368744177664) :
    Calls Tryz.prog 81 #[.pointer (some ⟨g, 0, none⟩)] w fun e w' => e = .returned (.agg (sumV l)) ∧ Below w.heap.size w w' := by
  obtain ⟨w1, hw1⟩ : ∃ w1, w.alloc (.cells zero32 48) = w1 := ⟨_, rfl⟩
  have hF : Fr (fun _ => False) w w1 := by subst hw1; exact (Fr.refl _ w).alloc _
  have hZ : Whole w1 w.heap.size 48 zero32 := by subst hw1; exact Whole.new w 48 zero32
  have hs1 : w1.heap.size = w.heap.size + 1 := by subst hw1; simp
  have hh1 := h.fr hF (fun e => e)
  have ht1 := ht.fr hF (fun e => e)
  have hglt := h.whole.lt
  unfold zero32 at hw1
  simp [List.replicate] at hw1
  have hz := (zero_of_info zeroH).1
  have c1 := hh1.whole.cell 1
  rw [hcells_n] at c1
  have HF := Lib.hid hF
  have HZ := Lib.hid hZ
  have HH1 := Lib.hid hh1
  have HT1 := Lib.hid ht1
  have HS1 := Lib.hid hs1
  clear hF hZ hh1 ht1 hs1 h ht
  go_enter Tryz.func81, Tryz.ntmps81
  go_wp2_with (first
    | (go_at_call 112; refine (Hgood_any g l r _ HH1.out).mono ?_; rintro e w2 ⟨rfl, rfl⟩)
    | (refine wpList_load_row rfl 203 _ rfl _ rfl 203 _ _ _ HH1.out.whole Tryz.underlying203 rfl (by rw [hcells_size, HH1.out.len]; exact sizeH) ?_)
    | (refine wpList_store_at rfl 203 _ _ rfl w1.heap.size 0 203 _ _ rfl rfl (Whole.new w1 203 zero74) (by rw [hcells_size, HH1.out.len]; decide) (by rw [hcells_size, HH1.out.len]; exact sizeH) (hcells_one _ _ _) ?_
       intro w2 hw2 hf2
       rw [laidAt_all _ _ (by rw [hcells_size, HH1.out.len]; rfl)] at hw2
       have hf3 : Fr (fun _ => False) w1 w2 := ((Fr.refl (fun _ => False) w1).alloc _).trans hf2 (fun i hi e => by omega)
       have c2 := hf3.cell c1 (fun e => e)
       have hh2 : HashAt w2 w1.heap.size l r := ⟨HH1.out.len, HH1.out.rest, hw2⟩)
    | (go_at_call 114; refine (SPad_any l.length (by omega) _).mono ?_; rintro e w3 ⟨gp, rfl, hgp, hwp, b3⟩)
    | (go_at_call 80
       have hp3 : Lies w3 (some ⟨gp, 0, none⟩) (bytesV (padB l.length)) := .inr ⟨gp, 0, rfl, fun j u hu => by rw [Nat.zero_add, hwp.cell]; simpa using hu⟩
       have hlt2 := hh2.whole.lt
       refine (HWrite_any w1.heap.size l r _ _ (padB l.length) w3 (hh2.fr (Fr.of_below (S := fun _ => False) b3) (fun e => e)) ((HT1.out.fr hf3 (fun e => e)).fr (Fr.of_below (S := fun _ => False) b3) (fun e => e)) (by have := HT1.out.lt; omega) hp3 (fun _ ad had => by cases had; show gp ≠ _; omega) (Nat.le_refl _) (by rw [padB_length]; have := noughts_lt l.length; omega)).mono ?_
       rintro e w4 ⟨rfl, r4, hh4, hf4⟩
       have hld := hcells_range hh4.whole)
    | (refine wpList_load_mid rfl 147 _ rfl w1.heap.size 2 rfl _ _ hld Tryz.underlying147 rfl size8 ?_)
    | (go_at_call 115; refine (Sjoined_any (stOf (l ++ padB l.length)) (stN_ok _ _) _).mono ?_; rintro e w5 ⟨rfl, b5⟩
       have F5 : Fr (fun _ => False) w1 w5 := ((hf3.then_below b3).trans hf4 (fun i hi e => by omega)).then_below b5
       have hz5 := HZ.out.fr F5 (fun e => e))
    | (refine wpList_store_at rfl 48 _ _ rfl w.heap.size 0 48 _ (sumV l) rfl rfl hz5 (by rw [sumV_size]; decide) (by rw [sumV_size]; exact size32) (sumV_one _) ?_
       intro w6 hw6 hf6))
  have e6 := laidAt_all zero32 (sumV l) (by rw [sumV_size]; rfl)
  rw [e6] at hw6
  refine bodyPost_ret (v := .agg (sumV l)) (results_cell_row (p := 2) rfl _ _ _ _ _ _ _ rfl hw6 Tryz.underlying48 rfl (by rw [sumV_size]; exact size32)) rfl ?_
  exact ⟨rfl, ((HF.out.trans F5 (fun i hi e => e)).trans hf6 (fun i hi e => by omega)).below (fun _ _ e => e)⟩
set_option maxHeartbeats 1600000 in
theorem SOf_any (A : Option Addr) (cap : Nat) (ps : List (List UInt8)) (w : World) (hp : Parts w A ps) (hps : ps.length ≤ 9223372036854775807) (ht : Tab w) (hm : ps.flatten.length ≤ 70368744177664) :
    Calls Tryz.prog 50 #[.slice A ps.length cap] w fun e w' => e = .returned (.agg (sumV ps.flatten)) ∧ Below w.heap.size w w' := by
  obtain ⟨w1, hw1⟩ : ∃ w1, w.alloc (.cells zero32 48) = w1 := ⟨_, rfl⟩
  have hF : Fr (fun _ => False) w w1 := by subst hw1; exact (Fr.refl _ w).alloc _
  have hZ : Whole w1 w.heap.size 48 zero32 := by subst hw1; exact Whole.new w 48 zero32
  have hs1 : w1.heap.size = w.heap.size + 1 := by subst hw1; simp
  unfold zero32 at hw1
  simp [List.replicate] at hw1
  have htlt := ht.lt
  have HF := Lib.hid hF
  have HZ := Lib.hid hZ
  have HS1 := Lib.hid hs1
  have HP := Lib.hid (hp.fr hF)
  have HT := Lib.hid (ht.fr hF (fun e => e))
  have HM := Lib.hid hm
  clear hF hZ hs1 hp ht hm
  go_enter Tryz.func50, Tryz.ntmps50
  go_wp2_with (go_at_call 79; refine (SNew_any _).mono ?_; rintro e w2 ⟨g, r, rfl, hg, hh, b2⟩)
  have HH := Lib.hid hh
  have hg0 : g ≠ 0 := by have := HS1.out; omega
  clear hw1 hh
  go_loopw [9] (fun i wr => ∃ (k : Nat) (r' : List UInt8), k ≤ ps.length ∧ i = .int .i64 k ∧ HashAt wr g (ps.take k).flatten r' ∧ Fr (fun _ => False) w1 wr) (fun i _ => ps.length - (intOf i).toNat)
  case atStart => exact ⟨0, r, by omega, rfl, HH.out, Fr.of_below b2⟩
  case round =>
    obtain ⟨k, r', hk, rfl, hh, hf⟩ := hrel
    by_cases hlt : k < ps.length
    · obtain ⟨p, hpk⟩ : ∃ p, ps[k]? = some p := ⟨_, List.getElem?_eq_getElem hlt⟩
      rcases HP.out with h0 | ⟨b, o, hA, hc⟩
      · rw [h0] at hlt
        simp at hlt
      · obtain ⟨Ai, ci, c1, c2, c3⟩ := hc k p hpk
        have c1' := hf.cell c1 (fun e => e)
        subst hA
        have hft := flatten_take_succ ps k p hpk
        have hfl := flatten_take_le ps (k + 1)
        have hpl : (ps.take k).flatten.length + p.length ≤ 140737488355328 := by
          rw [hft, List.length_append] at hfl
          have := HM.out
          omega
        have HHr := Lib.hid hh
        have HC3 := Lib.hid c3
        have HFT := Lib.hid hft
        clear hh c3 c1 hft hfl
        go_wp2_with (go_at_call 80; refine (HWrite_any g _ r' Ai ci p _ HHr.out (HT.out.fr hf (fun e => e)) hg0 (HC3.out.fr hf (fun _ _ e => e)) (fun hne ad had => by have := HC3.out.lt (by intro e; exact hne (List.eq_nil_of_length_eq_zero (by rw [← bytesV_length, e]; rfl))) ad had; omega) c2 hpl).mono ?_; rintro e w3 ⟨rfl, r3, hh3, hf3⟩)
        go_roundw
        case rel => exact ⟨k + 1, r3, by omega, by go_num, by rw [HFT.out]; exact hh3, hf.trans hf3 (fun i hi e => by omega)⟩
        case measure => simp [intOf]; omega
    · obtain rfl : k = ps.length := by omega
      rw [List.take_length] at hh
      have HHr := Lib.hid hh
      clear hh
      go_wp2_with (first
        | (go_at_call 81; refine (HSum_any g _ r' _ HHr.out (HT.out.fr hf (fun e => e)) hg0 HM.out).mono ?_; rintro e w4 ⟨rfl, b4⟩; have hz4 := HZ.out.fr (hf.then_below b4) (fun e => e))
        | (refine wpList_store_at rfl 48 _ _ rfl w.heap.size 0 48 _ (sumV ps.flatten) rfl rfl hz4 (by rw [sumV_size]; decide) (by rw [sumV_size]; exact size32) (sumV_one _) ?_
           intro w6 hw6 hf6))
      have e6 := laidAt_all zero32 (sumV ps.flatten) (by rw [sumV_size]; rfl)
      rw [e6] at hw6
      refine bodyPost_ret (v := .agg (sumV ps.flatten)) (results_cell_row (p := 2) rfl _ _ _ _ _ _ _ rfl hw6 Tryz.underlying48 rfl (by rw [sumV_size]; exact size32)) rfl ?_
      exact ⟨rfl, ((HF.out.trans (hf.then_below b4) (fun i hi e => e)).trans hf6 (fun i hi e => by omega)).below (fun _ _ e => e)⟩
end Go.Proofs.YtkaeoflgnnlbeaaGreatDoor

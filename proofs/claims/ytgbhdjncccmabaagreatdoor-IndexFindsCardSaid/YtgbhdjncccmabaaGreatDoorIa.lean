/- What is proved: what the walks of this seat need of layers below, merged out of the texts Oia Oib (of each just what is needed). Conditions: each theorem names its own. -/
import Derived.Test.YtgbhdjncccmabaaGreatDoorRows
import Derived.Lib.Bytealg
import Derived.Laws.StructEq
import Derived.Deep.RegionLaw
import Derived.Test.YtgbhdjncccmabaaGreatDoorDa
set_option maxRecDepth 100000
/- What is proved: plain facts on ids: an id as a number below 16^64, its digits, its bytes, its cells; which beginnings are alike; which of two is above. Conditions: none; no program is named. -/
namespace Go.Proofs.YtgbhdjncccmabaaGreatDoor
open Go.RowKit
set_option linter.unusedVariables false
/-- The k-th digit of an id, the first one the highest. -/
def dgt (n k : Nat) : Nat := n / 16 ^ (63 - k) % 16
theorem dgt_lt (n k : Nat) : dgt n k < 16 := Nat.mod_lt _ (by decide)
/-- The number of the first digits. -/
def nuN (D : Nat → Nat) : Nat → Nat
  | 0 => 0
  | n + 1 => nuN D n * 16 + D n
def nu (D : Nat → Nat) : Nat := nuN D 64
/-- A byte out of two digits. -/
def byt (D : Nat → Nat) (i : Nat) : Nat := 16 * D (2 * i) + D (2 * i + 1)
def nuB (b : Nat → Nat) : Nat → Nat
  | 0 => 0
  | n + 1 => nuB b n * 256 + b n
def big : Nat := 16 ^ 64
theorem nuN_lt (D : Nat → Nat) (h : ∀ k, D k < 16) (n : Nat) : nuN D n < 16 ^ n := by
  induction n with
  | zero => simp [nuN]
  | succ n ih => have := h n; rw [nuN, Nat.pow_succ]; omega
theorem nuN_congr (D E : Nat → Nat) (n : Nat) (h : ∀ k, k < n → D k = E k) : nuN D n = nuN E n := by
  induction n with
  | zero => rfl
  | succ n ih => rw [nuN, nuN, ih (fun k hk => h k (by omega)), h n (by omega)]
theorem nuN_inj (D E : Nat → Nat) (hD : ∀ k, D k < 16) (hE : ∀ k, E k < 16) (n : Nat) (h : nuN D n = nuN E n) : ∀ k, k < n → D k = E k := by
  induction n with
  | zero => intro k hk; omega
  | succ n ih =>
    rw [nuN, nuN] at h
    have d := hD n
    have e := hE n
    intro k hk
    rcases Nat.lt_or_ge k n with h1 | h1
    · exact ih (by omega) k h1
    · obtain rfl : k = n := by omega
      omega
theorem nuN_mono (D E : Nat → Nat) (hD : ∀ k, D k < 16) (m n : Nat) (hmn : m ≤ n) (h : nuN D m < nuN E m) : nuN D n < nuN E n := by
  induction n with
  | zero => obtain rfl : m = 0 := by omega
            exact h
  | succ n ih =>
    rcases Nat.lt_or_ge m (n + 1) with h1 | h1
    · have := ih (by omega)
      have d := hD n
      rw [nuN, nuN]
      omega
    · obtain rfl : m = n + 1 := by omega
      exact h
theorem dgt_step (n k : Nat) (hk : k < 64) : n / 16 ^ (64 - (k + 1)) = n / 16 ^ (64 - k) * 16 + dgt n k := by
  unfold dgt
  rw [show 64 - (k + 1) = 63 - k by omega, show 64 - k = (63 - k) + 1 by omega, Nat.pow_succ, ← Nat.div_div_eq_div_mul]
  omega
/-- The number of an id's first digits. -/
theorem nuN_dgt (n : Nat) (hn : n < big) (k : Nat) (hk : k ≤ 64) : nuN (dgt n) k = n / 16 ^ (64 - k) := by
  induction k with
  | zero => rw [nuN, Nat.sub_zero]; exact (Nat.div_eq_of_lt hn).symm
  | succ k ih => rw [nuN, ih (by omega), dgt_step n k (by omega)]
theorem nu_dgt (n : Nat) (hn : n < big) : nu (dgt n) = n := by rw [nu, nuN_dgt n hn 64 (by omega)]; simp
theorem nu_lt (D : Nat → Nat) (h : ∀ k, D k < 16) : nu D < big := nuN_lt D h 64
theorem dgt_nu (D : Nat → Nat) (h : ∀ k, D k < 16) (k : Nat) (hk : k < 64) : dgt (nu D) k = D k :=
  nuN_inj _ _ (dgt_lt _) h 64 (nu_dgt _ (nu_lt D h)) k hk
theorem dgt_inj (a b : Nat) (ha : a < big) (hb : b < big) (h : ∀ k, k < 64 → dgt a k = dgt b k) : a = b := by
  rw [← nu_dgt a ha, ← nu_dgt b hb]
  exact nuN_congr _ _ _ h
/-- Two ids begin alike with j digits. -/
theorem alike_iff (a b : Nat) (ha : a < big) (hb : b < big) (j : Nat) (hj : j ≤ 64) : (∀ k, k < j → dgt a k = dgt b k) ↔ a / 16 ^ (64 - j) = b / 16 ^ (64 - j) := by
  rw [← nuN_dgt a ha j hj, ← nuN_dgt b hb j hj]
  exact ⟨nuN_congr _ _ _, nuN_inj _ _ (dgt_lt _) (dgt_lt _) _⟩
/-- The first j digits, then digits of 0. -/
def cutD (a j k : Nat) : Nat := if k < j then dgt a k else 0
theorem cutD_lt (a j k : Nat) : cutD a j k < 16 := by
  unfold cutD
  split
  · exact dgt_lt a k
  · decide
theorem nuN_cutD (a j m : Nat) (hm : j ≤ m) : nuN (cutD a j) m = nuN (dgt a) j * 16 ^ (m - j) := by
  induction m with
  | zero => obtain rfl : j = 0 := by omega
            rfl
  | succ m ih =>
    rcases Nat.lt_or_ge m j with h | h
    · obtain rfl : j = m + 1 := by omega
      rw [Nat.sub_self, Nat.pow_zero, Nat.mul_one]
      exact nuN_congr _ _ _ (fun k hk => by simp [cutD, hk])
    · rw [nuN, ih h, show m + 1 - j = (m - j) + 1 by omega, Nat.pow_succ, ← Nat.mul_assoc]
      simp [cutD, show ¬ m < j by omega]
theorem nu_cutD (a j : Nat) (ha : a < big) (hj : j ≤ 64) : nu (cutD a j) = a / 16 ^ (64 - j) * 16 ^ (64 - j) := by
  rw [nu, nuN_cutD a j 64 hj, nuN_dgt a ha j hj]
/-- The digits from the j-th on are 0. -/
def RightN (p j : Nat) : Prop := p % 16 ^ (64 - j) = 0
instance (p j : Nat) : Decidable (RightN p j) := inferInstanceAs (Decidable (_ = _))
theorem right_iff_cut (p j : Nat) (hp : p < big) (hj : j ≤ 64) : RightN p j ↔ ∀ k, k < 64 → dgt p k = cutD p j k := by
  have e : RightN p j ↔ p = nu (cutD p j) := by
    rw [nu_cutD p j hp hj, RightN, Nat.mul_comm]
    have := Nat.div_add_mod p (16 ^ (64 - j))
    omega
  rw [e]
  constructor
  · intro h k hk
    conv => lhs; rw [h]
    exact dgt_nu _ (cutD_lt p j) k hk
  · intro h
    have := nuN_congr _ _ 64 h
    rw [← nu, nu_dgt p hp] at this
    exact this
theorem right_iff (p j : Nat) (hp : p < big) (hj : j ≤ 64) : RightN p j ↔ ∀ k, j ≤ k → k < 64 → dgt p k = 0 := by
  rw [right_iff_cut p j hp hj]
  constructor
  · intro h k h1 h2
    rw [h k h2, cutD, if_neg (by omega)]
  · intro h k hk
    unfold cutD
    split
    · rfl
    · exact h k (by omega) hk
/-- An id begins with the first j digits of p, behind which p has none. -/
def FitN (p j x : Nat) : Prop := RightN p j ∧ p / 16 ^ (64 - j) = x / 16 ^ (64 - j)
instance (p j x : Nat) : Decidable (FitN p j x) := inferInstanceAs (Decidable (_ ∧ _))
theorem fit_iff_cut (p j x : Nat) (hp : p < big) (hx : x < big) (hj : j ≤ 64) (hr : RightN p j) : (p / 16 ^ (64 - j) = x / 16 ^ (64 - j)) ↔ ∀ k, k < 64 → dgt p k = cutD x j k := by
  rw [← alike_iff p x hp hx j hj]
  have hz := (right_iff p j hp hj).1 hr
  constructor
  · intro h k hk
    unfold cutD
    split
    · exact h k (by assumption)
    · exact hz k (by omega) hk
  · intro h k hk
    rw [h k (by omega), cutD, if_pos hk]
/-! Bytes. -/
theorem byt_lt (D : Nat → Nat) (h : ∀ k, D k < 16) (i : Nat) : byt D i < 256 := by
  have a := h (2 * i)
  have b := h (2 * i + 1)
  unfold byt; omega
theorem nuB_byt (D : Nat → Nat) (m : Nat) : nuB (byt D) m = nuN D (2 * m) := by
  induction m with
  | zero => rfl
  | succ m ih => rw [nuB, ih, show 2 * (m + 1) = 2 * m + 1 + 1 by omega, nuN, nuN, byt]; omega
theorem byt_congr (D E : Nat → Nat) (i : Nat) (h0 : D (2 * i) = E (2 * i)) (h1 : D (2 * i + 1) = E (2 * i + 1)) : byt D i = byt E i := by rw [byt, byt, h0, h1]
theorem byt_hi (D : Nat → Nat) (h : ∀ k, D k < 16) (i : Nat) : byt D i / 16 = D (2 * i) := by
  have b := h (2 * i + 1)
  unfold byt; omega
theorem byt_low (D : Nat → Nat) (h : ∀ k, D k < 16) (i : Nat) : byt D i % 16 = D (2 * i + 1) := by
  have b := h (2 * i + 1)
  unfold byt; omega
theorem byt_inj (D E : Nat → Nat) (hD : ∀ k, D k < 16) (hE : ∀ k, E k < 16) (h : ∀ i, i < 32 → byt D i = byt E i) (k : Nat) (hk : k < 64) : D k = E k := by
  have hb := h (k / 2) (by omega)
  rcases (by omega : k = 2 * (k / 2) ∨ k = 2 * (k / 2) + 1) with e | e
  · rw [e, ← byt_hi D hD, ← byt_hi E hE, hb]
  · rw [e, ← byt_low D hD, ← byt_low E hE, hb]
/-- The bytes' order is the numbers'. -/
theorem below_at (a b : Nat) (ha : a < big) (hb : b < big) (k : Nat) (hk : k < 32) (h : ∀ i, i < k → byt (dgt a) i = byt (dgt b) i) (hlt : byt (dgt a) k < byt (dgt b) k) : a < b := by
  rw [← nu_dgt a ha, ← nu_dgt b hb]
  refine nuN_mono _ _ (dgt_lt a) (2 * (k + 1)) 64 (by omega) ?_
  rw [← nuB_byt, ← nuB_byt, nuB, nuB]
  have e : nuB (byt (dgt a)) k = nuB (byt (dgt b)) k := by
    clear hlt hk
    induction k with
    | zero => rfl
    | succ k ih => rw [nuB, nuB, ih (fun i hi => h i (by omega)), h k (by omega)]
  omega
theorem same_bytes (a b : Nat) (ha : a < big) (hb : b < big) (h : ∀ i, i < 32 → byt (dgt a) i = byt (dgt b) i) : a = b :=
  dgt_inj a b ha hb (byt_inj _ _ (dgt_lt a) (dgt_lt b) h)
/-- Which is above. -/
def cmpN (a b : Nat) : Int := if a < b then -1 else if b < a then 1 else 0
def idB (D : Nat → Nat) (o m : Nat) : List UInt8 := (List.range' o m).map fun i => UInt8.ofNat (byt D i)
theorem cmp_bytes (a b : Nat) (ha : a < big) (hb : b < big) (m : Nat) : ∀ o, o + m = 32 → (∀ i, i < o → byt (dgt a) i = byt (dgt b) i) → Lib.compareBytes (idB (dgt a) o m) (idB (dgt b) o m) = cmpN a b := by
  induction m with
  | zero =>
    intro o ho h
    obtain rfl : o = 32 := by omega
    have := same_bytes a b ha hb h
    subst this
    simp [idB, Lib.compareBytes, cmpN]
  | succ m ih =>
    intro o ho h
    have e : ∀ x, idB (dgt x) o (m + 1) = UInt8.ofNat (byt (dgt x) o) :: idB (dgt x) (o + 1) m := fun x => by simp [idB, List.range'_succ]
    rw [e, e, Lib.compareBytes]
    have la := byt_lt _ (dgt_lt a) o
    have lb := byt_lt _ (dgt_lt b) o
    have lt : ∀ x y : Nat, x < 256 → y < 256 → ((UInt8.ofNat x < UInt8.ofNat y) ↔ x < y) := fun x y hx hy => by
      rw [UInt8.lt_iff_toNat_lt, UInt8.toNat_ofNat', UInt8.toNat_ofNat', Nat.mod_eq_of_lt hx, Nat.mod_eq_of_lt hy]
    simp only [lt _ _ la lb, lt _ _ lb la]
    by_cases h1 : byt (dgt a) o < byt (dgt b) o
    · rw [if_pos h1, cmpN, if_pos (below_at a b ha hb o (by omega) h h1)]
    · rw [if_neg h1]
      by_cases h2 : byt (dgt b) o < byt (dgt a) o
      · have := below_at b a hb ha o (by omega) (fun i hi => (h i hi).symm) h2
        rw [if_pos h2, cmpN, if_neg (by omega), if_pos this]
      · rw [if_neg h2]
        exact ih (o + 1) (by omega) (fun i hi => by
          rcases Nat.lt_or_ge i o with h3 | h3
          · exact h i h3
          · obtain rfl : i = o := by omega
            omega)
/-! Cells. -/
def cellD (D : Nat → Nat) (i : Nat) : Value := .int .u8 (byt D i : Nat)
def idC (D : Nat → Nat) : Array Value := ((List.range 32).map (cellD D)).toArray
theorem idC_size (D : Nat → Nat) : (idC D).size = 32 := by simp [idC]
theorem idC_get (D : Nat → Nat) (i : Nat) (h : i < 32) : (idC D)[i]? = some (cellD D i) := by simp [idC, h]
theorem idC_one (D : Nat → Nat) : (idC D).all (·.oneCell') = true := by
  refine Array.all_eq_true_iff_forall_mem.2 (fun v hv => ?_)
  simp only [idC, List.mem_toArray, List.mem_map, List.mem_range] at hv
  obtain ⟨i, _, rfl⟩ := hv
  rfl
theorem idC_congr (D E : Nat → Nat) (h : ∀ k, k < 64 → D k = E k) : idC D = idC E := by
  unfold idC
  congr 1
  refine List.map_congr_left (fun i hi => ?_)
  have hi : i < 32 := by simpa using hi
  unfold cellD
  rw [byt_congr D E i (h _ (by omega)) (h _ (by omega))]
theorem idC_nu (D : Nat → Nat) (h : ∀ k, D k < 16) : idC (dgt (nu D)) = idC D := idC_congr _ _ (dgt_nu D h)
theorem idC_list (D : Nat → Nat) : idC D = (((List.range 32).map fun i => ((byt D i : Nat) : Int)).map (Value.int .u8)).toArray := by
  simp [idC, cellD, List.map_map, Function.comp_def]
/-- A beginning: an id's digits, and how many. -/
def pfC (D : Nat → Nat) (N : Int) : Array Value := idC D ++ #[.int .i64 N]
theorem pfC_size (D : Nat → Nat) (N : Int) : (pfC D N).size = 33 := by simp [pfC, idC_size]
theorem pfC_one (D : Nat → Nat) (N : Int) : (pfC D N).all (·.oneCell') = true := by
  rw [pfC, Array.all_append, idC_one]; simp [Value.oneCell']
theorem pfC_get (D : Nat → Nat) (N : Int) (i : Nat) (h : i < 32) : (pfC D N)[i]? = some (cellD D i) := by
  rw [pfC, Array.getElem?_append_left (by rw [idC_size]; exact h), idC_get D i h]
theorem pfC_N (D : Nat → Nat) (N : Int) : (pfC D N)[32]? = some (.int .i64 N) := by
  rw [pfC, Array.getElem?_append_right (by rw [idC_size]; exact Nat.le_refl _), idC_size]; rfl
theorem pfC_ids (D : Nat → Nat) (N : Int) : (pfC D N).toList.take 32 = (idC D).toList := by
  rw [pfC, Array.toList_append, List.take_append_of_le_length (by simp [idC_size]), List.take_of_length_le (by simp [idC_size])]
end Go.Proofs.YtgbhdjncccmabaaGreatDoor
/- What is proved: plain facts on memory for ids: one id, or one beginning, held against another one whole; a load, a box, a store of one. Conditions: none. -/
namespace Go.Proofs.YtgbhdjncccmabaaGreatDoor
open Go.RowKit
set_option linter.unusedVariables false
theorem run_equal_ints {P : Program} (w : World) (d : Nat) (t e : TypeId) (n : Nat) (k : IntKind) (ht : P.underlying t = some (.array n e)) (he : P.underlying e = some (.int k)) (hsz : ∀ w, (sizeOf e).run P w = .ok 1 w)
    (zs ys : List Int) (hz : zs.length = n) (hy : ys.length = n) : (Op.equalIn (d + 2) t (.agg (zs.map (Value.int k)).toArray) (.agg (ys.map (Value.int k)).toArray)).run P w = .ok (decide (zs = ys)) w := by
  rw [Op.equalIn]
  simp only [Sem.run_bind, run_underlying ht, Result.andThen_ok, hsz, Std.Legacy.Range.forIn_eq_forIn_range', Std.Legacy.Range.size, Nat.sub_zero, Nat.add_sub_cancel, Nat.div_one]
  have px : ∀ (xs : List Int) (i : Nat), i < xs.length → (part e (xs.map (Value.int k)).toArray (i * 1)).run P w = .ok (.int k (xs.getD i 0)) w := fun xs i hi => by
    simp [part, isAgg, run_underlying he, List.getD, List.getElem?_eq_getElem hi]
  have pe : ∀ i, (Op.equalIn (d + 1) e (.int k (zs.getD i 0)) (.int k (ys.getD i 0))).run P w = .ok (zs.getD i 0 == ys.getD i 0) w := fun i => run_equalIn_int w d e k k _ _ he
  have hall : ∀ m o, o + m = n → (∀ i, i < o → zs.getD i 0 = ys.getD i 0) → (decide (zs = ys)) = (List.range' o m 1).all (fun i => zs.getD i 0 == ys.getD i 0) := by
    intro m o ho hp
    rw [Bool.eq_iff_iff]
    simp only [decide_eq_true_eq, List.all_eq_true, beq_iff_eq]
    constructor
    · rintro rfl i _; rfl
    · intro h
      apply List.ext_getElem (by omega)
      intro i h1 h2
      have : zs.getD i 0 = ys.getD i 0 := by
        rcases Nat.lt_or_ge i o with h3 | h3
        · exact hp i h3
        · exact h i (by rw [List.mem_range'_1]; omega)
      simpa [List.getD, List.getElem?_eq_getElem h1, List.getElem?_eq_getElem h2] using this
  rw [hall n 0 (by omega) (fun i hi => by omega)]
  have hl : ∀ i ∈ List.range' 0 n 1, i < n := fun i hi => by simpa using (List.mem_range'_1.1 hi).2
  generalize List.range' 0 n 1 = l at hl ⊢
  clear hall
  induction l with
  | nil => simp
  | cons i l ih =>
    have hi : i < n := hl i (by simp)
    simp only [List.forIn_cons, Sem.run_bind, px zs i (by omega), px ys i (by omega), pe i, Result.andThen_ok, List.all_cons]
    cases hc : (zs.getD i 0 == ys.getD i 0)
    · simp only [Bool.not_false, if_true, Sem.run_pure, Result.andThen_ok, Bool.false_and]
    · simp only [Bool.not_true, Bool.false_eq_true, if_false, Sem.run_pure, Result.andThen_ok, Bool.true_and]
      exact ih fun j hj => hl j (by simp [hj])
/-- Two ids are one. -/
def sameD (D E : Nat → Nat) : Bool := nu D == nu E
theorem sameD_iff (D E : Nat → Nat) (hD : ∀ k, D k < 16) (hE : ∀ k, E k < 16) : sameD D E = true ↔ ∀ k, k < 64 → D k = E k := by
  rw [sameD, beq_iff_eq]
  exact ⟨nuN_inj D E hD hE 64, nuN_congr D E 64⟩
theorem sameD_dgt (a b : Nat) (ha : a < big) (hb : b < big) : sameD (dgt a) (dgt b) = (a == b) := by rw [sameD, nu_dgt a ha, nu_dgt b hb]
theorem eq_ids (D E : Nat → Nat) (hD : ∀ k, D k < 16) (hE : ∀ k, E k < 16) (m : Nat) (hm : 2 ≤ m) (w : World) : (Op.equalIn m 24 (.agg (idC D)) (.agg (idC E))).run Tryz.prog w = .ok (sameD D E) w := by
  obtain ⟨d, rfl⟩ : ∃ d, m = d + 2 := ⟨m - 2, by omega⟩
  have e : ∀ D : Nat → Nat, idC D = (((List.range 32).map fun i => ((byt D i : Nat) : Int)).map (Value.int .u8)).toArray := idC_list
  have h := run_equal_ints (P := Tryz.prog) w d 24 5 32 .u8 Tryz.underlying24 Tryz.underlying5 (fun _ => by kernel_rfl) ((List.range 32).map fun i => ((byt D i : Nat) : Int)) ((List.range 32).map fun i => ((byt E i : Nat) : Int)) (by simp) (by simp)
  rw [← e, ← e] at h
  rw [h]
  congr 1
  rw [Bool.eq_iff_iff, decide_eq_true_eq, sameD_iff D E hD hE]
  constructor
  · intro h
    refine byt_inj D E hD hE (fun i hi => ?_)
    have := congrArg (fun l : List Int => l[i]?) h
    simp [hi] at this
    omega
  · intro h
    exact List.map_congr_left (fun i hi => by
      have hi : i < 32 := by simpa using hi
      rw [byt_congr D E i (h _ (by omega)) (h _ (by omega))])
/-- Two ids, by number, held against one another whole. -/
theorem eq_nums (a b : Nat) (ha : a < big) (hb : b < big) (w : World) : (Op.equalIn 10000 24 (.agg (idC (dgt a))) (.agg (idC (dgt b)))).run Tryz.prog w = .ok (a == b) w := by
  rw [eq_ids (dgt a) (dgt b) (dgt_lt a) (dgt_lt b) 10000 (by decide) w]
  rw [sameD_dgt a b ha hb]
theorem pfC_ext (D : Nat → Nat) (N : Int) : (pfC D N).extract 0 32 = idC D := by
  apply Array.toList_inj.1
  rw [Array.toList_extract, List.extract, List.drop_zero, pfC_ids]
theorem fieldsP : (Tryz.prog.fieldsOf 26).toList.map (fun f => (f.name, f.type, f.offset)) = [("ID", 24, 0), ("N", 3, 32)] := by kernel_rfl
theorem underP : Tryz.prog.underlying 26 = some (.struct (Tryz.prog.fieldsOf 26)) := by kernel_rfl
theorem stoodP : Tryz.prog.stoodInHeld 26 = false := by kernel_rfl
theorem aggID (w : World) : (isAgg 24).run Tryz.prog w = .ok true w := by kernel_rfl
theorem sizID (w : World) : (sizeOf 24).run Tryz.prog w = .ok 32 w := by kernel_rfl
theorem aggInt (w : World) : (isAgg 3).run Tryz.prog w = .ok false w := by kernel_rfl
theorem partID (D : Nat → Nat) (N : Int) (w : World) : (part 24 (pfC D N) 0).run Tryz.prog w = .ok (.agg (idC D)) w := by
  simp only [part, Sem.run_bind, aggID, sizID, Result.andThen_ok, if_true, Sem.run_pure]
  rw [Nat.zero_add, pfC_ext]
theorem partN (D : Nat → Nat) (N : Int) (w : World) : (part 3 (pfC D N) 32).run Tryz.prog w = .ok (.int .i64 N) w := by
  simp only [part, Sem.run_bind, aggInt, Result.andThen_ok, Bool.false_eq_true, if_false, pfC_N, Sem.run_pure]
theorem eq_pfxs (D E : Nat → Nat) (hD : ∀ k, D k < 16) (hE : ∀ k, E k < 16) (M N : Int) (m : Nat) (hm : 3 ≤ m) (w : World) : (Op.equalIn m 26 (.agg (pfC D M)) (.agg (pfC E N))).run Tryz.prog w = .ok (sameD D E && (M == N)) w := by
  obtain ⟨d, rfl⟩ : ∃ d, m = d + 2 + 1 := ⟨m - 3, by omega⟩
  rw [run_equalIn_struct w (d + 2) 26 _ _ underP stoodP]
  have hf := fieldsP
  generalize (Tryz.prog.fieldsOf 26).toList = fs at hf
  rcases fs with _ | ⟨f, _ | ⟨g, _ | ⟨f', fs'⟩⟩⟩
  · simp at hf
  · simp at hf
  · simp only [List.map_cons, List.map_nil, List.cons.injEq, Prod.mk.injEq, and_true] at hf
    obtain ⟨⟨f1, f2, f3⟩, g1, g2, g3⟩ := hf
    have en : (Op.equalIn (d + 2) 3 (.int .i64 M) (.int .i64 N)).run Tryz.prog w = .ok (M == N) w := run_equalIn_int w (d + 1) 3 .i64 .i64 M N Tryz.underlying3
    have ei := eq_ids D E hD hE (d + 2) (by omega) w
    simp only [Op.eqFields, f1, f2, f3, g1, g2, g3, Sem.run_bind, partID, ei, Result.andThen_ok, ne_eq, show ¬ ("ID" = "_") by decide, show ¬ ("N" = "_") by decide, not_false_eq_true, if_true]
    cases sameD D E
    · simp
    · simp only [Bool.not_true, Bool.false_eq_true, if_false, Sem.run_bind, partN, en, Result.andThen_ok, Bool.true_and]
      cases (M == N) <;> simp
  · simp at hf
end Go.Proofs.YtgbhdjncccmabaaGreatDoor

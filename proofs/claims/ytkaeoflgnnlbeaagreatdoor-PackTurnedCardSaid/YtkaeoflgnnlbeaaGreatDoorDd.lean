/- What is proved: what the walks of this seat need of layers below, merged out of the texts Raw Dig Var (of each just what is needed). Conditions: each theorem names its own. -/
import Derived.Test.YtkaeoflgnnlbeaaGreatDoorDc
/- What is proved: the Reader's Raw. Conditions: a reader that the caller holds, or a nil one. -/
namespace Go.Proofs.YtkaeoflgnnlbeaaGreatDoor
open Go.RowKit
set_option linter.unusedVariables false
variable {X : Option Int}
def rawErr (len p : Nat) (er n : Int) : Int := if n < 0 then failErr er 3 else hasErr len p er n
def rawB (bs : List UInt8) (p : Nat) (er n : Int) : List UInt8 := if n < 0 then [] else if hasErr bs.length p er n = 0 then (bs.drop p).take n.toNat else []
def rawAt (len p : Nat) (er n : Int) : Nat := if n < 0 then p else stepAt len p er n.toNat
def RawPost (X : Option Int) (w : World) (g : Nat) (v : Value) (bs : List UInt8) (p : Nat) (er n : Int) (e : Ending) (w' : World) : Prop :=
  ∃ v', e = .returned v' ∧ w'.ownsRow w.heap.size 5 1 v' (rawB bs p er n).length (bytesV (rawB bs p er n)) ∧ Rd X w' g v bs (rawAt bs.length p er n) (rawErr bs.length p er n) ∧ RFr g w w'
theorem own_down {w : World} {base base' : Nat} {e : TypeId} {size n : Nat} {v : Value} {xs : List Value} (h : w.ownsRow base e size v n xs) (hb : base' ≤ base) : w.ownsRow base' e size v n xs := by
  refine ⟨h.1, ?_⟩
  rcases h.2 with h0 | ⟨g, cap, cur, hv, hg, r⟩
  · exact .inl h0
  · exact .inr ⟨g, cap, cur, hv, Nat.le_trans hb hg, r⟩
theorem lies_cut {w : World} {b o : Nat} {xs : List UInt8} (h : Lies w (some ⟨b, o, none⟩) (bytesV xs)) (p n : Nat) : Lies w (some ⟨b, o + p, none⟩) (bytesV ((xs.drop p).take n)) := by
  rcases h with h | ⟨b', o', h, hc⟩
  · have : xs = [] := List.eq_nil_of_length_eq_zero (by rw [← bytesV_length, h]; rfl)
    subst this
    exact .inl (by simp [bytesV])
  · injection h with h
    injection h with h1 h2
    subst h1; subst h2
    refine .inr ⟨b, o + p, rfl, fun j u hu => ?_⟩
    rw [Nat.add_assoc]
    apply hc
    unfold bytesV at hu ⊢
    rw [List.getElem?_map, List.getElem?_take] at hu
    rw [List.getElem?_map]
    split at hu
    · rwa [List.getElem?_drop] at hu
    · simp at hu
theorem cut_lies {w : World} {A : Option Addr} {bs : List UInt8} (h : Lies w A (bytesV bs)) {p c : Nat} (hc : bs.length ≤ c) (N : Nat) : Lies w (if c = p then A else Option.map (fun x => x.add p) A) (bytesV ((bs.drop p).take N)) := by
  by_cases hcp : c = p
  · rw [if_pos hcp, List.drop_of_length_le (by omega)]
    exact .inl (by simp [bytesV])
  · rw [if_neg hcp]
    by_cases hb : bs = []
    · subst hb
      exact .inl (by simp [bytesV])
    · obtain ⟨b, o, rfl⟩ := lies_at h hb
      rw [Option.map_some, add_off]
      exact lies_cut h p N
theorem own_n (A : Option Addr) (c N : Nat) (xs : List UInt8) (w : World) (hN : xs.length = N) (h : Lies w A (bytesV xs)) (hb : xs.length ≤ 140737488355328) :
    Calls Tryz.prog 51 #[.slice A N c] w (OwnPost w xs) := by
  subst hN
  exact own_any A c xs w h hb
set_option maxHeartbeats 1600000 in
theorem RRaw_any (g : Nat) (v : Value) (bs : List UInt8) (p : Nat) (er n : Int) (w : World) (h : Rd X w g v bs p er) (hn0 : -9223372036854775808 ≤ n) (hn1 : n ≤ 9223372036854775807) :
    Calls Tryz.prog 65 #[.pointer (some ⟨g, 0, none⟩), .int .i64 n] w (RawPost X w g v bs p er n) := by
  have hsm := h.small
  by_cases hneg : n < 0
  · have hB : hasB bs.length p (failErr er 3) n = false := by
      unfold hasB failErr
      split
      · simp
      · simp [*]
    have hE : hasErr bs.length p (failErr er 3) n = failErr er 3 := by
      unfold hasErr failErr
      split
      · rename_i h1; subst h1; rw [if_neg (by decide)]
      · rfl
    have HB := Lib.hid hB
    have HE := Lib.hid hE
    clear hB hE
    go_enter_defers Tryz.func65, Tryz.ntmps65
    go_wp2_with (first
      | (go_at_call 87; refine (RAt_any g v bs p _ _ h).mono ?_; rintro e w1 ⟨rfl, rfl⟩)
      | (go_at_call 96; refine (Rfail_any g v bs p _ _ _ h).mono ?_; rintro e w2 ⟨rfl, h2, f2⟩)
      | (go_at_call 97; refine (Rhas_any g v bs p _ _ _ h2).mono ?_; rintro e w3 ⟨rfl, h3, f3⟩; rw [HB.out]; rw [HE.out] at h3))
    refine leaves_cons (f := 95) (args := #[.pointer (some ⟨g, 0, none⟩), .int .i64 p]) (by simp) (by simp [go_sem]) ?_
    refine (Rlook_any g v bs p p _ .returning _ h3 h.le).mono ?_
    rintro e u' w'' ⟨rfl, rfl, h4, f4⟩
    have e1 : backAt (failErr er 3) p p = rawAt bs.length p er n := by unfold backAt rawAt; rw [if_pos hneg]; split <;> rfl
    have e2 : failErr er 3 = rawErr bs.length p er n := by unfold rawErr; rw [if_pos hneg]
    have e3 : rawB bs p er n = [] := by unfold rawB; rw [if_pos hneg]
    rw [e1, e2] at h4
    refine ⟨_, results_tmp rfl _ _ _, _, rfl, ?_, h4, (f2.trans f3).trans f4⟩
    rw [e3]
    exact World.ownsRow_nil _ _ _ _
  · by_cases hb : hasB bs.length p er n = true
    · obtain ⟨rfl, hp⟩ := hasB_true hb
      obtain ⟨N, rfl⟩ := Int.eq_ofNat_of_zero_le (show 0 ≤ n by omega)
      obtain ⟨A, c, hv, hc, hm, -⟩ := own_lies h.own
      have hE : hasErr bs.length p 0 N = 0 := hasErr_ok hp
      have HE := Lib.hid hE
      have HB := Lib.hid hb
      clear hE hb
      subst hv
      have hpw : IntKind.i64.wrap ((p : Int) + N) = (p : Int) + N := IntWalk.i64_in _ (by omega)
      have hpn : ((p : Int) + N).toNat = p + N := by omega
      have hp0 : (0 : Int) ≤ (p : Int) := by omega
      have hp1 : (0 : Int) ≤ (p : Int) + N := by omega
      have hpc : (p : Int) + N ≤ c := by omega
      have hple : (p : Int) ≤ (p : Int) + N := by omega
      go_enter_defers Tryz.func65, Tryz.ntmps65
      go_wp2_with (first
        | (go_at_call 87; refine (RAt_any g _ bs p _ _ h).mono ?_; rintro e w1 ⟨rfl, rfl⟩)
        | (go_at_call 97; refine (Rhas_any g _ bs p _ _ _ h).mono ?_; rintro e w2 ⟨rfl, h2, f2⟩; rw [HB.out]; rw [HE.out] at h2))
      have c0 := h2.c0
      have c1 := h2.c1
      have hL : Lies w2 (if c = p then A else Option.map (fun x => x.add p) A) (bytesV ((bs.drop p).take N)) := cut_lies (Lies.of_own h2.own) hc N
      have hNl : ((bs.drop p).take N).length = N := by rw [List.length_take, List.length_drop]; omega
      obtain ⟨A', hA'⟩ : ∃ A', (if c = p then A else Option.map (fun x => x.add p) A) = A' := ⟨_, rfl⟩
      rw [hA'] at hL
      have HL := Lib.hid hL
      have HN := Lib.hid hNl
      have hglt := h2.whole.lt
      clear hL hNl hm
      go_region_held3 (fun w' => w'.cell? ⟨g, 0, none⟩ = some (.slice A bs.length c) ∧ w'.cell? ⟨g, 1, none⟩ = some (.int .i64 p)) (go_keep)
        ((go_at_call 51; refine (own_n _ _ N _ _ HN.out (by exact HL.out) (by rw [HN.out]; omega)).mono ?_; rintro e w3 ⟨v3, rfl, h3, b3⟩; have k0 := (b3.cell (p := ⟨g, 0, none⟩) hglt).trans c0; have k1 := (b3.cell (p := ⟨g, 1, none⟩) hglt).trans c1))
      have b3' : Below w2.heap.size w2 w3 := ⟨b3.os, b3.tape, b3.output, b3.size, b3.block⟩
      have hr3 := h2.below b3'
      have f31 := hr3.whole.frozen 1
      have h5 := hr3.setAt (q := p + N) (by omega)
      go_wp2
      go_outline
      refine leaves_cons (f := 95) (args := #[.pointer (some ⟨g, 0, none⟩), .int .i64 p]) (by simp) (by simp [go_sem]) ?_
      refine (Rlook_any g _ bs _ p 0 .returning _ h5 h.le).mono ?_
      rintro e u' w'' ⟨rfl, rfl, h4, f4⟩
      have e1 : backAt 0 (p + N) p = rawAt bs.length p 0 N := by
        unfold backAt rawAt stepAt
        rw [if_pos rfl, if_neg (by omega), Int.toNat_natCast, if_pos ⟨rfl, by omega⟩]
      have e2 : rawErr bs.length p 0 N = 0 := by unfold rawErr; rw [if_neg (by omega)]; exact HE.out
      have e3 : rawB bs p 0 N = (bs.drop p).take N := by unfold rawB; rw [if_neg (by omega), if_pos HE.out, Int.toNat_natCast]
      rw [e1] at h4
      have hgne : ∀ k, v3.ownBlock = some k → ¬ k = g := fun k hk e => by
        have h6 := (World.ownsRow.lt h3 k hk).1
        have h7 : w2.heap.size ≤ k := h6
        omega
      have f5 : RFr g w3 w'' := ((RFr.refl g w3).set 1 _).trans f4
      refine ⟨_, results_tmp rfl _ _ _, v3, rfl, ?_, by rw [e2]; exact h4, (Fr.then_below f2 b3').trans f5 (fun _ _ e => e)⟩
      rw [e3]
      exact own_down (own_fr h3 f5 hgne) f2.size
    · have hf := hasB_false hb
      have HB := Lib.hid (by simpa using hb : hasB bs.length p er n = false)
      have HF := Lib.hid hf
      clear hf hb
      go_enter_defers Tryz.func65, Tryz.ntmps65
      go_wp2_with (first
        | (go_at_call 87; refine (RAt_any g v bs p _ _ h).mono ?_; rintro e w1 ⟨rfl, rfl⟩)
        | (go_at_call 97; refine (Rhas_any g v bs p _ _ _ h).mono ?_; rintro e w3 ⟨rfl, h3, f3⟩; rw [HB.out]))
      refine leaves_cons (f := 95) (args := #[.pointer (some ⟨g, 0, none⟩), .int .i64 p]) (by simp) (by simp [go_sem]) ?_
      refine (Rlook_any g v bs p p _ .returning _ h3 h.le).mono ?_
      rintro e u' w'' ⟨rfl, rfl, h4, f4⟩
      have hz : hasErr bs.length p er n ≠ 0 := fun e => by
        have := hasErr_zero e
        rcases HF.out with h1 | h1 <;> omega
      have e1 : backAt (hasErr bs.length p er n) p p = rawAt bs.length p er n := by
        unfold backAt rawAt stepAt
        rw [if_neg hz, if_neg (by omega), if_neg]
        rintro ⟨h1, h2⟩
        rcases HF.out with h3 | h3 <;> omega
      have e2 : hasErr bs.length p er n = rawErr bs.length p er n := by unfold rawErr; rw [if_neg (by omega)]
      have e3 : rawB bs p er n = [] := by unfold rawB; rw [if_neg (by omega), if_neg hz]
      rw [e1, e2] at h4
      refine ⟨_, results_tmp rfl _ _ _, _, rfl, ?_, h4, f3.trans f4⟩
      rw [e3]
      exact World.ownsRow_nil _ _ _ _
end Go.Proofs.YtkaeoflgnnlbeaaGreatDoor
/- What is proved: the Reader's digits to the base 128 (digits): what a number of any size is read as, or the error. Conditions: a reader that the caller holds. -/
namespace Go.Proofs.YtkaeoflgnnlbeaaGreatDoor
open Go.RowKit
set_option linter.unusedVariables false
variable {X : Option Int}
/-- A number of any size off the bytes: its value, how many bytes it took, the error (f: rounds left; k: the round; a: so far). -/
def scan : Nat → Nat → Nat → List UInt8 → Nat × Nat × Int
  | 0, _, _, _ => (0, 0, 12)
  | _ + 1, _, _, [] => (0, 0, 10)
  | f + 1, k, a, c :: t =>
    if (k = 9 ∧ 1 < c.toNat) ∨ (0 < k ∧ c.toNat = 0) then (0, 0, 12)
    else if c.toNat < 128 then (a + c.toNat % 128 * 128 ^ k, k + 1, 0)
    else scan f (k + 1) (a + c.toNat % 128 * 128 ^ k) t
def varR (l : List UInt8) : Nat × Nat × Int := scan 10 0 0 l
def digR (bs : List UInt8) (p : Nat) (er : Int) : Nat × Nat × Int := if er = 0 then varR (bs.drop p) else (0, 0, er)
theorem scan_size (f k a : Nat) (l : List UInt8) : (scan f k a l).2.2 = 0 → k + 1 ≤ (scan f k a l).2.1 ∧ (scan f k a l).2.1 ≤ k + l.length ∧ (scan f k a l).2.1 ≤ k + f := by
  induction f generalizing k a l with
  | zero => intro h; simp [scan] at h
  | succ f ih =>
    cases l with
    | nil => intro h; simp [scan] at h
    | cons c t =>
      unfold scan
      split
      · intro h; simp at h
      · split
        · intro _; simp
        · intro h
          have := ih _ _ _ h
          simp only [List.length_cons]
          omega
theorem scan_err (f k a : Nat) (l : List UInt8) : (scan f k a l).2.2 = 0 ∨ ((scan f k a l).1 = 0 ∧ ((scan f k a l).2.2 = 10 ∨ (scan f k a l).2.2 = 12)) := by
  induction f generalizing k a l with
  | zero => simp [scan]
  | succ f ih =>
    cases l with
    | nil => simp [scan]
    | cons c t =>
      unfold scan
      split
      · simp
      · split
        · simp
        · exact ih _ _ _
theorem scan_lt (f k a : Nat) (l : List UInt8) (ha : a < 128 ^ k) (hk : k + f = 10) : (scan f k a l).1 < 18446744073709551616 := by
  induction f generalizing k a l with
  | zero => simp [scan]
  | succ f ih =>
    cases l with
    | nil => simp [scan]
    | cons c t =>
      have hlt : a + c.toNat % 128 * 128 ^ k < 128 ^ (k + 1) := by
        rw [Nat.pow_succ]
        have h1 : c.toNat % 128 * 128 ^ k ≤ 127 * 128 ^ k := Nat.mul_le_mul_right _ (by omega)
        omega
      unfold scan
      split
      · simp
      · rename_i hn
        split
        · by_cases h9 : k = 9
          · subst h9
            have : c.toNat ≤ 1 := by omega
            have h1 : c.toNat % 128 * 128 ^ 9 ≤ 1 * 128 ^ 9 := Nat.mul_le_mul_right _ (by omega)
            simp only
            omega
          · have : 128 ^ (k + 1) ≤ 128 ^ 9 := Nat.pow_le_pow_right (by decide) (by omega)
            simp only
            omega
        · exact ih _ _ _ hlt (by omega)
theorem varR_lt (l : List UInt8) : (varR l).1 < 18446744073709551616 := scan_lt 10 0 0 l (by decide) rfl
theorem digR_lt (bs : List UInt8) (p : Nat) (er : Int) : (digR bs p er).1 < 18446744073709551616 := by
  unfold digR; split
  · exact varR_lt _
  · show 0 < 18446744073709551616
    decide
theorem pow128_le {k : Nat} (h : k ≤ 9) : (128 : Nat) ^ k ≤ 9223372036854775808 := by
  have := Nat.pow_le_pow_right (show 0 < 128 by decide) h
  simpa using this
theorem u8_and127 (c : Int) (h0 : 0 ≤ c) (h1 : c ≤ 255) : bits .and .u8 c 127 = c % 128 := by
  rw [u8_and c 127 h0 (by omega) (by omega) (by omega)]
  have e : c.toNat &&& 127 = c.toNat % 2 ^ 7 := Nat.and_two_pow_sub_one_eq_mod c.toNat 7
  show ((c.toNat &&& 127 : Nat) : Int) = _
  rw [e]
  omega
theorem shl_or (m c : Int) (k : Nat) (h0 : 0 ≤ m) (hm : m.toNat < 128 ^ k) (hk : k ≤ 9) (hc0 : 0 ≤ c) (hc1 : c ≤ 255) (h9 : k = 9 → c ≤ 1) :
    bits .or .u64 m (IntKind.u64.wrap (IntKind.u64.wrap (bits .and .u8 c 127) * 2 ^ (7 * k))) = ((m.toNat + c.toNat % 128 * 128 ^ k : Nat) : Int) := by
  rw [u8_and127 c hc0 hc1, IntKind.wrap_u64, IntKind.wrap_u64]
  have e1 : c % 128 % 18446744073709551616 = ((c.toNat % 128 : Nat) : Int) := by omega
  have e2 : (128 : Nat) ^ k = 2 ^ (7 * k) := by rw [Nat.pow_mul]
  have hb : c.toNat % 128 * 2 ^ (7 * k) < 18446744073709551616 := by
    rw [← e2]
    by_cases h : k = 9
    · subst h
      have := h9 rfl
      have h1 : c.toNat % 128 * 128 ^ 9 ≤ 1 * 128 ^ 9 := Nat.mul_le_mul_right _ (by omega)
      omega
    · have h2 : (128 : Nat) ^ k ≤ 128 ^ 8 := Nat.pow_le_pow_right (by decide) (by omega)
      have h3 : c.toNat % 128 * 128 ^ k ≤ 127 * 128 ^ 8 := Nat.mul_le_mul (by omega) h2
      omega
  have hm64 : m.toNat < 18446744073709551616 := by have := pow128_le hk; omega
  rw [e1]
  have e3 : ((c.toNat % 128 : Nat) : Int) * 2 ^ (7 * k) = ((c.toNat % 128 * 2 ^ (7 * k) : Nat) : Int) := by push_cast; rfl
  rw [e3]
  have e4 : ((c.toNat % 128 * 2 ^ (7 * k) : Nat) : Int) % 18446744073709551616 = ((c.toNat % 128 * 2 ^ (7 * k) : Nat) : Int) := by omega
  rw [e4, u64_or m _ h0 (by omega) (by omega) (by omega), Int.toNat_natCast, Nat.or_comm, ← Nat.shiftLeft_eq, ← Nat.shiftLeft_add_eq_or_of_lt (by rw [← e2]; exact hm), Nat.shiftLeft_eq, ← e2, Nat.add_comm]
def DigPost (X : Option Int) (w : World) (g : Nat) (v : Value) (bs : List UInt8) (p : Nat) (er : Int) (e : Ending) (w' : World) : Prop :=
  ∃ q, e = .returned (.int .u64 (digR bs p er).1) ∧ Rd X w' g v bs q (digR bs p er).2.2 ∧ RFr g w w' ∧ ((digR bs p er).2.2 = 0 → q = p + (digR bs p er).2.1)
def DigRel (X : Option Int) (w : World) (g : Nat) (v : Value) (bs : List UInt8) (p k : Nat) (m : Int) (wr : World) : Prop :=
  Rd X wr g v bs (p + k) 0 ∧ RFr g w wr ∧ m.toNat < 128 ^ k ∧ scan (10 - k) k m.toNat (bs.drop (p + k)) = varR (bs.drop p)
theorem drop_byte {bs : List UInt8} {q : Nat} (h : q < bs.length) : bs.drop q = byteAt bs q 0 :: bs.drop (q + 1) := by
  rw [List.drop_eq_getElem_cons h]
  unfold byteAt
  rw [if_pos rfl, List.getD_eq_getElem?_getD, List.getElem?_eq_getElem h]
  rfl
theorem scan_bad {f k a : Nat} {c : UInt8} {t : List UInt8} (h : (k = 9 ∧ 1 < c.toNat) ∨ (0 < k ∧ c.toNat = 0)) : scan (f + 1) k a (c :: t) = (0, 0, 12) := by
  rw [scan, if_pos h]
theorem scan_last {f k a : Nat} {c : UInt8} {t : List UInt8} (h : ¬ ((k = 9 ∧ 1 < c.toNat) ∨ (0 < k ∧ c.toNat = 0))) (hc : c.toNat < 128) : scan (f + 1) k a (c :: t) = (a + c.toNat % 128 * 128 ^ k, k + 1, 0) := by
  rw [scan, if_neg h, if_pos hc]
theorem scan_more {f k a : Nat} {c : UInt8} {t : List UInt8} (h : ¬ ((k = 9 ∧ 1 < c.toNat) ∨ (0 < k ∧ c.toNat = 0))) (hc : ¬ c.toNat < 128) : scan (f + 1) k a (c :: t) = scan f (k + 1) (a + c.toNat % 128 * 128 ^ k) t := by
  rw [scan, if_neg h, if_neg hc]
theorem dig_fail {w wr w2 : World} {g : Nat} {v : Value} {bs : List UInt8} {p k : Nat} {m : Int} (h : DigRel X w g v bs p k m wr) (hk : k ≤ 9) (hlt : p + k < bs.length)
    (hb : (k = 9 ∧ 1 < ((byteAt bs (p + k) 0).toNat : Int)) ∨ (0 < k ∧ ((byteAt bs (p + k) 0).toNat : Int) = 0)) {q : Nat} (h2 : Rd X w2 g v bs q 12) (f2 : RFr g wr w2) :
    DigPost X w g v bs p 0 (.returned (.int .u64 0)) w2 := by
  obtain ⟨f, hf⟩ : ∃ f, 10 - k = f + 1 := ⟨9 - k, by omega⟩
  have hs := h.2.2.2
  rw [hf, drop_byte hlt, scan_bad (by omega)] at hs
  have e : digR bs p 0 = (0, 0, 12) := by unfold digR; rw [if_pos rfl]; exact hs.symm
  exact ⟨q, by rw [e]; rfl, by rw [e]; exact h2, h.2.1.trans f2, by rw [e]; intro h; simp at h⟩
theorem dig_end {w wr w2 : World} {g : Nat} {v : Value} {bs : List UInt8} {p k : Nat} {m : Int} (h : DigRel X w g v bs p k m wr) (hk : k ≤ 9) (hlt : ¬ p + k < bs.length) {q : Nat} (h2 : Rd X w2 g v bs q 10) (f2 : RFr g wr w2) :
    DigPost X w g v bs p 0 (.returned (.int .u64 0)) w2 := by
  obtain ⟨f, hf⟩ : ∃ f, 10 - k = f + 1 := ⟨9 - k, by omega⟩
  have hs := h.2.2.2
  rw [hf, List.drop_of_length_le (by omega)] at hs
  have e : digR bs p 0 = (0, 0, 10) := by unfold digR; rw [if_pos rfl]; exact hs.symm
  exact ⟨q, by rw [e]; rfl, by rw [e]; exact h2, h.2.1.trans f2, by rw [e]; intro h; simp at h⟩
theorem dig_last {w wr w2 : World} {g : Nat} {v : Value} {bs : List UInt8} {p k : Nat} {m : Int} (h : DigRel X w g v bs p k m wr) (hk : k ≤ 9) (hlt : p + k < bs.length)
    (hb : ¬ ((k = 9 ∧ 1 < ((byteAt bs (p + k) 0).toNat : Int)) ∨ (0 < k ∧ ((byteAt bs (p + k) 0).toNat : Int) = 0))) (hc : ((byteAt bs (p + k) 0).toNat : Int) < 128) {n : Int}
    (hn : n = ((m.toNat + (byteAt bs (p + k) 0).toNat % 128 * 128 ^ k : Nat) : Int)) (h2 : Rd X w2 g v bs (p + k + 1) 0) (f2 : RFr g wr w2) :
    DigPost X w g v bs p 0 (.returned (.int .u64 n)) w2 := by
  obtain ⟨f, hf⟩ : ∃ f, 10 - k = f + 1 := ⟨9 - k, by omega⟩
  have hs := h.2.2.2
  rw [hf, drop_byte hlt, scan_last (by omega) (by omega)] at hs
  have e : digR bs p 0 = (m.toNat + (byteAt bs (p + k) 0).toNat % 128 * 128 ^ k, k + 1, 0) := by unfold digR; rw [if_pos rfl]; exact hs.symm
  exact ⟨p + k + 1, by rw [e, hn], by rw [e]; exact h2, h.2.1.trans f2, by rw [e]; intro _; simp only; omega⟩
theorem dig_more {w wr w2 : World} {g : Nat} {v : Value} {bs : List UInt8} {p k : Nat} {m : Int} (h : DigRel X w g v bs p k m wr) (hk : k < 9) (hlt : p + k < bs.length)
    (hb : ¬ (0 < k ∧ ((byteAt bs (p + k) 0).toNat : Int) = 0)) (hc : 128 ≤ ((byteAt bs (p + k) 0).toNat : Int)) {n : Int}
    (hn : n = ((m.toNat + (byteAt bs (p + k) 0).toNat % 128 * 128 ^ k : Nat) : Int)) (h2 : Rd X w2 g v bs (p + k + 1) 0) (f2 : RFr g wr w2) :
    0 ≤ n ∧ n < 9223372036854775809 ∧ DigRel X w g v bs p (k + 1) n w2 := by
  obtain ⟨f, hf⟩ : ∃ f, 10 - k = f + 1 := ⟨9 - k, by omega⟩
  have hs := h.2.2.2
  rw [hf, drop_byte hlt, scan_more (by omega) (by omega)] at hs
  have hp : m.toNat + (byteAt bs (p + k) 0).toNat % 128 * 128 ^ k < 128 ^ (k + 1) := by
    have h1 : (byteAt bs (p + k) 0).toNat % 128 * 128 ^ k ≤ 127 * 128 ^ k := Nat.mul_le_mul_right _ (by omega)
    have := h.2.2.1
    rw [Nat.pow_succ]
    omega
  have hq := pow128_le (show k + 1 ≤ 9 by omega)
  subst hn
  refine ⟨by omega, by omega, h2, h.2.1.trans f2, by rw [Int.toNat_natCast]; exact hp, ?_⟩
  rw [Int.toNat_natCast, show 10 - (k + 1) = f by omega]
  exact hs
set_option maxHeartbeats 4000000 in
theorem Rdigits_ok (g : Nat) (v : Value) (bs : List UInt8) (p : Nat) (w : World) (h : Rd X w g v bs p 0) :
    Calls Tryz.prog 141 #[.pointer (some ⟨g, 0, none⟩)] w (DigPost X w g v bs p 0) := by
  have hst : DigRel X w g v bs p 0 0 w := ⟨h, RFr.refl _ _, by decide, rfl⟩
  go_enter Tryz.func141, Tryz.ntmps141
  go_wp2_with fail
  go_loopw [2, 3, 4, 5, 6, 7, 8] (fun _ n _ _ _ _ i wr => ∃ (k : Nat) (m : Int), k ≤ 9 ∧ i = .int .i64 k ∧ n = .int .u64 m ∧ 0 ≤ m ∧ m < 9223372036854775809 ∧ DigRel X w g v bs p k m wr) (fun _ _ _ _ _ _ i _ => 10 - (intOf i).toNat)
  case atStart => exact ⟨0, 0, by omega, rfl, rfl, by omega, by omega, hst⟩
  case round =>
    obtain ⟨k, m, hk, rfl, rfl, hm0, hm1, hr⟩ := hrel
    have hR := hr.1
    obtain ⟨c, hcb, hc0, hc1⟩ : ∃ c : Int, ((byteAt bs (p + k) 0).toNat : Int) = c ∧ 0 ≤ c ∧ c ≤ 255 := ⟨_, rfl, by omega, by have := (byteAt bs (p + k) 0).toNat_lt; omega⟩
    have HC := Lib.hid hcb
    by_cases hlt : p + k < bs.length
    · have HE : Hid (hasErr bs.length (p + k) 0 1 = 0) := Lib.hid (hasErr_ok (by omega))
      have HS : Hid (stepAt bs.length (p + k) 0 1 = p + k + 1) := Lib.hid (by unfold stepAt; rw [if_pos ⟨rfl, by omega⟩])
      by_cases hbad : (k = 9 ∧ 1 < c) ∨ (0 < k ∧ c = 0)
      · have hcase : ((((k : Int) == 9) = true ∧ 9 ≤ k) ∧ 1 < c ∧ (c == 0) = false) ∨ ((((k : Int) == 9) = true ∧ 9 ≤ k) ∧ ¬ 1 < c ∧ (c == 0) = true) ∨ (((k : Int) == 9) = false ∧ 0 < k ∧ ¬ 1 < c ∧ (c == 0) = true) := by
          by_cases h9 : k = 9
          · subst h9
            by_cases h1 : 1 < c
            · exact .inl ⟨⟨rfl, by omega⟩, h1, by simp; omega⟩
            · exact .inr (.inl ⟨⟨rfl, by omega⟩, h1, by simp; omega⟩)
          · exact .inr (.inr ⟨by simp; omega, by omega, by omega, by simp; omega⟩)
        have HB := Lib.hid hbad
        clear hbad hcb
        rcases hcase with ⟨⟨h1, h2⟩, h3, h4⟩ | ⟨⟨h1, h2⟩, h3, h4⟩ | ⟨h1, h2, h3, h4⟩
        all_goals
          go_wp2_with (first
            | (go_at_call 116; refine (RByte_any g v bs _ _ _ hR).mono ?_; rintro e w1 ⟨rfl, r1, f1⟩; rw [HC.out]; rw [HE.out, HS.out] at r1)
            | (go_at_call 86; refine (RErr_any g v bs _ _ _ r1).mono ?_; rintro e w' ⟨rfl, rfl⟩)
            | (go_at_call 96; refine (Rfail_any g v bs _ _ _ _ r1).mono ?_; rintro e w2 ⟨rfl, r2, f2⟩))
          go_ret
          exact dig_fail hr hk hlt (by rw [HC.out]; exact HB.out) r2 (f1.trans f2)
      · have HO : Hid (bits .or .u64 m (IntKind.u64.wrap (IntKind.u64.wrap (bits .and .u8 c 127) * 2 ^ (7 * k))) = ((m.toNat + (byteAt bs (p + k) 0).toNat % 128 * 128 ^ k : Nat) : Int)) :=
          Lib.hid (by have := shl_or m c k hm0 hr.2.2.1 hk hc0 hc1 (fun e => by omega); rw [this]; congr 3; omega)
        have HB := Lib.hid hbad
        by_cases hc : c < 128
        · have hcase : ((((k : Int) == 9) = true ∧ 9 ≤ k) ∧ ¬ 1 < c ∧ (c == 0) = false) ∨ (((k : Int) == 9) = false ∧ 0 < k ∧ (c == 0) = false) ∨ (((k : Int) == 9) = false ∧ ¬ 0 < k) := by
            by_cases h9 : k = 9
            · subst h9
              exact .inl ⟨⟨rfl, by omega⟩, by omega, by simp; omega⟩
            · by_cases h0 : 0 < k
              · exact .inr (.inl ⟨by simp; omega, h0, by simp; omega⟩)
              · exact .inr (.inr ⟨by simp; omega, h0⟩)
          clear hbad hcb
          rcases hcase with ⟨⟨h1, h2⟩, h3, h4⟩ | ⟨h1, h2, h4⟩ | ⟨h1, h2⟩
          all_goals
            go_wp2_with (first
              | (go_at_call 116; refine (RByte_any g v bs _ _ _ hR).mono ?_; rintro e w1 ⟨rfl, r1, f1⟩; rw [HC.out]; rw [HE.out, HS.out] at r1)
              | (go_at_call 86; refine (RErr_any g v bs _ _ _ r1).mono ?_; rintro e w' ⟨rfl, rfl⟩))
            go_ret
            exact dig_last hr hk hlt (by rw [HC.out]; exact HB.out) (by rw [HC.out]; exact hc) HO.out r1 f1
        · have hcase : (((k : Int) == 9) = false ∧ 0 < k ∧ (c == 0) = false) ∨ (((k : Int) == 9) = false ∧ ¬ 0 < k) := by
            by_cases h0 : 0 < k
            · exact .inl ⟨by simp; omega, h0, by simp; omega⟩
            · exact .inr ⟨by simp; omega, h0⟩
          have hk9 : k < 9 := by omega
          have HB2 : Hid (¬ (0 < k ∧ c = 0)) := Lib.hid (by omega)
          clear hbad hcb
          rcases hcase with ⟨h1, h2, h4⟩ | ⟨h1, h2⟩
          all_goals
            go_wp2_with (first
              | (go_at_call 116; refine (RByte_any g v bs _ _ _ hR).mono ?_; rintro e w1 ⟨rfl, r1, f1⟩; rw [HC.out]; rw [HE.out, HS.out] at r1)
              | (go_at_call 86; refine (RErr_any g v bs _ _ _ r1).mono ?_; rintro e w' ⟨rfl, rfl⟩))
            have hmore := dig_more hr hk9 hlt (by rw [HC.out]; exact HB2.out) (by rw [HC.out]; omega) HO.out r1 f1
            go_roundw
            case rel => exact ⟨k + 1, _, by omega, by go_num, rfl, hmore.1, hmore.2.1, hmore.2.2⟩
            case measure => simp [intOf]; omega
    · have HE : Hid (hasErr bs.length (p + k) 0 1 = 10) := Lib.hid (hasErr_end (by omega))
      clear hcb
      go_wp2_with (first
        | (go_at_call 116; refine (RByte_any g v bs _ _ _ hR).mono ?_; rintro e w1 ⟨rfl, r1, f1⟩; rw [HC.out]; rw [HE.out] at r1)
        | (go_at_call 86; refine (RErr_any g v bs _ _ _ r1).mono ?_; rintro e w' ⟨rfl, rfl⟩))
      go_ret
      exact dig_end hr hk hlt r1 f1
end Go.Proofs.YtkaeoflgnnlbeaaGreatDoor
/- What is proved: the Reader's Var and Text. Conditions: a reader that the caller holds, or a nil one. -/
namespace Go.Proofs.YtkaeoflgnnlbeaaGreatDoor
open Go.RowKit
set_option linter.unusedVariables false
variable {X : Option Int}
set_option maxHeartbeats 1600000 in
theorem Rdigits_err (g : Nat) (v : Value) (bs : List UInt8) (p : Nat) (er : Int) (w : World) (h : Rd X w g v bs p er) (he : er ≠ 0) :
    Calls Tryz.prog 141 #[.pointer (some ⟨g, 0, none⟩)] w (DigPost X w g v bs p er) := by
  have hne : (er != 0) = true := by simpa using he
  have HE : Hid (hasErr bs.length p er 1 = er) := Lib.hid (hasErr_err he)
  have HS : Hid (stepAt bs.length p er 1 = p) := Lib.hid (by unfold stepAt; rw [if_neg (fun e => he e.1)])
  have HD : Hid (digR bs p er = (0, 0, er)) := Lib.hid (by unfold digR; rw [if_neg he])
  have hnz := Lib.hid he
  clear he
  go_enter Tryz.func141, Tryz.ntmps141
  go_wp2_with fail
  go_loopw [2, 3, 4, 5, 6, 7, 8] (fun _ n _ _ _ _ i wr => i = .int .i64 0 ∧ n = .int .u64 0 ∧ w = wr) (fun _ _ _ _ _ _ i _ => 10 - (intOf i).toNat)
  case atStart => exact ⟨rfl, rfl, rfl⟩
  case round =>
    obtain ⟨rfl, rfl, rfl⟩ := hrel
    go_wp2_with (first
      | (go_at_call 116; refine (RByte_any g v bs _ _ _ h).mono ?_; rintro e w1 ⟨rfl, r1, f1⟩; rw [HE.out, HS.out] at r1)
      | (go_at_call 86; refine (RErr_any g v bs _ _ _ r1).mono ?_; rintro e w' ⟨rfl, rfl⟩))
    go_ret
    exact ⟨p, by rw [HD.out]; rfl, by rw [HD.out]; exact r1, f1, by rw [HD.out]; intro e; exact absurd e hnz.out⟩
theorem Rdigits_any (g : Nat) (v : Value) (bs : List UInt8) (p : Nat) (er : Int) (w : World) (h : Rd X w g v bs p er) :
    Calls Tryz.prog 141 #[.pointer (some ⟨g, 0, none⟩)] w (DigPost X w g v bs p er) := by
  by_cases he : er = 0
  · subst he; exact Rdigits_ok g v bs p w h
  · exact Rdigits_err g v bs p er w h he
/-- What Var tells: the value, the place, the error. -/
def varO (bs : List UInt8) (p : Nat) (er : Int) (most : Int) : Nat × Nat × Int :=
  if (digR bs p er).2.2 ≠ 0 then (0, p, (digR bs p er).2.2) else if most < (digR bs p er).1 then (0, p, 3) else ((digR bs p er).1, p + (digR bs p er).2.1, 0)
theorem digR_zero {bs : List UInt8} {p : Nat} {er : Int} (h : (digR bs p er).2.2 ≠ 0) : (digR bs p er).1 = 0 := by
  unfold digR at h ⊢
  split
  · rename_i he
    rw [if_pos he] at h
    rcases scan_err 10 0 0 (bs.drop p) with h1 | h1
    · exact absurd h1 h
    · exact h1.1
  · rfl
def VarPost (X : Option Int) (w : World) (g : Nat) (v : Value) (bs : List UInt8) (o : Nat × Nat × Int) (e : Ending) (w' : World) : Prop := e = .returned (.int .u64 o.1) ∧ Rd X w' g v bs o.2.1 o.2.2 ∧ RFr g w w'
set_option maxHeartbeats 1600000 in
theorem RVar_any (g : Nat) (v : Value) (bs : List UInt8) (p : Nat) (er most : Int) (w : World) (h : Rd X w g v bs p er) (hm0 : 0 ≤ most) (hm1 : most < 18446744073709551616) :
    Calls Tryz.prog 117 #[.pointer (some ⟨g, 0, none⟩), .int .u64 most] w (VarPost X w g v bs (varO bs p er most)) := by
  obtain ⟨D, hD⟩ : ∃ D, (digR bs p er).1 = D := ⟨_, rfl⟩
  obtain ⟨d, hd, hd0⟩ : ∃ d : Int, (D : Int) = d ∧ 0 ≤ d := ⟨_, rfl, by omega⟩
  have HD := Lib.hid hD
  have Hd := Lib.hid hd
  clear hD hd
  by_cases hbig : most < d
  · go_enter_defers Tryz.func117, Tryz.ntmps117
    go_wp2_with (first
      | (go_at_call 87; refine (RAt_any g v bs p _ _ h).mono ?_; rintro e w1 ⟨rfl, rfl⟩)
      | (go_at_call 141; refine (Rdigits_any g v bs p _ _ h).mono ?_; rintro e w1 ⟨q, rfl, r1, f1, hq⟩; rw [HD.out, Hd.out]; have HQ := Lib.hid hq; clear hq)
      | (go_at_call 96; refine (Rfail_any g v bs _ _ _ _ r1).mono ?_; rintro e w2 ⟨rfl, r2, f2⟩))
    refine leaves_cons (f := 95) (args := #[.pointer (some ⟨g, 0, none⟩), .int .i64 p]) (by simp) (by simp [go_sem]) ?_
    refine (Rlook_any g v bs _ p _ .returning _ r2 h.le).mono ?_
    rintro e u' w'' ⟨rfl, rfl, h4, f4⟩
    have hO : varO bs p er most = (0, backAt (failErr (digR bs p er).2.2 3) q p, failErr (digR bs p er).2.2 3) := by
      have e0 : (digR bs p er).2.2 = 0 := by
        refine Classical.byContradiction fun hn => ?_
        have h1 := digR_zero hn
        have h2 := HD.out
        have h3 := Hd.out
        omega
      unfold varO
      rw [if_neg (by simpa using e0), if_pos (by rw [HD.out, Hd.out]; exact hbig), e0]
      rfl
    refine ⟨_, results_tmp rfl _ _ _, ?_⟩
    rw [hO]
    exact ⟨rfl, h4, (f1.trans f2).trans f4⟩
  · go_enter_defers Tryz.func117, Tryz.ntmps117
    go_wp2_with (first
      | (go_at_call 87; refine (RAt_any g v bs p _ _ h).mono ?_; rintro e w1 ⟨rfl, rfl⟩)
      | (go_at_call 141; refine (Rdigits_any g v bs p _ _ h).mono ?_; rintro e w1 ⟨q, rfl, r1, f1, hq⟩; rw [HD.out, Hd.out]; have HQ := Lib.hid hq; clear hq))
    refine leaves_cons (f := 95) (args := #[.pointer (some ⟨g, 0, none⟩), .int .i64 p]) (by simp) (by simp [go_sem]) ?_
    refine (Rlook_any g v bs _ p _ .returning _ r1 h.le).mono ?_
    rintro e u' w'' ⟨rfl, rfl, h4, f4⟩
    have hO : varO bs p er most = (D, backAt (digR bs p er).2.2 q p, (digR bs p er).2.2) := by
      unfold varO backAt
      by_cases e0 : (digR bs p er).2.2 = 0
      · rw [if_neg (by simpa using e0), if_neg (by rw [HD.out, Hd.out]; omega), if_pos e0, HQ.out e0, HD.out, e0]
      · have hz := digR_zero e0
        rw [HD.out] at hz
        rw [if_pos e0, if_neg e0, hz]
    refine ⟨_, results_tmp rfl _ _ _, ?_⟩
    rw [hO]
    refine ⟨?_, h4, f1.trans f4⟩
    rw [Hd.out]
    rfl
theorem varO_lt (bs : List UInt8) (p : Nat) (er most : Int) : (varO bs p er most).1 < 18446744073709551616 := by
  have := digR_lt bs p er
  unfold varO
  split
  · show 0 < 18446744073709551616
    decide
  · split
    · show 0 < 18446744073709551616
      decide
    · exact this
end Go.Proofs.YtkaeoflgnnlbeaaGreatDoor

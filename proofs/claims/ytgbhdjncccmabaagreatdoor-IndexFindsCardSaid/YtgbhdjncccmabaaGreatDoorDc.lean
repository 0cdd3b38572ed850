/- What is proved: what the walks of this seat need of layers below, merged out of the texts Rea Num Nuu (of each just what is needed). Conditions: each theorem names its own. -/
import Derived.Deep.QuietTactic
import Derived.BigQuiet
import Derived.Deep.RegionHeld3
import Derived.Deep.DeepCutAuto
import Derived.Deep.RegionWith
import Derived.Test.YtgbhdjncccmabaaGreatDoorDb
/- What is proved: what each call of the Reader tells and does: NewReader, Err, At, Left, End, look, fail, has, Byte, number, U32, U64, Raw. Conditions: a reader that the caller holds, of at most 2^47 bytes; or a nil one. -/
namespace Go.Proofs.YtgbhdjncccmabaaGreatDoor
open Go.RowKit
set_option linter.unusedVariables false
/-- A reader at block g over the bytes bs (v: its slice), at place p, with error er. -/
structure Rd (w : World) (g : Nat) (v : Value) (bs : List UInt8) (p : Nat) (er : Int) : Prop where
  whole : Whole w g 131 #[v, .int .i64 p, .int .i64 er]
  own : w.ownsRow 0 5 1 v bs.length (bytesV bs)
  le : p ≤ bs.length
  small : bs.length ≤ 140737488355328
def RFr (g : Nat) (w w' : World) : Prop := Fr (fun k => k = g) w w'
def RPost (w : World) (g : Nat) (v : Value) (bs : List UInt8) (x : Value) (p : Nat) (er : Int) (e : Ending) (w' : World) : Prop := e = .returned x ∧ Rd w' g v bs p er ∧ RFr g w w'
section
variable {w w' : World} {g : Nat} {v : Value} {bs : List UInt8} {p q : Nat} {er : Int}
theorem Rd.c0 (h : Rd w g v bs p er) : w.cell? ⟨g, 0, none⟩ = some v := by simpa using h.whole.cell 0
theorem Rd.c1 (h : Rd w g v bs p er) : w.cell? ⟨g, 1, none⟩ = some (.int .i64 p) := by simpa using h.whole.cell 1
theorem Rd.c2 (h : Rd w g v bs p er) : w.cell? ⟨g, 2, none⟩ = some (.int .i64 er) := by simpa using h.whole.cell 2
theorem Rd.ne (h : Rd w g v bs p er) : v.ownBlock ≠ some g := own_apart h.own h.whole (by decide)
theorem Rd.drewN (h : Rd w g v bs p er) (n : Nat) : Rd (w.drewN n) g v bs p er := ⟨h.whole, h.own, h.le, h.small⟩
theorem Rd.fr {S : Nat → Prop} (h : Rd w g v bs p er) (f : Fr S w w') (h1 : ¬ S g) (h2 : ∀ k, v.ownBlock = some k → ¬ S k) : Rd w' g v bs p er :=
  ⟨h.whole.fr f h1, own_fr h.own f h2, h.le, h.small⟩
theorem Rd.below (h : Rd w g v bs p er) (f : Below w.heap.size w w') : Rd w' g v bs p er := h.fr (Fr.of_below (S := fun _ => False) f) (fun e => e) (fun _ _ e => e)
theorem Rd.setAt (h : Rd w g v bs p er) (hq : q ≤ bs.length) : Rd (w.setCell ⟨g, 1, none⟩ (.int .i64 q)) g v bs q er := by
  refine ⟨by simpa using h.whole.set 1 (.int .i64 q), own_fr h.own ((Fr.refl (fun k => k = g) w).setCell (p := ⟨g, 1, none⟩) (fun _ => rfl) _) (fun k hk e => h.ne (by rw [hk, e])), hq, h.small⟩
theorem Rd.setErr (h : Rd w g v bs p er) (f : Int) : Rd (w.setCell ⟨g, 2, none⟩ (.int .i64 f)) g v bs p f := by
  refine ⟨by simpa using h.whole.set 2 (.int .i64 f), own_fr h.own ((Fr.refl (fun k => k = g) w).setCell (p := ⟨g, 2, none⟩) (fun _ => rfl) _) (fun k hk e => h.ne (by rw [hk, e])), h.le, h.small⟩
theorem RFr.refl (g : Nat) (w : World) : RFr g w w := Fr.refl _ _
theorem RFr.trans {a b c : World} (h : RFr g a b) (k : RFr g b c) : RFr g a c := Fr.trans h k (fun _ _ e => e)
theorem RFr.drewN (h : RFr g w w') (n : Nat) : RFr g w (w'.drewN n) := Fr.drewN h n
theorem RFr.set (h : RFr g w w') (o : Nat) (u : Value) : RFr g w (w'.setCell ⟨g, o, none⟩ u) := Fr.setCell h (fun _ => rfl) u
end
theorem RErr_any (g : Nat) (v : Value) (bs : List UInt8) (p : Nat) (er : Int) (w : World) (h : Rd w g v bs p er) :
    Calls Tryz.prog 98 #[.pointer (some ⟨g, 0, none⟩)] w fun e w' => e = .returned (.int .i64 er) ∧ w = w' := by
  have h2 := h.c2
  go_enter Tryz.func98, Tryz.ntmps98
  go_wp2
  go_ret
  exact ⟨rfl, rfl⟩
theorem RAt_any (g : Nat) (v : Value) (bs : List UInt8) (p : Nat) (er : Int) (w : World) (h : Rd w g v bs p er) :
    Calls Tryz.prog 72 #[.pointer (some ⟨g, 0, none⟩)] w fun e w' => e = .returned (.int .i64 p) ∧ w = w' := by
  have h1 := h.c1
  go_enter Tryz.func72, Tryz.ntmps72
  go_wp2
  go_ret
  exact ⟨rfl, rfl⟩
def QuietPost (w : World) (x : Value) (e : Ending) (w' : World) : Prop := e = .returned x ∧ ∃ n, w' = w.drewN n
theorem RLeft_any (g : Nat) (v : Value) (bs : List UInt8) (p : Nat) (er : Int) (w : World) (h : Rd w g v bs p er) :
    Calls Tryz.prog 99 #[.pointer (some ⟨g, 0, none⟩)] w (QuietPost w (.int .i64 (bs.length - p))) := by
  have h0 := h.c0
  have h1 := h.c1
  have hle := h.le
  have hsm := h.small
  obtain ⟨A, c, hv, -, -⟩ := own_slice h.own
  subst hv
  go_enter Tryz.func99, Tryz.ntmps99
  go_wp2
  go_quiet (fail)
  go_wp2
  go_ret
  exact ⟨rfl, _, rfl⟩
/-- fail: the first error stays. -/
def failErr (er f : Int) : Int := if er = 0 then f else er
theorem Rfail_any (g : Nat) (v : Value) (bs : List UInt8) (p : Nat) (er f : Int) (w : World) (h : Rd w g v bs p er) :
    Calls Tryz.prog 73 #[.pointer (some ⟨g, 0, none⟩), .int .i64 f] w (RPost w g v bs (.tuple #[]) p (failErr er f)) := by
  have h2 := h.c2
  have f2 := h.whole.frozen 2
  by_cases he : er = 0
  · subst he
    go_enter Tryz.func73, Tryz.ntmps73
    go_wp2_with (go_at_call 98; refine (RErr_any g v bs p _ _ h).mono ?_; rintro e w' ⟨rfl, rfl⟩)
    go_end0
    exact ⟨rfl, h.setErr f, (RFr.refl _ _).set _ _⟩
  · have he' : (er == 0) = false := by simpa using he
    go_enter Tryz.func73, Tryz.ntmps73
    go_wp2_with (go_at_call 98; refine (RErr_any g v bs p _ _ h).mono ?_; rintro e w' ⟨rfl, rfl⟩)
    go_end0
    exact ⟨rfl, by unfold failErr; rw [if_neg he]; exact h, RFr.refl _ _⟩
/-- has: whether n bytes can be taken, and the error that is then there. -/
def hasErr (len p : Nat) (er n : Int) : Int := if er = 0 then (if n ≤ len - p then 0 else 10) else er
def hasB (len p : Nat) (er n : Int) : Bool := decide (er = 0 ∧ n ≤ len - p)
theorem Rhas_any (g : Nat) (v : Value) (bs : List UInt8) (p : Nat) (er n : Int) (w : World) (h : Rd w g v bs p er) :
    Calls Tryz.prog 74 #[.pointer (some ⟨g, 0, none⟩), .int .i64 n] w (RPost w g v bs (.bool (hasB bs.length p er n)) p (hasErr bs.length p er n)) := by
  by_cases hn : (bs.length : Int) - p < n
  · go_enter Tryz.func74, Tryz.ntmps74
    go_wp2_with (first
      | (go_at_call 99; refine (RLeft_any g v bs p _ _ h).mono ?_; rintro e w1 ⟨rfl, m, rfl⟩)
      | (go_at_call 73; refine (Rfail_any g v bs p _ _ _ (h.drewN m)).mono ?_; rintro e w2 ⟨rfl, h2, f2⟩)
      | (go_at_call 98; refine (RErr_any g v bs p _ _ h2).mono ?_; rintro e w3 ⟨rfl, rfl⟩))
    go_ret
    refine ⟨ret_bool ?_, ?_, ((RFr.refl g w).drewN m).trans f2⟩
    · show (failErr er 10 == 0) = _
      unfold failErr hasB
      by_cases he : er = 0
      · rw [if_pos he]; simp; omega
      · rw [if_neg he]; simp [he]
    · have : hasErr bs.length p er n = failErr er 10 := by
        unfold hasErr failErr
        by_cases he : er = 0
        · rw [if_pos he, if_pos he, if_neg (by omega)]
        · rw [if_neg he, if_neg he]
      rw [this]
      exact h2
  · go_enter Tryz.func74, Tryz.ntmps74
    go_wp2_with (first
      | (go_at_call 99; refine (RLeft_any g v bs p _ _ h).mono ?_; rintro e w1 ⟨rfl, m, rfl⟩)
      | (go_at_call 98; refine (RErr_any g v bs p _ _ (h.drewN m)).mono ?_; rintro e w3 ⟨rfl, rfl⟩))
    go_ret
    refine ⟨ret_bool ?_, ?_, (RFr.refl g w).drewN m⟩
    · show (er == 0) = _
      unfold hasB
      by_cases he : er = 0
      · simp [he]; omega
      · simp [he]
    · have : hasErr bs.length p er n = er := by
        unfold hasErr
        by_cases he : er = 0
        · rw [if_pos he, if_pos (by omega), he]
        · rw [if_neg he]
      rw [this]
      exact h.drewN m
/-- look, deferred: at an error the place is where the call began. -/
def backAt (er : Int) (p from' : Nat) : Nat := if er = 0 then p else from'
theorem Rlook_any (g : Nat) (v : Value) (bs : List UInt8) (p q : Nat) (er : Int) (u : FrameMode) (w : World) (h : Rd w g v bs p er) (hq : q ≤ bs.length) :
    CallsD Tryz.prog 71 #[.pointer (some ⟨g, 0, none⟩), .int .i64 q] u w fun e u' w' => u' = u ∧ (e = .returned (.tuple #[]) ∧ Rd w' g v bs (backAt er p q) er ∧ RFr g w w') := by
  have h2 := h.c2
  have h1 := h.c1
  have f1 := h.whole.frozen 1
  by_cases he : er = 0
  · subst he
    go_enter_d Tryz.func71, Tryz.ntmps71
    go_wp2
    go_end0
    exact ⟨rfl, by unfold backAt; rw [if_pos rfl]; exact h, RFr.refl _ _⟩
  · have he' : (er == 0) = false := by simpa using he
    have he2 : (er != 0) = true := by simpa using he
    go_enter_d Tryz.func71, Tryz.ntmps71
    go_wp2
    go_end0
    exact ⟨rfl, by unfold backAt; rw [if_neg he]; exact h.setAt hq, (RFr.refl _ _).set _ _⟩
def byteAt (bs : List UInt8) (p : Nat) (er : Int) : UInt8 := if er = 0 then bs.getD p 0 else 0
def stepAt (len p : Nat) (er : Int) (n : Nat) : Nat := if er = 0 ∧ p + n ≤ len then p + n else p
theorem lies_at {w : World} {A : Option Addr} {bs : List UInt8} (h : Lies w A (bytesV bs)) (hp : bs ≠ []) : ∃ b o, A = some ⟨b, o, none⟩ := by
  rcases h with h | ⟨b, o, h, _⟩
  · exact absurd (List.eq_nil_of_length_eq_zero (by rw [← bytesV_length, h]; rfl)) hp
  · exact ⟨b, o, h⟩
theorem lies_byte {w : World} {b o : Nat} {bs : List UInt8} (h : Lies w (some ⟨b, o, none⟩) (bytesV bs)) {p : Nat} (hp : p < bs.length) : w.cell? ⟨b, o + p, none⟩ = some (.int .u8 (bs.getD p 0).toNat) := by
  rcases h with h | ⟨b', o', h, hc⟩
  · have : bs.length = 0 := by rw [← bytesV_length, h]; rfl
    omega
  · injection h with h
    injection h with h1 h2
    subst h1; subst h2
    apply hc
    unfold bytesV
    rw [List.getElem?_map, List.getElem?_eq_getElem hp, List.getD_eq_getElem?_getD, List.getElem?_eq_getElem hp]
    rfl
theorem hasB_true {len p : Nat} {er n : Int} (h : hasB len p er n = true) : er = 0 ∧ n ≤ len - p := by simpa [hasB] using h
theorem hasB_false {len p : Nat} {er n : Int} (h : ¬ hasB len p er n = true) : er ≠ 0 ∨ (er = 0 ∧ (len : Int) - p < n) := by
  by_cases he : er = 0
  · right
    refine ⟨he, ?_⟩
    rcases Int.lt_or_le ((len : Int) - p) n with h1 | h1
    · exact h1
    · exact absurd (by simp [hasB, he, h1]) h
  · exact .inl he
set_option maxHeartbeats 1600000 in
theorem RByte_any (g : Nat) (v : Value) (bs : List UInt8) (p : Nat) (er : Int) (w : World) (h : Rd w g v bs p er) :
    Calls Tryz.prog 101 #[.pointer (some ⟨g, 0, none⟩)] w (RPost w g v bs (.int .u8 (byteAt bs p er).toNat) (stepAt bs.length p er 1) (hasErr bs.length p er 1)) := by
  have hsm := h.small
  by_cases hb : hasB bs.length p er 1 = true
  · obtain ⟨rfl, hp⟩ := hasB_true hb
    obtain ⟨A, c, hv, hc, hm, -⟩ := own_lies h.own
    obtain ⟨b, o, hA⟩ := lies_at hm (by rintro rfl; simp at hp; omega)
    subst hA
    subst hv
    have hE : hasErr bs.length p 0 1 = 0 := by unfold hasErr; rw [if_pos rfl, if_pos hp]
    have HE := Lib.hid hE
    have HB := Lib.hid hb
    clear hE hb hm
    have hp1 : (p : Int) < bs.length := by omega
    have hp0 : (0 : Int) ≤ (p : Int) := by omega
    go_enter_defers Tryz.func101, Tryz.ntmps101
    go_wp2_with (first
      | (go_at_call 72; refine (RAt_any g _ bs p _ _ h).mono ?_; rintro e w1 ⟨rfl, rfl⟩)
      | (go_at_call 74; refine (Rhas_any g _ bs p _ _ _ h).mono ?_; rintro e w2 ⟨rfl, h2, f2⟩; rw [HB.out]; rw [HE.out] at h2))
    have c0 := h2.c0
    have c1 := h2.c1
    have f1 := h2.whole.frozen 1
    have cb := lies_byte (Lies.of_own h2.own) (p := p) (by omega)
    go_quiet (fail)
    go_wp2
    have h3 := fun n : Nat => (h2.drewN n).setAt (q := p + 1) (by omega)
    refine leaves_cons (f := 71) (args := #[.pointer (some ⟨g, 0, none⟩), .int .i64 p]) (by simp) (by simp [go_sem]) ?_
    refine (Rlook_any g _ bs _ p 0 .returning _ (h3 _) h.le).mono ?_
    rintro e u' w'' ⟨rfl, rfl, h4, f4⟩
    have hP : RPost w g (.slice (some ⟨b, o, none⟩) bs.length c) bs (.int .u8 (byteAt bs p 0).toNat) (stepAt bs.length p 0 1) (hasErr bs.length p 0 1) (.returned (.int .u8 (bs[p]?.getD 0).toNat)) w'' := by
      refine ⟨?_, ?_, ((f2.drewN _).set 1 _).trans f4⟩
      · unfold byteAt; rw [if_pos rfl, List.getD_eq_getElem?_getD]
      · rw [HE.out]
        have e1 : stepAt bs.length p 0 1 = backAt 0 (p + 1) p := by unfold stepAt backAt; rw [if_pos ⟨rfl, by omega⟩, if_pos rfl]
        rw [e1]
        exact h4
    refine ⟨_, results_tmp rfl _ _ _, ?_⟩
    exact hP
  · have hE : (hasErr bs.length p er 1 = 0) = False := by
      have := hasB_false hb
      simp only [eq_iff_iff, iff_false]
      unfold hasErr
      split
      · rw [if_neg (by omega)]; omega
      · assumption
    have HB := Lib.hid (by simpa using hb : hasB bs.length p er 1 = false)
    have HE := Lib.hid hE
    clear hE
    have hb2 := Lib.hid (hasB_false hb)
    clear hb
    go_enter_defers Tryz.func101, Tryz.ntmps101
    go_wp2_with (first
      | (go_at_call 72; refine (RAt_any g _ bs p _ _ h).mono ?_; rintro e w1 ⟨rfl, rfl⟩)
      | (go_at_call 74; refine (Rhas_any g _ bs p _ _ _ h).mono ?_; rintro e w2 ⟨rfl, h2, f2⟩; rw [HB.out]))
    refine leaves_cons (f := 71) (args := #[.pointer (some ⟨g, 0, none⟩), .int .i64 p]) (by simp) (by simp [go_sem]) ?_
    refine (Rlook_any g _ bs _ p _ .returning _ h2 h.le).mono ?_
    rintro e u' w'' ⟨rfl, rfl, h4, f4⟩
    have hP : RPost w g v bs (.int .u8 (byteAt bs p er).toNat) (stepAt bs.length p er 1) (hasErr bs.length p er 1) (.returned (.int .u8 0)) w'' := by
      have e2 := hb2.out
      refine ⟨?_, ?_, f2.trans f4⟩
      · have : byteAt bs p er = 0 := by
          unfold byteAt
          split
          · rw [List.getD_eq_getElem?_getD, List.getElem?_eq_none (by omega)]; rfl
          · rfl
        rw [this]; rfl
      · have e1 : stepAt bs.length p er 1 = backAt (hasErr bs.length p er 1) p p := by
          unfold stepAt backAt
          rw [if_neg (by omega)]
          split <;> rfl
        rw [e1]
        exact h4
    refine ⟨_, results_tmp rfl _ _ _, ?_⟩
    exact hP
end Go.Proofs.YtgbhdjncccmabaaGreatDoor
/- What is proved: the Reader's numbers of four and eight bytes (takeHighFirst, number, U32, U64). Conditions: a reader that the caller holds, or a nil one. -/
namespace Go.Proofs.YtgbhdjncccmabaaGreatDoor
open Go.RowKit
set_option linter.unusedVariables false
/-- Bytes as a number, the highest first. -/
def bigV (l : List UInt8) : Nat := l.foldl (fun a b => a * 256 + b.toNat) 0
theorem bigV_snoc (l : List UInt8) (b : UInt8) : bigV (l ++ [b]) = bigV l * 256 + b.toNat := by simp [bigV]
theorem bigV_acc (l : List UInt8) (a : Nat) : l.foldl (fun a b => a * 256 + b.toNat) a < (a + 1) * 256 ^ l.length := by
  induction l generalizing a with
  | nil => simp
  | cons b l ih =>
    have h := ih (a * 256 + b.toNat)
    have hb := b.toNat_lt
    refine Nat.lt_of_lt_of_le h ?_
    rw [List.length_cons, Nat.pow_succ, Nat.mul_comm (256 ^ l.length) 256, ← Nat.mul_assoc]
    exact Nat.mul_le_mul_right _ (by omega)
theorem bigV_lt (l : List UInt8) : bigV l < 256 ^ l.length := by simpa [bigV] using bigV_acc l 0
theorem or_byte (m c : Int) (h0 : 0 ≤ m) (h1 : m < 72057594037927936) (h2 : 0 ≤ c) (h3 : c < 256) : bits .or .u64 (m * 256) c = m * 256 + c := by
  rw [u64_or (m * 256) c (by omega) (by omega) (by omega) (by omega)]
  have e : (m * 256).toNat = m.toNat <<< 8 := by rw [Nat.shiftLeft_eq]; omega
  rw [e, ← Nat.shiftLeft_add_eq_or_of_lt (by omega), Nat.shiftLeft_eq]
  omega
theorem pow256 {k : Nat} (h : k ≤ 7) : (256 : Nat) ^ k ≤ 72057594037927936 := by
  have := Nat.pow_le_pow_right (show 0 < 256 by decide) h
  simpa using this
theorem hasErr_ok {len p : Nat} {n : Int} (h : n ≤ len - p) : hasErr len p 0 n = 0 := by unfold hasErr; rw [if_pos rfl, if_pos h]
theorem hasErr_end {len p : Nat} {n : Int} (h : ¬ n ≤ len - p) : hasErr len p 0 n = 10 := by unfold hasErr; rw [if_pos rfl, if_neg h]
theorem hasErr_err {len p : Nat} {er n : Int} (h : er ≠ 0) : hasErr len p er n = er := by unfold hasErr; rw [if_neg h]
theorem hasErr_next {len p q : Nat} {er : Int} {k : Nat} (hq : hasErr len p er k = 0 → q = p + k) : hasErr len q (hasErr len p er k) 1 = hasErr len p er ((k + 1 : Nat) : Int) := by
  by_cases he : er = 0
  · subst he
    by_cases h1 : (k : Int) ≤ len - p
    · rw [hasErr_ok h1] at hq ⊢
      have := hq rfl
      subst this
      by_cases h2 : ((k + 1 : Nat) : Int) ≤ len - p
      · rw [hasErr_ok h2, hasErr_ok (by omega)]
      · rw [hasErr_end h2, hasErr_end (by omega)]
    · rw [hasErr_end h1, hasErr_end (by omega : ¬ ((k + 1 : Nat) : Int) ≤ len - p)]
      exact hasErr_err (by decide)
  · rw [hasErr_err he, hasErr_err he, hasErr_err he]
theorem hasErr_back {len p : Nat} {er : Int} {k : Nat} (h : hasErr len p er ((k + 1 : Nat) : Int) = 0) : hasErr len p er k = 0 ∧ er = 0 ∧ p + k < len := by
  unfold hasErr at h ⊢
  by_cases he : er = 0
  · simp only [if_pos he] at h ⊢
    by_cases h2 : ((k + 1 : Nat) : Int) ≤ len - p
    · rw [if_pos (by omega)]; exact ⟨rfl, he, by omega⟩
    · rw [if_neg h2] at h; omega
  · rw [if_neg he] at h; exact absurd h he
theorem hasErr_zero {len p : Nat} {er n : Int} (h : hasErr len p er n = 0) : er = 0 ∧ n ≤ len - p := by
  unfold hasErr at h
  by_cases he : er = 0
  · rw [if_pos he] at h
    by_cases h2 : n ≤ len - p
    · exact ⟨he, h2⟩
    · rw [if_neg h2] at h; omega
  · rw [if_neg he] at h; exact absurd h he
def TakePost (w : World) (g : Nat) (v : Value) (bs : List UInt8) (p : Nat) (er : Int) (size : Nat) (e : Ending) (w' : World) : Prop :=
  ∃ (q : Nat) (m : Int), e = .returned (.int .u64 m) ∧ Rd w' g v bs q (hasErr bs.length p er size) ∧ RFr g w w' ∧
    (hasErr bs.length p er size = 0 → q = p + size ∧ m = bigV ((bs.drop p).take size))
/-- What stands at the head of a round. -/
def TakeRel (w : World) (g : Nat) (v : Value) (bs : List UInt8) (p : Nat) (er : Int) (k q : Nat) (m : Int) (wr : World) : Prop :=
  Rd wr g v bs q (hasErr bs.length p er k) ∧ RFr g w wr ∧ m.toNat < 256 ^ k ∧ (hasErr bs.length p er k = 0 → q = p + k ∧ m = bigV ((bs.drop p).take k))
theorem take_rel_next {w : World} {g : Nat} {v : Value} {bs : List UInt8} {p : Nat} {er : Int} {k q : Nat} {m : Int} {wr w2 : World} (h : TakeRel w g v bs p er k q m wr) (hm0 : 0 ≤ m)
    (h2 : Rd w2 g v bs (stepAt bs.length q (hasErr bs.length p er k) 1) (hasErr bs.length q (hasErr bs.length p er k) 1)) (f2 : RFr g wr w2) :
    TakeRel w g v bs p er (k + 1) (stepAt bs.length q (hasErr bs.length p er k) 1) (m * 256 + ((byteAt bs q (hasErr bs.length p er k)).toNat : Int)) w2 := by
  obtain ⟨hr, hf, hm, hok⟩ := h
  have hn := hasErr_next (fun e => (hok e).1)
  have hb := (byteAt bs q (hasErr bs.length p er k)).toNat_lt
  refine ⟨by rw [hn] at h2; exact h2, hf.trans f2, ?_, fun he => ?_⟩
  · rw [Nat.pow_succ]; omega
  · obtain ⟨h0, he0, hlt⟩ := hasErr_back he
    obtain ⟨hq, hmv⟩ := hok h0
    subst hq
    refine ⟨?_, ?_⟩
    · unfold stepAt; rw [if_pos ⟨h0, by omega⟩]; omega
    · have hd : p + k < bs.length := hlt
      rw [List.take_succ_eq_append_getElem (by rw [List.length_drop]; omega), bigV_snoc, hmv]
      have : byteAt bs (p + k) (hasErr bs.length p er k) = (bs.drop p)[k]'(by rw [List.length_drop]; omega) := by
        unfold byteAt
        rw [if_pos h0, List.getD_eq_getElem?_getD, List.getElem?_eq_getElem hd, List.getElem_drop]
        rfl
      rw [this]
      omega
set_option maxHeartbeats 800000 in
theorem takeHi_any (g : Nat) (v : Value) (bs : List UInt8) (p : Nat) (er : Int) (size : Nat) (w : World) (h : Rd w g v bs p er) (hs : size ≤ 8) :
    Calls Tryz.prog 100 #[.func (.func 101) #[.pointer (some ⟨g, 0, none⟩)] #[], .int .i64 size] w (TakePost w g v bs p er size) := by
  have hst : TakeRel w g v bs p er 0 p 0 w := by
    refine ⟨?_, RFr.refl _ _, by decide, fun _ => ⟨rfl, rfl⟩⟩
    have : hasErr bs.length p er ((0 : Nat) : Int) = er := by
      unfold hasErr
      split
      · rw [if_pos (by have := h.le; omega)]; omega
      · rfl
    rw [this]; exact h
  go_enter Tryz.func100, Tryz.ntmps100
  go_wp2_with fail
  go_loopw [5, 7] (fun n i wr => ∃ (k q : Nat) (m : Int), k ≤ size ∧ i = .int .i64 k ∧ n = .int .u64 m ∧ 0 ≤ m ∧ m < 18446744073709551616 ∧ TakeRel w g v bs p er k q m wr) (fun _ i _ => size - (intOf i).toNat)
  case atStart => exact ⟨0, p, 0, Nat.zero_le _, rfl, rfl, by omega, by omega, hst⟩
  case round =>
    obtain ⟨k, q, m, hk, rfl, rfl, hm0, hm1, hr⟩ := hrel
    by_cases hlt : k < size
    · have hm2 : m < 72057594037927936 := by
        have := hr.2.2.1
        have := pow256 (show k ≤ 7 by omega)
        omega
      have hb0 : (0 : Int) ≤ ((byteAt bs q (hasErr bs.length p er k)).toNat : Int) := by omega
      have hb1 : ((byteAt bs q (hasErr bs.length p er k)).toNat : Int) < 256 := by have := (byteAt bs q (hasErr bs.length p er k)).toNat_lt; omega
      have HO := Lib.hid (or_byte m _ hm0 hm2 hb0 hb1)
      go_wp2_with (go_at_call 101; refine (RByte_any g v bs _ _ _ hr.1).mono ?_; rintro e w' ⟨rfl, h2, f2⟩)
      go_roundw
      case rel => exact ⟨k + 1, _, _, by omega, by go_num, by rw [HO.out], by omega, by omega, take_rel_next hr hm0 h2 f2⟩
      case measure => simp [intOf]; omega
    · obtain rfl : k = size := by omega
      go_wp2_with fail
      go_ret
      exact ⟨q, m, rfl, hr.1, hr.2.1, hr.2.2.2⟩
end Go.Proofs.YtgbhdjncccmabaaGreatDoor
/- What is proved: the Reader's number, U32, U64 and Raw, NewReader and End. Conditions: a reader that the caller holds, or a nil one. -/
namespace Go.Proofs.YtgbhdjncccmabaaGreatDoor
open Go.RowKit
set_option linter.unusedVariables false
theorem ne_bool (x : Int) : (x = 0 ∧ (x != 0) = false) ∨ (x ≠ 0 ∧ (x != 0) = true) := by
  by_cases h : x = 0
  · exact .inl ⟨h, by rw [h]; rfl⟩
  · exact .inr ⟨h, by simpa using h⟩
def numV (bs : List UInt8) (p : Nat) (er : Int) (size : Nat) : Nat := if hasErr bs.length p er size = 0 then bigV ((bs.drop p).take size) else 0
theorem numV_lt (bs : List UInt8) (p : Nat) (er : Int) (size : Nat) : numV bs p er size < 256 ^ size := by
  unfold numV
  split
  · refine Nat.lt_of_lt_of_le (bigV_lt _) (Nat.pow_le_pow_right (by decide) ?_)
    rw [List.length_take]; omega
  · exact Nat.pow_pos (by decide)
theorem stepAt_back {len p q : Nat} {er : Int} {n : Nat} (hok : hasErr len p er n = 0 → q = p + n) : backAt (hasErr len p er n) q p = stepAt len p er n := by
  unfold backAt stepAt
  by_cases h : hasErr len p er n = 0
  · rw [if_pos h, hok h]
    obtain ⟨h1, h2⟩ := hasErr_zero h
    rw [if_pos ⟨h1, by omega⟩]
  · rw [if_neg h]
    rw [if_neg]
    rintro ⟨h1, h2⟩
    subst h1
    exact h (hasErr_ok (by omega))
set_option maxHeartbeats 1600000 in
theorem Rnumber_any (g : Nat) (v : Value) (bs : List UInt8) (p : Nat) (er : Int) (size : Nat) (w : World) (h : Rd w g v bs p er) (hs : size ≤ 8) :
    Calls Tryz.prog 75 #[.pointer (some ⟨g, 0, none⟩), .int .i64 size] w (RPost w g v bs (.int .u64 (numV bs p er size)) (stepAt bs.length p er size) (hasErr bs.length p er size)) := by
  have hmf : ∀ (fn : Fn) (first cap : Array Value) (w : World), (Instr.makeFunc fn first cap).run Tryz.prog w = .ok (.func fn first cap) w := fun _ _ _ _ => rfl
  rcases ne_bool (hasErr bs.length p er size) with ⟨he, heb⟩ | ⟨he, heb⟩
  all_goals
    have HE := Lib.hid he
    clear he
    go_enter_defers Tryz.func75, Tryz.ntmps75
    go_wp2_with (first
      | (go_at_call 72; refine (RAt_any g v bs p _ _ h).mono ?_; rintro e w1 ⟨rfl, rfl⟩)
      | (go_at_call 100; refine (takeHi_any g v bs p er size _ h hs).mono ?_; rintro e w2 ⟨q, m, rfl, h2, f2, hok⟩; have HK := Lib.hid hok; clear hok)
      | (go_at_call 98; refine (RErr_any g v bs _ _ _ h2).mono ?_; rintro e w3 ⟨rfl, rfl⟩))
    refine leaves_cons (f := 71) (args := #[.pointer (some ⟨g, 0, none⟩), .int .i64 p]) (by simp) (by simp [go_sem]) ?_
    refine (Rlook_any g v bs _ p _ .returning _ h2 h.le).mono ?_
    rintro e u' w'' ⟨rfl, rfl, h4, f4⟩
    rw [stepAt_back (fun e => (HK.out e).1)] at h4
    refine ⟨_, results_tmp rfl _ _ _, ?_, h4, f2.trans f4⟩
  · have : m = (numV bs p er size : Int) := by unfold numV; rw [if_pos HE.out]; exact (HK.out HE.out).2
    rw [← this]; rfl
  · have : numV bs p er size = 0 := by unfold numV; rw [if_neg HE.out]
    rw [this]; rfl
theorem RU32_any (g : Nat) (v : Value) (bs : List UInt8) (p : Nat) (er : Int) (w : World) (h : Rd w g v bs p er) :
    Calls Tryz.prog 47 #[.pointer (some ⟨g, 0, none⟩)] w (RPost w g v bs (.int .u32 (numV bs p er 4)) (stepAt bs.length p er 4) (hasErr bs.length p er 4)) := by
  have hc : Calls Tryz.prog 75 #[.pointer (some ⟨g, 0, none⟩), .int .i64 4] w _ := Rnumber_any g v bs p er 4 w h (by omega)
  have HC := Lib.hid hc
  clear hc
  have hb := numV_lt bs p er 4
  have hb1 : (numV bs p er 4 : Int) < 4294967296 := by omega
  clear hb
  go_enter Tryz.func47, Tryz.ntmps47
  go_wp2_with (go_at_call 75; refine HC.out.mono ?_; rintro e w2 ⟨rfl, h2, f2⟩)
  go_ret
  exact ⟨rfl, h2, f2⟩
def NewRPost (w : World) (bs : List UInt8) (e : Ending) (w' : World) : Prop :=
  ∃ g v, e = .returned (.pointer (some ⟨g, 0, none⟩)) ∧ w.heap.size ≤ g ∧ (∀ k, v.ownBlock = some k → w.heap.size ≤ k) ∧ Rd w' g v bs 0 0 ∧ Below w.heap.size w w'
theorem NewReader_any (A : Option Addr) (c : Nat) (bs : List UInt8) (w : World) (h : Lies w A (bytesV bs)) (hb : bs.length ≤ 140737488355328) :
    Calls Tryz.prog 45 #[.slice A bs.length c] w (NewRPost w bs) := by
  have H := Lib.hid h
  clear h
  go_enter Tryz.func45, Tryz.ntmps45
  go_wp2_with (go_at_call 70; refine (own_any A c bs _ H.out hb).mono ?_; rintro e w1 ⟨v, rfl, h1, b1⟩; obtain ⟨A1, c1, hv, -, -⟩ := own_slice h1; subst hv)
  go_ret
  refine ⟨w1.heap.size, _, rfl, b1.size, fun k hk => (World.ownsRow.lt h1 k hk).1, ⟨Whole.new _ _ _, own_base (h1.alloc _), Nat.zero_le _, hb⟩, b1.alloc b1.size _⟩
end Go.Proofs.YtgbhdjncccmabaaGreatDoor

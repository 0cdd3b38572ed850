/- What is proved: texts that stand one behind the other: Dc Dd. Conditions: each theorem names its own. -/
import Derived.Deep.QuietTactic
import Derived.BigQuiet
import Derived.Deep.RegionHeld3
import Derived.Deep.DeepCutAuto
import Derived.Deep.RegionWith
import Derived.Test.YtkaeoflgnnlbeaaGreatDoorQDb
/- What is proved: what the walks of this seat need of layers below, merged out of the texts Rea Num Nuu (of each just what is needed). Conditions: each theorem names its own. -/
/- What is proved: what each call of the Reader tells and does: NewReader, Err, At, Left, End, look, fail, has, Byte, number, U32, U64, Raw. Conditions: a reader that the caller holds, of at most 2^47 bytes; or a nil one. -/
namespace Go.Proofs.YtkaeoflgnnlbeaaGreatDoor
open Go.RowKit
set_option linter.unusedVariables false
variable {X : Option Int}
def RdT (X : Option Int) : TypeId := match X with | none => 164 | some _ => 166
def RdC (X : Option Int) (v a b : Value) : Array Value := match X with | none => #[v, a, b] | some f => #[v, a, b, .int .i64 f]
/-- A reader at block g over the bytes bs (v: its slice), at place p, with error er. -/
structure Rd (X : Option Int) (w : World) (g : Nat) (v : Value) (bs : List UInt8) (p : Nat) (er : Int) : Prop where
  whole : Whole w g (RdT X) (RdC X v (.int .i64 p) (.int .i64 er))
  own : w.ownsRow 0 5 1 v bs.length (bytesV bs)
  le : p ≤ bs.length
  small : bs.length ≤ 140737488355328
def RFr (g : Nat) (w w' : World) : Prop := Fr (fun k => k = g) w w'
def RPost (X : Option Int) (w : World) (g : Nat) (v : Value) (bs : List UInt8) (x : Value) (p : Nat) (er : Int) (e : Ending) (w' : World) : Prop := e = .returned x ∧ Rd X w' g v bs p er ∧ RFr g w w'
section
variable {w w' : World} {g : Nat} {v : Value} {bs : List UInt8} {p q : Nat} {er : Int}
theorem Rd.c0 (h : Rd X w g v bs p er) : w.cell? ⟨g, 0, none⟩ = some v := by cases X <;> simpa [RdC] using h.whole.cell 0
theorem Rd.c1 (h : Rd X w g v bs p er) : w.cell? ⟨g, 1, none⟩ = some (.int .i64 p) := by cases X <;> simpa [RdC] using h.whole.cell 1
theorem Rd.c2 (h : Rd X w g v bs p er) : w.cell? ⟨g, 2, none⟩ = some (.int .i64 er) := by cases X <;> simpa [RdC] using h.whole.cell 2
theorem Rd.ne (h : Rd X w g v bs p er) : v.ownBlock ≠ some g := own_apart h.own h.whole (by cases X <;> first | exact (by decide : (5 : TypeId) ≠ 164) | exact (by decide : (5 : TypeId) ≠ 166))
theorem Rd.drewN (h : Rd X w g v bs p er) (n : Nat) : Rd X (w.drewN n) g v bs p er := ⟨h.whole, h.own, h.le, h.small⟩
theorem Rd.fr {S : Nat → Prop} (h : Rd X w g v bs p er) (f : Fr S w w') (h1 : ¬ S g) (h2 : ∀ k, v.ownBlock = some k → ¬ S k) : Rd X w' g v bs p er :=
  ⟨h.whole.fr f h1, own_fr h.own f h2, h.le, h.small⟩
theorem Rd.below (h : Rd X w g v bs p er) (f : Below w.heap.size w w') : Rd X w' g v bs p er := h.fr (Fr.of_below (S := fun _ => False) f) (fun e => e) (fun _ _ e => e)
theorem Rd.setAt (h : Rd X w g v bs p er) (hq : q ≤ bs.length) : Rd X (w.setCell ⟨g, 1, none⟩ (.int .i64 q)) g v bs q er := by
  refine ⟨by cases X <;> simpa [RdC] using h.whole.set 1 (.int .i64 q), own_fr h.own ((Fr.refl (fun k => k = g) w).setCell (p := ⟨g, 1, none⟩) (fun _ => rfl) _) (fun k hk e => h.ne (by rw [hk, e])), hq, h.small⟩
theorem Rd.setErr (h : Rd X w g v bs p er) (f : Int) : Rd X (w.setCell ⟨g, 2, none⟩ (.int .i64 f)) g v bs p f := by
  refine ⟨by cases X <;> simpa [RdC] using h.whole.set 2 (.int .i64 f), own_fr h.own ((Fr.refl (fun k => k = g) w).setCell (p := ⟨g, 2, none⟩) (fun _ => rfl) _) (fun k hk e => h.ne (by rw [hk, e])), h.le, h.small⟩
theorem RFr.refl (g : Nat) (w : World) : RFr g w w := Fr.refl _ _
theorem RFr.trans {a b c : World} (h : RFr g a b) (k : RFr g b c) : RFr g a c := Fr.trans h k (fun _ _ e => e)
theorem RFr.drewN (h : RFr g w w') (n : Nat) : RFr g w (w'.drewN n) := Fr.drewN h n
theorem RFr.set (h : RFr g w w') (o : Nat) (u : Value) : RFr g w (w'.setCell ⟨g, o, none⟩ u) := Fr.setCell h (fun _ => rfl) u
end
theorem RErr_any (g : Nat) (v : Value) (bs : List UInt8) (p : Nat) (er : Int) (w : World) (h : Rd X w g v bs p er) :
    Calls Tryz.prog 86 #[.pointer (some ⟨g, 0, none⟩)] w fun e w' => e = .returned (.int .i64 er) ∧ w = w' := by
  have h2 := h.c2
  go_enter Tryz.func86, Tryz.ntmps86
  go_wp2
  go_ret
  exact ⟨rfl, rfl⟩
theorem RAt_any (g : Nat) (v : Value) (bs : List UInt8) (p : Nat) (er : Int) (w : World) (h : Rd X w g v bs p er) :
    Calls Tryz.prog 87 #[.pointer (some ⟨g, 0, none⟩)] w fun e w' => e = .returned (.int .i64 p) ∧ w = w' := by
  have h1 := h.c1
  go_enter Tryz.func87, Tryz.ntmps87
  go_wp2
  go_ret
  exact ⟨rfl, rfl⟩
def QuietPost (w : World) (x : Value) (e : Ending) (w' : World) : Prop := e = .returned x ∧ ∃ n, w' = w.drewN n
theorem RLeft_any (g : Nat) (v : Value) (bs : List UInt8) (p : Nat) (er : Int) (w : World) (h : Rd X w g v bs p er) :
    Calls Tryz.prog 89 #[.pointer (some ⟨g, 0, none⟩)] w (QuietPost w (.int .i64 (bs.length - p))) := by
  have h0 := h.c0
  have h1 := h.c1
  have hle := h.le
  have hsm := h.small
  obtain ⟨A, c, hv, -, -⟩ := own_slice h.own
  subst hv
  go_enter Tryz.func89, Tryz.ntmps89
  go_wp2
  go_quiet (fail)
  go_wp2
  go_ret
  exact ⟨rfl, _, rfl⟩
/-- fail: the first error stays. -/
def failErr (er f : Int) : Int := if er = 0 then f else er
theorem Rfail_any (g : Nat) (v : Value) (bs : List UInt8) (p : Nat) (er f : Int) (w : World) (h : Rd X w g v bs p er) :
    Calls Tryz.prog 96 #[.pointer (some ⟨g, 0, none⟩), .int .i64 f] w (RPost X w g v bs (.tuple #[]) p (failErr er f)) := by
  have h2 := h.c2
  have f2 := h.whole.frozen 2
  by_cases he : er = 0
  · subst he
    go_enter Tryz.func96, Tryz.ntmps96
    go_wp2_with (go_at_call 86; refine (RErr_any g v bs p _ _ h).mono ?_; rintro e w' ⟨rfl, rfl⟩)
    go_end0
    exact ⟨rfl, h.setErr f, (RFr.refl _ _).set _ _⟩
  · have he' : (er == 0) = false := by simpa using he
    go_enter Tryz.func96, Tryz.ntmps96
    go_wp2_with (go_at_call 86; refine (RErr_any g v bs p _ _ h).mono ?_; rintro e w' ⟨rfl, rfl⟩)
    go_end0
    exact ⟨rfl, by unfold failErr; rw [if_neg he]; exact h, RFr.refl _ _⟩
/-- has: whether n bytes can be taken, and the error that is then there. -/
def hasErr (len p : Nat) (er n : Int) : Int := if er = 0 then (if n ≤ len - p then 0 else 10) else er
def hasB (len p : Nat) (er n : Int) : Bool := decide (er = 0 ∧ n ≤ len - p)
theorem Rhas_any (g : Nat) (v : Value) (bs : List UInt8) (p : Nat) (er n : Int) (w : World) (h : Rd X w g v bs p er) :
    Calls Tryz.prog 97 #[.pointer (some ⟨g, 0, none⟩), .int .i64 n] w (RPost X w g v bs (.bool (hasB bs.length p er n)) p (hasErr bs.length p er n)) := by
  by_cases hn : (bs.length : Int) - p < n
  · go_enter Tryz.func97, Tryz.ntmps97
    go_wp2_with (first
      | (go_at_call 89; refine (RLeft_any g v bs p _ _ h).mono ?_; rintro e w1 ⟨rfl, m, rfl⟩)
      | (go_at_call 96; refine (Rfail_any g v bs p _ _ _ (h.drewN m)).mono ?_; rintro e w2 ⟨rfl, h2, f2⟩)
      | (go_at_call 86; refine (RErr_any g v bs p _ _ h2).mono ?_; rintro e w3 ⟨rfl, rfl⟩))
    go_ret
    refine ⟨ret_bool ?_, ?_, ((RFr.refl g w).drewN m).trans f2⟩
    · show (failErr er 10 == 0) = _
      unfold failErr hasB
      by_cases he : er = 0
      · rw [if_pos he]; simp; omega
      · rw [if_neg he]; simp [he]
    · have : hasErr bs.length p er n = failErr er 10 := by
        unfold hasErr failErr
        by_cases he : er = 0
        · rw [if_pos he, if_pos he, if_neg (by omega)]
        · rw [if_neg he, if_neg he]
      rw [this]
      exact h2
  · go_enter Tryz.func97, Tryz.ntmps97
    go_wp2_with (first
      | (go_at_call 89; refine (RLeft_any g v bs p _ _ h).mono ?_; rintro e w1 ⟨rfl, m, rfl⟩)
      | (go_at_call 86; refine (RErr_any g v bs p _ _ (h.drewN m)).mono ?_; rintro e w3 ⟨rfl, rfl⟩))
    go_ret
    refine ⟨ret_bool ?_, ?_, (RFr.refl g w).drewN m⟩
    · show (er == 0) = _
      unfold hasB
      by_cases he : er = 0
      · simp [he]; omega
      · simp [he]
    · have : hasErr bs.length p er n = er := by
        unfold hasErr
        by_cases he : er = 0
        · rw [if_pos he, if_pos (by omega), he]
        · rw [if_neg he]
      rw [this]
      exact h.drewN m
/-- look, deferred: at an error the place is where the call began. -/
def backAt (er : Int) (p from' : Nat) : Nat := if er = 0 then p else from'
theorem Rlook_any (g : Nat) (v : Value) (bs : List UInt8) (p q : Nat) (er : Int) (u : FrameMode) (w : World) (h : Rd X w g v bs p er) (hq : q ≤ bs.length) :
    CallsD Tryz.prog 95 #[.pointer (some ⟨g, 0, none⟩), .int .i64 q] u w fun e u' w' => u' = u ∧ (e = .returned (.tuple #[]) ∧ Rd X w' g v bs (backAt er p q) er ∧ RFr g w w') := by
  have h2 := h.c2
  have h1 := h.c1
  have f1 := h.whole.frozen 1
  by_cases he : er = 0
  · subst he
    go_enter_d Tryz.func95, Tryz.ntmps95
    go_wp2
    go_end0
    exact ⟨rfl, by unfold backAt; rw [if_pos rfl]; exact h, RFr.refl _ _⟩
  · have he' : (er == 0) = false := by simpa using he
    have he2 : (er != 0) = true := by simpa using he
    go_enter_d Tryz.func95, Tryz.ntmps95
    go_wp2
    go_end0
    exact ⟨rfl, by unfold backAt; rw [if_neg he]; exact h.setAt hq, (RFr.refl _ _).set _ _⟩
def byteAt (bs : List UInt8) (p : Nat) (er : Int) : UInt8 := if er = 0 then bs.getD p 0 else 0
def stepAt (len p : Nat) (er : Int) (n : Nat) : Nat := if er = 0 ∧ p + n ≤ len then p + n else p
theorem lies_at {w : World} {A : Option Addr} {bs : List UInt8} (h : Lies w A (bytesV bs)) (hp : bs ≠ []) : ∃ b o, A = some ⟨b, o, none⟩ := by
  rcases h with h | ⟨b, o, h, _⟩
  · exact absurd (List.eq_nil_of_length_eq_zero (by rw [← bytesV_length, h]; rfl)) hp
  · exact ⟨b, o, h⟩
theorem lies_byte {w : World} {b o : Nat} {bs : List UInt8} (h : Lies w (some ⟨b, o, none⟩) (bytesV bs)) {p : Nat} (hp : p < bs.length) : w.cell? ⟨b, o + p, none⟩ = some (.int .u8 (bs.getD p 0).toNat) := by
  rcases h with h | ⟨b', o', h, hc⟩
  · have : bs.length = 0 := by rw [← bytesV_length, h]; rfl
    omega
  · injection h with h
    injection h with h1 h2
    subst h1; subst h2
    apply hc
    unfold bytesV
    rw [List.getElem?_map, List.getElem?_eq_getElem hp, List.getD_eq_getElem?_getD, List.getElem?_eq_getElem hp]
    rfl
theorem hasB_true {len p : Nat} {er n : Int} (h : hasB len p er n = true) : er = 0 ∧ n ≤ len - p := by simpa [hasB] using h
theorem hasB_false {len p : Nat} {er n : Int} (h : ¬ hasB len p er n = true) : er ≠ 0 ∨ (er = 0 ∧ (len : Int) - p < n) := by
  by_cases he : er = 0
  · right
    refine ⟨he, ?_⟩
    rcases Int.lt_or_le ((len : Int) - p) n with h1 | h1
    · exact h1
    · exact absurd (by simp [hasB, he, h1]) h
  · exact .inl he
set_option maxHeartbeats 1600000 in
theorem RByte_any (g : Nat) (v : Value) (bs : List UInt8) (p : Nat) (er : Int) (w : World) (h : Rd X w g v bs p er) :
    Calls Tryz.prog 116 #[.pointer (some ⟨g, 0, none⟩)] w (RPost X w g v bs (.int .u8 (byteAt bs p er).toNat) (stepAt bs.length p er 1) (hasErr bs.length p er 1)) := by
  have hsm := h.small
  by_cases hb : hasB bs.length p er 1 = true
  · obtain ⟨rfl, hp⟩ := hasB_true hb
    obtain ⟨A, c, hv, hc, hm, -⟩ := own_lies h.own
    obtain ⟨b, o, hA⟩ := lies_at hm (by rintro rfl; simp at hp; omega)
    subst hA
    subst hv
    have hE : hasErr bs.length p 0 1 = 0 := by unfold hasErr; rw [if_pos rfl, if_pos hp]
    have HE := Lib.hid hE
    have HB := Lib.hid hb
    clear hE hb hm
    have hp1 : (p : Int) < bs.length := by omega
    have hp0 : (0 : Int) ≤ (p : Int) := by omega
    go_enter_defers Tryz.func116, Tryz.ntmps116
    go_wp2_with (first
      | (go_at_call 87; refine (RAt_any g _ bs p _ _ h).mono ?_; rintro e w1 ⟨rfl, rfl⟩)
      | (go_at_call 97; refine (Rhas_any g _ bs p _ _ _ h).mono ?_; rintro e w2 ⟨rfl, h2, f2⟩; rw [HB.out]; rw [HE.out] at h2))
    have c0 := h2.c0
    have c1 := h2.c1
    have f1 := h2.whole.frozen 1
    have cb := lies_byte (Lies.of_own h2.own) (p := p) (by omega)
    go_quiet (fail)
    go_wp2
    have h3 := fun n : Nat => (h2.drewN n).setAt (q := p + 1) (by omega)
    refine leaves_cons (f := 95) (args := #[.pointer (some ⟨g, 0, none⟩), .int .i64 p]) (by simp) (by simp [go_sem]) ?_
    refine (Rlook_any g _ bs _ p 0 .returning _ (h3 _) h.le).mono ?_
    rintro e u' w'' ⟨rfl, rfl, h4, f4⟩
    have hP : RPost X w g (.slice (some ⟨b, o, none⟩) bs.length c) bs (.int .u8 (byteAt bs p 0).toNat) (stepAt bs.length p 0 1) (hasErr bs.length p 0 1) (.returned (.int .u8 (bs[p]?.getD 0).toNat)) w'' := by
      refine ⟨?_, ?_, ((f2.drewN _).set 1 _).trans f4⟩
      · unfold byteAt; rw [if_pos rfl, List.getD_eq_getElem?_getD]
      · rw [HE.out]
        have e1 : stepAt bs.length p 0 1 = backAt 0 (p + 1) p := by unfold stepAt backAt; rw [if_pos ⟨rfl, by omega⟩, if_pos rfl]
        rw [e1]
        exact h4
    refine ⟨_, results_tmp rfl _ _ _, ?_⟩
    exact hP
  · have hE : (hasErr bs.length p er 1 = 0) = False := by
      have := hasB_false hb
      simp only [eq_iff_iff, iff_false]
      unfold hasErr
      split
      · rw [if_neg (by omega)]; omega
      · assumption
    have HB := Lib.hid (by simpa using hb : hasB bs.length p er 1 = false)
    have HE := Lib.hid hE
    clear hE
    have hb2 := Lib.hid (hasB_false hb)
    clear hb
    go_enter_defers Tryz.func116, Tryz.ntmps116
    go_wp2_with (first
      | (go_at_call 87; refine (RAt_any g _ bs p _ _ h).mono ?_; rintro e w1 ⟨rfl, rfl⟩)
      | (go_at_call 97; refine (Rhas_any g _ bs p _ _ _ h).mono ?_; rintro e w2 ⟨rfl, h2, f2⟩; rw [HB.out]))
    refine leaves_cons (f := 95) (args := #[.pointer (some ⟨g, 0, none⟩), .int .i64 p]) (by simp) (by simp [go_sem]) ?_
    refine (Rlook_any g _ bs _ p _ .returning _ h2 h.le).mono ?_
    rintro e u' w'' ⟨rfl, rfl, h4, f4⟩
    have hP : RPost X w g v bs (.int .u8 (byteAt bs p er).toNat) (stepAt bs.length p er 1) (hasErr bs.length p er 1) (.returned (.int .u8 0)) w'' := by
      have e2 := hb2.out
      refine ⟨?_, ?_, f2.trans f4⟩
      · have : byteAt bs p er = 0 := by
          unfold byteAt
          split
          · rw [List.getD_eq_getElem?_getD, List.getElem?_eq_none (by omega)]; rfl
          · rfl
        rw [this]; rfl
      · have e1 : stepAt bs.length p er 1 = backAt (hasErr bs.length p er 1) p p := by
          unfold stepAt backAt
          rw [if_neg (by omega)]
          split <;> rfl
        rw [e1]
        exact h4
    refine ⟨_, results_tmp rfl _ _ _, ?_⟩
    exact hP
end Go.Proofs.YtkaeoflgnnlbeaaGreatDoor
/- What is proved: the Reader's numbers of four and eight bytes (takeHighFirst, number, U32, U64). Conditions: a reader that the caller holds, or a nil one. -/
namespace Go.Proofs.YtkaeoflgnnlbeaaGreatDoor
open Go.RowKit
set_option linter.unusedVariables false
variable {X : Option Int}
/-- Bytes as a number, the highest first. -/
def bigV (l : List UInt8) : Nat := l.foldl (fun a b => a * 256 + b.toNat) 0
theorem bigV_snoc (l : List UInt8) (b : UInt8) : bigV (l ++ [b]) = bigV l * 256 + b.toNat := by simp [bigV]
theorem bigV_acc (l : List UInt8) (a : Nat) : l.foldl (fun a b => a * 256 + b.toNat) a < (a + 1) * 256 ^ l.length := by
  induction l generalizing a with
  | nil => simp
  | cons b l ih =>
    have h := ih (a * 256 + b.toNat)
    have hb := b.toNat_lt
    refine Nat.lt_of_lt_of_le h ?_
    rw [List.length_cons, Nat.pow_succ, Nat.mul_comm (256 ^ l.length) 256, ← Nat.mul_assoc]
    exact Nat.mul_le_mul_right _ (by omega)
theorem bigV_lt (l : List UInt8) : bigV l < 256 ^ l.length := by simpa [bigV] using bigV_acc l 0
theorem or_byte (m c : Int) (h0 : 0 ≤ m) (h1 : m < 72057594037927936) (h2 : 0 ≤ c) (h3 : c < 256) : bits .or .u64 (m * 256) c = m * 256 + c := by
  rw [u64_or (m * 256) c (by omega) (by omega) (by omega) (by omega)]
  have e : (m * 256).toNat = m.toNat <<< 8 := by rw [Nat.shiftLeft_eq]; omega
  rw [e, ← Nat.shiftLeft_add_eq_or_of_lt (by omega), Nat.shiftLeft_eq]
  omega
theorem pow256 {k : Nat} (h : k ≤ 7) : (256 : Nat) ^ k ≤ 72057594037927936 := by
  have := Nat.pow_le_pow_right (show 0 < 256 by decide) h
  simpa using this
theorem hasErr_ok {len p : Nat} {n : Int} (h : n ≤ len - p) : hasErr len p 0 n = 0 := by unfold hasErr; rw [if_pos rfl, if_pos h]
theorem hasErr_end {len p : Nat} {n : Int} (h : ¬ n ≤ len - p) : hasErr len p 0 n = 10 := by unfold hasErr; rw [if_pos rfl, if_neg h]
theorem hasErr_err {len p : Nat} {er n : Int} (h : er ≠ 0) : hasErr len p er n = er := by unfold hasErr; rw [if_neg h]
theorem hasErr_next {len p q : Nat} {er : Int} {k : Nat} (hq : hasErr len p er k = 0 → q = p + k) : hasErr len q (hasErr len p er k) 1 = hasErr len p er ((k + 1 : Nat) : Int) := by
  by_cases he : er = 0
  · subst he
    by_cases h1 : (k : Int) ≤ len - p
    · rw [hasErr_ok h1] at hq ⊢
      have := hq rfl
      subst this
      by_cases h2 : ((k + 1 : Nat) : Int) ≤ len - p
      · rw [hasErr_ok h2, hasErr_ok (by omega)]
      · rw [hasErr_end h2, hasErr_end (by omega)]
    · rw [hasErr_end h1, hasErr_end (by omega : ¬ ((k + 1 : Nat) : Int) ≤ len - p)]
      exact hasErr_err (by decide)
  · rw [hasErr_err he, hasErr_err he, hasErr_err he]
theorem hasErr_back {len p : Nat} {er : Int} {k : Nat} (h : hasErr len p er ((k + 1 : Nat) : Int) = 0) : hasErr len p er k = 0 ∧ er = 0 ∧ p + k < len := by
  unfold hasErr at h ⊢
  by_cases he : er = 0
  · simp only [if_pos he] at h ⊢
    by_cases h2 : ((k + 1 : Nat) : Int) ≤ len - p
    · rw [if_pos (by omega)]; exact ⟨rfl, he, by omega⟩
    · rw [if_neg h2] at h; omega
  · rw [if_neg he] at h; exact absurd h he
theorem hasErr_zero {len p : Nat} {er n : Int} (h : hasErr len p er n = 0) : er = 0 ∧ n ≤ len - p := by
  unfold hasErr at h
  by_cases he : er = 0
  · rw [if_pos he] at h
    by_cases h2 : n ≤ len - p
    · exact ⟨he, h2⟩
    · rw [if_neg h2] at h; omega
  · rw [if_neg he] at h; exact absurd h he
def TakePost (X : Option Int) (w : World) (g : Nat) (v : Value) (bs : List UInt8) (p : Nat) (er : Int) (size : Nat) (e : Ending) (w' : World) : Prop :=
  ∃ (q : Nat) (m : Int), e = .returned (.int .u64 m) ∧ Rd X w' g v bs q (hasErr bs.length p er size) ∧ RFr g w w' ∧
    (hasErr bs.length p er size = 0 → q = p + size ∧ m = bigV ((bs.drop p).take size))
/-- What stands at the head of a round. -/
def TakeRel (X : Option Int) (w : World) (g : Nat) (v : Value) (bs : List UInt8) (p : Nat) (er : Int) (k q : Nat) (m : Int) (wr : World) : Prop :=
  Rd X wr g v bs q (hasErr bs.length p er k) ∧ RFr g w wr ∧ m.toNat < 256 ^ k ∧ (hasErr bs.length p er k = 0 → q = p + k ∧ m = bigV ((bs.drop p).take k))
theorem take_rel_next {w : World} {g : Nat} {v : Value} {bs : List UInt8} {p : Nat} {er : Int} {k q : Nat} {m : Int} {wr w2 : World} (h : TakeRel X w g v bs p er k q m wr) (hm0 : 0 ≤ m)
    (h2 : Rd X w2 g v bs (stepAt bs.length q (hasErr bs.length p er k) 1) (hasErr bs.length q (hasErr bs.length p er k) 1)) (f2 : RFr g wr w2) :
    TakeRel X w g v bs p er (k + 1) (stepAt bs.length q (hasErr bs.length p er k) 1) (m * 256 + ((byteAt bs q (hasErr bs.length p er k)).toNat : Int)) w2 := by
  obtain ⟨hr, hf, hm, hok⟩ := h
  have hn := hasErr_next (fun e => (hok e).1)
  have hb := (byteAt bs q (hasErr bs.length p er k)).toNat_lt
  refine ⟨by rw [hn] at h2; exact h2, hf.trans f2, ?_, fun he => ?_⟩
  · rw [Nat.pow_succ]; omega
  · obtain ⟨h0, he0, hlt⟩ := hasErr_back he
    obtain ⟨hq, hmv⟩ := hok h0
    subst hq
    refine ⟨?_, ?_⟩
    · unfold stepAt; rw [if_pos ⟨h0, by omega⟩]; omega
    · have hd : p + k < bs.length := hlt
      rw [List.take_succ_eq_append_getElem (by rw [List.length_drop]; omega), bigV_snoc, hmv]
      have : byteAt bs (p + k) (hasErr bs.length p er k) = (bs.drop p)[k]'(by rw [List.length_drop]; omega) := by
        unfold byteAt
        rw [if_pos h0, List.getD_eq_getElem?_getD, List.getElem?_eq_getElem hd, List.getElem_drop]
        rfl
      rw [this]
      omega
set_option maxHeartbeats 800000 in
theorem takeHi_any (g : Nat) (v : Value) (bs : List UInt8) (p : Nat) (er : Int) (size : Nat) (w : World) (h : Rd X w g v bs p er) (hs : size ≤ 8) :
    Calls Tryz.prog 122 #[.func (.func 116) #[.pointer (some ⟨g, 0, none⟩)] #[], .int .i64 size] w (TakePost X w g v bs p er size) := by
  have hst : TakeRel X w g v bs p er 0 p 0 w := by
    refine ⟨?_, RFr.refl _ _, by decide, fun _ => ⟨rfl, rfl⟩⟩
    have : hasErr bs.length p er ((0 : Nat) : Int) = er := by
      unfold hasErr
      split
      · rw [if_pos (by have := h.le; omega)]; omega
      · rfl
    rw [this]; exact h
  go_enter Tryz.func122, Tryz.ntmps122
  go_wp2_with fail
  go_loopw [5, 7] (fun n i wr => ∃ (k q : Nat) (m : Int), k ≤ size ∧ i = .int .i64 k ∧ n = .int .u64 m ∧ 0 ≤ m ∧ m < 18446744073709551616 ∧ TakeRel X w g v bs p er k q m wr) (fun _ i _ => size - (intOf i).toNat)
  case atStart => exact ⟨0, p, 0, Nat.zero_le _, rfl, rfl, by omega, by omega, hst⟩
  case round =>
    obtain ⟨k, q, m, hk, rfl, rfl, hm0, hm1, hr⟩ := hrel
    by_cases hlt : k < size
    · have hm2 : m < 72057594037927936 := by
        have := hr.2.2.1
        have := pow256 (show k ≤ 7 by omega)
        omega
      have hb0 : (0 : Int) ≤ ((byteAt bs q (hasErr bs.length p er k)).toNat : Int) := by omega
      have hb1 : ((byteAt bs q (hasErr bs.length p er k)).toNat : Int) < 256 := by have := (byteAt bs q (hasErr bs.length p er k)).toNat_lt; omega
      have HO := Lib.hid (or_byte m _ hm0 hm2 hb0 hb1)
      go_wp2_with (go_at_call 116; refine (RByte_any g v bs _ _ _ hr.1).mono ?_; rintro e w' ⟨rfl, h2, f2⟩)
      go_roundw
      case rel => exact ⟨k + 1, _, _, by omega, by go_num, by rw [HO.out], by omega, by omega, take_rel_next hr hm0 h2 f2⟩
      case measure => simp [intOf]; omega
    · obtain rfl : k = size := by omega
      go_wp2_with fail
      go_ret
      exact ⟨q, m, rfl, hr.1, hr.2.1, hr.2.2.2⟩
end Go.Proofs.YtkaeoflgnnlbeaaGreatDoor
/- What is proved: the Reader's number, U32, U64 and Raw, NewReader and End. Conditions: a reader that the caller holds, or a nil one. -/
namespace Go.Proofs.YtkaeoflgnnlbeaaGreatDoor
open Go.RowKit
set_option linter.unusedVariables false
variable {X : Option Int}
theorem ne_bool (x : Int) : (x = 0 ∧ (x != 0) = false) ∨ (x ≠ 0 ∧ (x != 0) = true) := by
  by_cases h : x = 0
  · exact .inl ⟨h, by rw [h]; rfl⟩
  · exact .inr ⟨h, by simpa using h⟩
def numV (bs : List UInt8) (p : Nat) (er : Int) (size : Nat) : Nat := if hasErr bs.length p er size = 0 then bigV ((bs.drop p).take size) else 0
theorem numV_lt (bs : List UInt8) (p : Nat) (er : Int) (size : Nat) : numV bs p er size < 256 ^ size := by
  unfold numV
  split
  · refine Nat.lt_of_lt_of_le (bigV_lt _) (Nat.pow_le_pow_right (by decide) ?_)
    rw [List.length_take]; omega
  · exact Nat.pow_pos (by decide)
theorem stepAt_back {len p q : Nat} {er : Int} {n : Nat} (hok : hasErr len p er n = 0 → q = p + n) : backAt (hasErr len p er n) q p = stepAt len p er n := by
  unfold backAt stepAt
  by_cases h : hasErr len p er n = 0
  · rw [if_pos h, hok h]
    obtain ⟨h1, h2⟩ := hasErr_zero h
    rw [if_pos ⟨h1, by omega⟩]
  · rw [if_neg h]
    rw [if_neg]
    rintro ⟨h1, h2⟩
    subst h1
    exact h (hasErr_ok (by omega))
set_option maxHeartbeats 1600000 in
theorem Rnumber_any (g : Nat) (v : Value) (bs : List UInt8) (p : Nat) (er : Int) (size : Nat) (w : World) (h : Rd X w g v bs p er) (hs : size ≤ 8) :
    Calls Tryz.prog 98 #[.pointer (some ⟨g, 0, none⟩), .int .i64 size] w (RPost X w g v bs (.int .u64 (numV bs p er size)) (stepAt bs.length p er size) (hasErr bs.length p er size)) := by
  have hmf : ∀ (fn : Fn) (first cap : Array Value) (w : World), (Instr.makeFunc fn first cap).run Tryz.prog w = .ok (.func fn first cap) w := fun _ _ _ _ => rfl
  rcases ne_bool (hasErr bs.length p er size) with ⟨he, heb⟩ | ⟨he, heb⟩
  all_goals
    have HE := Lib.hid he
    clear he
    go_enter_defers Tryz.func98, Tryz.ntmps98
    go_wp2_with (first
      | (go_at_call 87; refine (RAt_any g v bs p _ _ h).mono ?_; rintro e w1 ⟨rfl, rfl⟩)
      | (go_at_call 122; refine (takeHi_any g v bs p er size _ h hs).mono ?_; rintro e w2 ⟨q, m, rfl, h2, f2, hok⟩; have HK := Lib.hid hok; clear hok)
      | (go_at_call 86; refine (RErr_any g v bs _ _ _ h2).mono ?_; rintro e w3 ⟨rfl, rfl⟩))
    refine leaves_cons (f := 95) (args := #[.pointer (some ⟨g, 0, none⟩), .int .i64 p]) (by simp) (by simp [go_sem]) ?_
    refine (Rlook_any g v bs _ p _ .returning _ h2 h.le).mono ?_
    rintro e u' w'' ⟨rfl, rfl, h4, f4⟩
    rw [stepAt_back (fun e => (HK.out e).1)] at h4
    refine ⟨_, results_tmp rfl _ _ _, ?_, h4, f2.trans f4⟩
  · have : m = (numV bs p er size : Int) := by unfold numV; rw [if_pos HE.out]; exact (HK.out HE.out).2
    rw [← this]; rfl
  · have : numV bs p er size = 0 := by unfold numV; rw [if_neg HE.out]
    rw [this]; rfl
theorem RU32_any (g : Nat) (v : Value) (bs : List UInt8) (p : Nat) (er : Int) (w : World) (h : Rd X w g v bs p er) :
    Calls Tryz.prog 66 #[.pointer (some ⟨g, 0, none⟩)] w (RPost X w g v bs (.int .u32 (numV bs p er 4)) (stepAt bs.length p er 4) (hasErr bs.length p er 4)) := by
  have hc : Calls Tryz.prog 98 #[.pointer (some ⟨g, 0, none⟩), .int .i64 4] w _ := Rnumber_any g v bs p er 4 w h (by omega)
  have HC := Lib.hid hc
  clear hc
  have hb := numV_lt bs p er 4
  have hb1 : (numV bs p er 4 : Int) < 4294967296 := by omega
  clear hb
  go_enter Tryz.func66, Tryz.ntmps66
  go_wp2_with (go_at_call 98; refine HC.out.mono ?_; rintro e w2 ⟨rfl, h2, f2⟩)
  go_ret
  exact ⟨rfl, h2, f2⟩
def NewRPost (w : World) (bs : List UInt8) (e : Ending) (w' : World) : Prop :=
  ∃ g v, e = .returned (.pointer (some ⟨g, 0, none⟩)) ∧ w.heap.size ≤ g ∧ (∀ k, v.ownBlock = some k → w.heap.size ≤ k) ∧ Rd none w' g v bs 0 0 ∧ Below w.heap.size w w'
theorem NewReader_any (A : Option Addr) (c : Nat) (bs : List UInt8) (w : World) (h : Lies w A (bytesV bs)) (hb : bs.length ≤ 140737488355328) :
    Calls Tryz.prog 64 #[.slice A bs.length c] w (NewRPost w bs) := by
  have H := Lib.hid h
  clear h
  go_enter Tryz.func64, Tryz.ntmps64
  go_wp2_with (go_at_call 51; refine (own_any A c bs _ H.out hb).mono ?_; rintro e w1 ⟨v, rfl, h1, b1⟩; obtain ⟨A1, c1, hv, -, -⟩ := own_slice h1; subst hv)
  go_ret
  refine ⟨w1.heap.size, _, rfl, b1.size, fun k hk => (World.ownsRow.lt h1 k hk).1, ⟨Whole.new _ _ _, own_base (h1.alloc _), Nat.zero_le _, hb⟩, b1.alloc b1.size _⟩
end Go.Proofs.YtkaeoflgnnlbeaaGreatDoor
/- What is proved: what the walks of this seat need of layers below, merged out of the texts Raw Dig Var (of each just what is needed). Conditions: each theorem names its own. -/
/- What is proved: the Reader's Raw. Conditions: a reader that the caller holds, or a nil one. -/
namespace Go.Proofs.YtkaeoflgnnlbeaaGreatDoor
open Go.RowKit
set_option linter.unusedVariables false
variable {X : Option Int}
def rawErr (len p : Nat) (er n : Int) : Int := if n < 0 then failErr er 3 else hasErr len p er n
def rawB (bs : List UInt8) (p : Nat) (er n : Int) : List UInt8 := if n < 0 then [] else if hasErr bs.length p er n = 0 then (bs.drop p).take n.toNat else []
def rawAt (len p : Nat) (er n : Int) : Nat := if n < 0 then p else stepAt len p er n.toNat
def RawPost (X : Option Int) (w : World) (g : Nat) (v : Value) (bs : List UInt8) (p : Nat) (er n : Int) (e : Ending) (w' : World) : Prop :=
  ∃ v', e = .returned v' ∧ w'.ownsRow w.heap.size 5 1 v' (rawB bs p er n).length (bytesV (rawB bs p er n)) ∧ Rd X w' g v bs (rawAt bs.length p er n) (rawErr bs.length p er n) ∧ RFr g w w'
theorem own_down {w : World} {base base' : Nat} {e : TypeId} {size n : Nat} {v : Value} {xs : List Value} (h : w.ownsRow base e size v n xs) (hb : base' ≤ base) : w.ownsRow base' e size v n xs := by
  refine ⟨h.1, ?_⟩
  rcases h.2 with h0 | ⟨g, cap, cur, hv, hg, r⟩
  · exact .inl h0
  · exact .inr ⟨g, cap, cur, hv, Nat.le_trans hb hg, r⟩
theorem lies_cut {w : World} {b o : Nat} {xs : List UInt8} (h : Lies w (some ⟨b, o, none⟩) (bytesV xs)) (p n : Nat) : Lies w (some ⟨b, o + p, none⟩) (bytesV ((xs.drop p).take n)) := by
  rcases h with h | ⟨b', o', h, hc⟩
  · have : xs = [] := List.eq_nil_of_length_eq_zero (by rw [← bytesV_length, h]; rfl)
    subst this
    exact .inl (by simp [bytesV])
  · injection h with h
    injection h with h1 h2
    subst h1; subst h2
    refine .inr ⟨b, o + p, rfl, fun j u hu => ?_⟩
    rw [Nat.add_assoc]
    apply hc
    unfold bytesV at hu ⊢
    rw [List.getElem?_map, List.getElem?_take] at hu
    rw [List.getElem?_map]
    split at hu
    · rwa [List.getElem?_drop] at hu
    · simp at hu
theorem cut_lies {w : World} {A : Option Addr} {bs : List UInt8} (h : Lies w A (bytesV bs)) {p c : Nat} (hc : bs.length ≤ c) (N : Nat) : Lies w (if c = p then A else Option.map (fun x => x.add p) A) (bytesV ((bs.drop p).take N)) := by
  by_cases hcp : c = p
  · rw [if_pos hcp, List.drop_of_length_le (by omega)]
    exact .inl (by simp [bytesV])
  · rw [if_neg hcp]
    by_cases hb : bs = []
    · subst hb
      exact .inl (by simp [bytesV])
    · obtain ⟨b, o, rfl⟩ := lies_at h hb
      rw [Option.map_some, add_off]
      exact lies_cut h p N
theorem own_n (A : Option Addr) (c N : Nat) (xs : List UInt8) (w : World) (hN : xs.length = N) (h : Lies w A (bytesV xs)) (hb : xs.length ≤ 140737488355328) :
    Calls Tryz.prog 51 #[.slice A N c] w (OwnPost w xs) := by
  subst hN
  exact own_any A c xs w h hb
set_option maxHeartbeats 1600000 in
theorem RRaw_any (g : Nat) (v : Value) (bs : List UInt8) (p : Nat) (er n : Int) (w : World) (h : Rd X w g v bs p er) (hn0 : -9223372036854775808 ≤ n) (hn1 : n ≤ 9223372036854775807) :
    Calls Tryz.prog 65 #[.pointer (some ⟨g, 0, none⟩), .int .i64 n] w (RawPost X w g v bs p er n) := by
  have hsm := h.small
  by_cases hneg : n < 0
  · have hB : hasB bs.length p (failErr er 3) n = false := by
      unfold hasB failErr
      split
      · simp
      · simp [*]
    have hE : hasErr bs.length p (failErr er 3) n = failErr er 3 := by
      unfold hasErr failErr
      split
      · rename_i h1; subst h1; rw [if_neg (by decide)]
      · rfl
    have HB := Lib.hid hB
    have HE := Lib.hid hE
    clear hB hE
    go_enter_defers Tryz.func65, Tryz.ntmps65
    go_wp2_with (first
      | (go_at_call 87; refine (RAt_any g v bs p _ _ h).mono ?_; rintro e w1 ⟨rfl, rfl⟩)
      | (go_at_call 96; refine (Rfail_any g v bs p _ _ _ h).mono ?_; rintro e w2 ⟨rfl, h2, f2⟩)
      | (go_at_call 97; refine (Rhas_any g v bs p _ _ _ h2).mono ?_; rintro e w3 ⟨rfl, h3, f3⟩; rw [HB.out]; rw [HE.out] at h3))
    refine leaves_cons (f := 95) (args := #[.pointer (some ⟨g, 0, none⟩), .int .i64 p]) (by simp) (by simp [go_sem]) ?_
    refine (Rlook_any g v bs p p _ .returning _ h3 h.le).mono ?_
    rintro e u' w'' ⟨rfl, rfl, h4, f4⟩
    have e1 : backAt (failErr er 3) p p = rawAt bs.length p er n := by unfold backAt rawAt; rw [if_pos hneg]; split <;> rfl
    have e2 : failErr er 3 = rawErr bs.length p er n := by unfold rawErr; rw [if_pos hneg]
    have e3 : rawB bs p er n = [] := by unfold rawB; rw [if_pos hneg]
    rw [e1, e2] at h4
    refine ⟨_, results_tmp rfl _ _ _, _, rfl, ?_, h4, (f2.trans f3).trans f4⟩
    rw [e3]
    exact World.ownsRow_nil _ _ _ _
  · by_cases hb : hasB bs.length p er n = true
    · obtain ⟨rfl, hp⟩ := hasB_true hb
      obtain ⟨N, rfl⟩ := Int.eq_ofNat_of_zero_le (show 0 ≤ n by omega)
      obtain ⟨A, c, hv, hc, hm, -⟩ := own_lies h.own
      have hE : hasErr bs.length p 0 N = 0 := hasErr_ok hp
      have HE := Lib.hid hE
      have HB := Lib.hid hb
      clear hE hb
      subst hv
      have hpw : IntKind.i64.wrap ((p : Int) + N) = (p : Int) + N := IntWalk.i64_in _ (by omega)
      have hpn : ((p : Int) + N).toNat = p + N := by omega
      have hp0 : (0 : Int) ≤ (p : Int) := by omega
      have hp1 : (0 : Int) ≤ (p : Int) + N := by omega
      have hpc : (p : Int) + N ≤ c := by omega
      have hple : (p : Int) ≤ (p : Int) + N := by omega
      go_enter_defers Tryz.func65, Tryz.ntmps65
      go_wp2_with (first
        | (go_at_call 87; refine (RAt_any g _ bs p _ _ h).mono ?_; rintro e w1 ⟨rfl, rfl⟩)
        | (go_at_call 97; refine (Rhas_any g _ bs p _ _ _ h).mono ?_; rintro e w2 ⟨rfl, h2, f2⟩; rw [HB.out]; rw [HE.out] at h2))
      have c0 := h2.c0
      have c1 := h2.c1
      have hL : Lies w2 (if c = p then A else Option.map (fun x => x.add p) A) (bytesV ((bs.drop p).take N)) := cut_lies (Lies.of_own h2.own) hc N
      have hNl : ((bs.drop p).take N).length = N := by rw [List.length_take, List.length_drop]; omega
      obtain ⟨A', hA'⟩ : ∃ A', (if c = p then A else Option.map (fun x => x.add p) A) = A' := ⟨_, rfl⟩
      rw [hA'] at hL
      have HL := Lib.hid hL
      have HN := Lib.hid hNl
      have hglt := h2.whole.lt
      clear hL hNl hm
      go_region_held3 (fun w' => w'.cell? ⟨g, 0, none⟩ = some (.slice A bs.length c) ∧ w'.cell? ⟨g, 1, none⟩ = some (.int .i64 p)) (go_keep)
        ((go_at_call 51; refine (own_n _ _ N _ _ HN.out (by exact HL.out) (by rw [HN.out]; omega)).mono ?_; rintro e w3 ⟨v3, rfl, h3, b3⟩; have k0 := (b3.cell (p := ⟨g, 0, none⟩) hglt).trans c0; have k1 := (b3.cell (p := ⟨g, 1, none⟩) hglt).trans c1))
      have b3' : Below w2.heap.size w2 w3 := ⟨b3.os, b3.tape, b3.output, b3.size, b3.block⟩
      have hr3 := h2.below b3'
      have f31 := hr3.whole.frozen 1
      have h5 := hr3.setAt (q := p + N) (by omega)
      go_wp2
      go_outline
      refine leaves_cons (f := 95) (args := #[.pointer (some ⟨g, 0, none⟩), .int .i64 p]) (by simp) (by simp [go_sem]) ?_
      refine (Rlook_any g _ bs _ p 0 .returning _ h5 h.le).mono ?_
      rintro e u' w'' ⟨rfl, rfl, h4, f4⟩
      have e1 : backAt 0 (p + N) p = rawAt bs.length p 0 N := by
        unfold backAt rawAt stepAt
        rw [if_pos rfl, if_neg (by omega), Int.toNat_natCast, if_pos ⟨rfl, by omega⟩]
      have e2 : rawErr bs.length p 0 N = 0 := by unfold rawErr; rw [if_neg (by omega)]; exact HE.out
      have e3 : rawB bs p 0 N = (bs.drop p).take N := by unfold rawB; rw [if_neg (by omega), if_pos HE.out, Int.toNat_natCast]
      rw [e1] at h4
      have hgne : ∀ k, v3.ownBlock = some k → ¬ k = g := fun k hk e => by
        have h6 := (World.ownsRow.lt h3 k hk).1
        have h7 : w2.heap.size ≤ k := h6
        omega
      have f5 : RFr g w3 w'' := ((RFr.refl g w3).set 1 _).trans f4
      refine ⟨_, results_tmp rfl _ _ _, v3, rfl, ?_, by rw [e2]; exact h4, (Fr.then_below f2 b3').trans f5 (fun _ _ e => e)⟩
      rw [e3]
      exact own_down (own_fr h3 f5 hgne) f2.size
    · have hf := hasB_false hb
      have HB := Lib.hid (by simpa using hb : hasB bs.length p er n = false)
      have HF := Lib.hid hf
      clear hf hb
      go_enter_defers Tryz.func65, Tryz.ntmps65
      go_wp2_with (first
        | (go_at_call 87; refine (RAt_any g v bs p _ _ h).mono ?_; rintro e w1 ⟨rfl, rfl⟩)
        | (go_at_call 97; refine (Rhas_any g v bs p _ _ _ h).mono ?_; rintro e w3 ⟨rfl, h3, f3⟩; rw [HB.out]))
      refine leaves_cons (f := 95) (args := #[.pointer (some ⟨g, 0, none⟩), .int .i64 p]) (by simp) (by simp [go_sem]) ?_
      refine (Rlook_any g v bs p p _ .returning _ h3 h.le).mono ?_
      rintro e u' w'' ⟨rfl, rfl, h4, f4⟩
      have hz : hasErr bs.length p er n ≠ 0 := fun e => by
        have := hasErr_zero e
        rcases HF.out with h1 | h1 <;> omega
      have e1 : backAt (hasErr bs.length p er n) p p = rawAt bs.length p er n := by
        unfold backAt rawAt stepAt
        rw [if_neg hz, if_neg (by omega), if_neg]
        rintro ⟨h1, h2⟩
        rcases HF.out with h3 | h3 <;> omega
      have e2 : hasErr bs.length p er n = rawErr bs.length p er n := by unfold rawErr; rw [if_neg (by omega)]
      have e3 : rawB bs p er n = [] := by unfold rawB; rw [if_neg (by omega), if_neg hz]
      rw [e1, e2] at h4
      refine ⟨_, results_tmp rfl _ _ _, _, rfl, ?_, h4, f3.trans f4⟩
      rw [e3]
      exact World.ownsRow_nil _ _ _ _
end Go.Proofs.YtkaeoflgnnlbeaaGreatDoor
/- What is proved: the Reader's digits to the base 128 (digits): what a number of any size is read as, or the error. Conditions: a reader that the caller holds. -/
namespace Go.Proofs.YtkaeoflgnnlbeaaGreatDoor
open Go.RowKit
set_option linter.unusedVariables false
variable {X : Option Int}
/-- A number of any size off the bytes: its value, how many bytes it took, the error (f: rounds left; k: the round; a: so far). -/
def scan : Nat → Nat → Nat → List UInt8 → Nat × Nat × Int
  | 0, _, _, _ => (0, 0, 12)
  | _ + 1, _, _, [] => (0, 0, 10)
  | f + 1, k, a, c :: t =>
    if (k = 9 ∧ 1 < c.toNat) ∨ (0 < k ∧ c.toNat = 0) then (0, 0, 12)
    else if c.toNat < 128 then (a + c.toNat % 128 * 128 ^ k, k + 1, 0)
    else scan f (k + 1) (a + c.toNat % 128 * 128 ^ k) t
def varR (l : List UInt8) : Nat × Nat × Int := scan 10 0 0 l
def digR (bs : List UInt8) (p : Nat) (er : Int) : Nat × Nat × Int := if er = 0 then varR (bs.drop p) else (0, 0, er)
theorem scan_size (f k a : Nat) (l : List UInt8) : (scan f k a l).2.2 = 0 → k + 1 ≤ (scan f k a l).2.1 ∧ (scan f k a l).2.1 ≤ k + l.length ∧ (scan f k a l).2.1 ≤ k + f := by
  induction f generalizing k a l with
  | zero => intro h; simp [scan] at h
  | succ f ih =>
    cases l with
    | nil => intro h; simp [scan] at h
    | cons c t =>
      unfold scan
      split
      · intro h; simp at h
      · split
        · intro _; simp
        · intro h
          have := ih _ _ _ h
          simp only [List.length_cons]
          omega
theorem scan_err (f k a : Nat) (l : List UInt8) : (scan f k a l).2.2 = 0 ∨ ((scan f k a l).1 = 0 ∧ ((scan f k a l).2.2 = 10 ∨ (scan f k a l).2.2 = 12)) := by
  induction f generalizing k a l with
  | zero => simp [scan]
  | succ f ih =>
    cases l with
    | nil => simp [scan]
    | cons c t =>
      unfold scan
      split
      · simp
      · split
        · simp
        · exact ih _ _ _
theorem scan_lt (f k a : Nat) (l : List UInt8) (ha : a < 128 ^ k) (hk : k + f = 10) : (scan f k a l).1 < 18446744073709551616 := by
  induction f generalizing k a l with
  | zero => simp [scan]
  | succ f ih =>
    cases l with
    | nil => simp [scan]
    | cons c t =>
      have hlt : a + c.toNat % 128 * 128 ^ k < 128 ^ (k + 1) := by
        rw [Nat.pow_succ]
        have h1 : c.toNat % 128 * 128 ^ k ≤ 127 * 128 ^ k := Nat.mul_le_mul_right _ (by omega)
        omega
      unfold scan
      split
      · simp
      · rename_i hn
        split
        · by_cases h9 : k = 9
          · subst h9
            have : c.toNat ≤ 1 := by omega
            have h1 : c.toNat % 128 * 128 ^ 9 ≤ 1 * 128 ^ 9 := Nat.mul_le_mul_right _ (by omega)
            simp only
            omega
          · have : 128 ^ (k + 1) ≤ 128 ^ 9 := Nat.pow_le_pow_right (by decide) (by omega)
            simp only
            omega
        · exact ih _ _ _ hlt (by omega)
theorem varR_lt (l : List UInt8) : (varR l).1 < 18446744073709551616 := scan_lt 10 0 0 l (by decide) rfl
theorem digR_lt (bs : List UInt8) (p : Nat) (er : Int) : (digR bs p er).1 < 18446744073709551616 := by
  unfold digR; split
  · exact varR_lt _
  · show 0 < 18446744073709551616
    decide
theorem pow128_le {k : Nat} (h : k ≤ 9) : (128 : Nat) ^ k ≤ 9223372036854775808 := by
  have := Nat.pow_le_pow_right (show 0 < 128 by decide) h
  simpa using this
theorem u8_and127 (c : Int) (h0 : 0 ≤ c) (h1 : c ≤ 255) : bits .and .u8 c 127 = c % 128 := by
  rw [u8_and c 127 h0 (by omega) (by omega) (by omega)]
  have e : c.toNat &&& 127 = c.toNat % 2 ^ 7 := Nat.and_two_pow_sub_one_eq_mod c.toNat 7
  show ((c.toNat &&& 127 : Nat) : Int) = _
  rw [e]
  omega
theorem shl_or (m c : Int) (k : Nat) (h0 : 0 ≤ m) (hm : m.toNat < 128 ^ k) (hk : k ≤ 9) (hc0 : 0 ≤ c) (hc1 : c ≤ 255) (h9 : k = 9 → c ≤ 1) :
    bits .or .u64 m (IntKind.u64.wrap (IntKind.u64.wrap (bits .and .u8 c 127) * 2 ^ (7 * k))) = ((m.toNat + c.toNat % 128 * 128 ^ k : Nat) : Int) := by
  rw [u8_and127 c hc0 hc1, IntKind.wrap_u64, IntKind.wrap_u64]
  have e1 : c % 128 % 18446744073709551616 = ((c.toNat % 128 : Nat) : Int) := by omega
  have e2 : (128 : Nat) ^ k = 2 ^ (7 * k) := by rw [Nat.pow_mul]
  have hb : c.toNat % 128 * 2 ^ (7 * k) < 18446744073709551616 := by
    rw [← e2]
    by_cases h : k = 9
    · subst h
      have := h9 rfl
      have h1 : c.toNat % 128 * 128 ^ 9 ≤ 1 * 128 ^ 9 := Nat.mul_le_mul_right _ (by omega)
      omega
    · have h2 : (128 : Nat) ^ k ≤ 128 ^ 8 := Nat.pow_le_pow_right (by decide) (by omega)
      have h3 : c.toNat % 128 * 128 ^ k ≤ 127 * 128 ^ 8 := Nat.mul_le_mul (by omega) h2
      omega
  have hm64 : m.toNat < 18446744073709551616 := by have := pow128_le hk; omega
  rw [e1]
  have e3 : ((c.toNat % 128 : Nat) : Int) * 2 ^ (7 * k) = ((c.toNat % 128 * 2 ^ (7 * k) : Nat) : Int) := by push_cast; rfl
  rw [e3]
  have e4 : ((c.toNat % 128 * 2 ^ (7 * k) : Nat) : Int) % 18446744073709551616 = ((c.toNat % 128 * 2 ^ (7 * k) : Nat) : Int) := by omega
  rw [e4, u64_or m _ h0 (by omega) (by omega) (by omega), Int.toNat_natCast, Nat.or_comm, ← Nat.shiftLeft_eq, ← Nat.shiftLeft_add_eq_or_of_lt (by rw [← e2]; exact hm), Nat.shiftLeft_eq, ← e2, Nat.add_comm]
def DigPost (X : Option Int) (w : World) (g : Nat) (v : Value) (bs : List UInt8) (p : Nat) (er : Int) (e : Ending) (w' : World) : Prop :=
  ∃ q, e = .returned (.int .u64 (digR bs p er).1) ∧ Rd X w' g v bs q (digR bs p er).2.2 ∧ RFr g w w' ∧ ((digR bs p er).2.2 = 0 → q = p + (digR bs p er).2.1)
def DigRel (X : Option Int) (w : World) (g : Nat) (v : Value) (bs : List UInt8) (p k : Nat) (m : Int) (wr : World) : Prop :=
  Rd X wr g v bs (p + k) 0 ∧ RFr g w wr ∧ m.toNat < 128 ^ k ∧ scan (10 - k) k m.toNat (bs.drop (p + k)) = varR (bs.drop p)
theorem drop_byte {bs : List UInt8} {q : Nat} (h : q < bs.length) : bs.drop q = byteAt bs q 0 :: bs.drop (q + 1) := by
  rw [List.drop_eq_getElem_cons h]
  unfold byteAt
  rw [if_pos rfl, List.getD_eq_getElem?_getD, List.getElem?_eq_getElem h]
  rfl
theorem scan_bad {f k a : Nat} {c : UInt8} {t : List UInt8} (h : (k = 9 ∧ 1 < c.toNat) ∨ (0 < k ∧ c.toNat = 0)) : scan (f + 1) k a (c :: t) = (0, 0, 12) := by
  rw [scan, if_pos h]
theorem scan_last {f k a : Nat} {c : UInt8} {t : List UInt8} (h : ¬ ((k = 9 ∧ 1 < c.toNat) ∨ (0 < k ∧ c.toNat = 0))) (hc : c.toNat < 128) : scan (f + 1) k a (c :: t) = (a + c.toNat % 128 * 128 ^ k, k + 1, 0) := by
  rw [scan, if_neg h, if_pos hc]
theorem scan_more {f k a : Nat} {c : UInt8} {t : List UInt8} (h : ¬ ((k = 9 ∧ 1 < c.toNat) ∨ (0 < k ∧ c.toNat = 0))) (hc : ¬ c.toNat < 128) : scan (f + 1) k a (c :: t) = scan f (k + 1) (a + c.toNat % 128 * 128 ^ k) t := by
  rw [scan, if_neg h, if_neg hc]
theorem dig_fail {w wr w2 : World} {g : Nat} {v : Value} {bs : List UInt8} {p k : Nat} {m : Int} (h : DigRel X w g v bs p k m wr) (hk : k ≤ 9) (hlt : p + k < bs.length)
    (hb : (k = 9 ∧ 1 < ((byteAt bs (p + k) 0).toNat : Int)) ∨ (0 < k ∧ ((byteAt bs (p + k) 0).toNat : Int) = 0)) {q : Nat} (h2 : Rd X w2 g v bs q 12) (f2 : RFr g wr w2) :
    DigPost X w g v bs p 0 (.returned (.int .u64 0)) w2 := by
  obtain ⟨f, hf⟩ : ∃ f, 10 - k = f + 1 := ⟨9 - k, by omega⟩
  have hs := h.2.2.2
  rw [hf, drop_byte hlt, scan_bad (by omega)] at hs
  have e : digR bs p 0 = (0, 0, 12) := by unfold digR; rw [if_pos rfl]; exact hs.symm
  exact ⟨q, by rw [e]; rfl, by rw [e]; exact h2, h.2.1.trans f2, by rw [e]; intro h; simp at h⟩
theorem dig_end {w wr w2 : World} {g : Nat} {v : Value} {bs : List UInt8} {p k : Nat} {m : Int} (h : DigRel X w g v bs p k m wr) (hk : k ≤ 9) (hlt : ¬ p + k < bs.length) {q : Nat} (h2 : Rd X w2 g v bs q 10) (f2 : RFr g wr w2) :
    DigPost X w g v bs p 0 (.returned (.int .u64 0)) w2 := by
  obtain ⟨f, hf⟩ : ∃ f, 10 - k = f + 1 := ⟨9 - k, by omega⟩
  have hs := h.2.2.2
  rw [hf, List.drop_of_length_le (by omega)] at hs
  have e : digR bs p 0 = (0, 0, 10) := by unfold digR; rw [if_pos rfl]; exact hs.symm
  exact ⟨q, by rw [e]; rfl, by rw [e]; exact h2, h.2.1.trans f2, by rw [e]; intro h; simp at h⟩
theorem dig_last {w wr w2 : World} {g : Nat} {v : Value} {bs : List UInt8} {p k : Nat} {m : Int} (h : DigRel X w g v bs p k m wr) (hk : k ≤ 9) (hlt : p + k < bs.length)
    (hb : ¬ ((k = 9 ∧ 1 < ((byteAt bs (p + k) 0).toNat : Int)) ∨ (0 < k ∧ ((byteAt bs (p + k) 0).toNat : Int) = 0))) (hc : ((byteAt bs (p + k) 0).toNat : Int) < 128) {n : Int}
    (hn : n = ((m.toNat + (byteAt bs (p + k) 0).toNat % 128 * 128 ^ k : Nat) : Int)) (h2 : Rd X w2 g v bs (p + k + 1) 0) (f2 : RFr g wr w2) :
    DigPost X w g v bs p 0 (.returned (.int .u64 n)) w2 := by
  obtain ⟨f, hf⟩ : ∃ f, 10 - k = f + 1 := ⟨9 - k, by omega⟩
  have hs := h.2.2.2
  rw [hf, drop_byte hlt, scan_last (by omega) (by omega)] at hs
  have e : digR bs p 0 = (m.toNat + (byteAt bs (p + k) 0).toNat % 128 * 128 ^ k, k + 1, 0) := by unfold digR; rw [if_pos rfl]; exact hs.symm
  exact ⟨p + k + 1, by rw [e, hn], by rw [e]; exact h2, h.2.1.trans f2, by rw [e]; intro _; simp only; omega⟩
theorem dig_more {w wr w2 : World} {g : Nat} {v : Value} {bs : List UInt8} {p k : Nat} {m : Int} (h : DigRel X w g v bs p k m wr) (hk : k < 9) (hlt : p + k < bs.length)
    (hb : ¬ (0 < k ∧ ((byteAt bs (p + k) 0).toNat : Int) = 0)) (hc : 128 ≤ ((byteAt bs (p + k) 0).toNat : Int)) {n : Int}
    (hn : n = ((m.toNat + (byteAt bs (p + k) 0).toNat % 128 * 128 ^ k : Nat) : Int)) (h2 : Rd X w2 g v bs (p + k + 1) 0) (f2 : RFr g wr w2) :
    0 ≤ n ∧ n < 9223372036854775809 ∧ DigRel X w g v bs p (k + 1) n w2 := by
  obtain ⟨f, hf⟩ : ∃ f, 10 - k = f + 1 := ⟨9 - k, by omega⟩
  have hs := h.2.2.2
  rw [hf, drop_byte hlt, scan_more (by omega) (by omega)] at hs
  have hp : m.toNat + (byteAt bs (p + k) 0).toNat % 128 * 128 ^ k < 128 ^ (k + 1) := by
    have h1 : (byteAt bs (p + k) 0).toNat % 128 * 128 ^ k ≤ 127 * 128 ^ k := Nat.mul_le_mul_right _ (by omega)
    have := h.2.2.1
    rw [Nat.pow_succ]
    omega
  have hq := pow128_le (show k + 1 ≤ 9 by omega)
  subst hn
  refine ⟨by omega, by omega, h2, h.2.1.trans f2, by rw [Int.toNat_natCast]; exact hp, ?_⟩
  rw [Int.toNat_natCast, show 10 - (k + 1) = f by omega]
  exact hs
set_option maxHeartbeats 4000000 in
theorem Rdigits_ok (g : Nat) (v : Value) (bs : List UInt8) (p : Nat) (w : World) (h : Rd X w g v bs p 0) :
    Calls Tryz.prog 141 #[.pointer (some ⟨g, 0, none⟩)] w (DigPost X w g v bs p 0) := by
  have hst : DigRel X w g v bs p 0 0 w := ⟨h, RFr.refl _ _, by decide, rfl⟩
  go_enter Tryz.func141, Tryz.ntmps141
  go_wp2_with fail
  go_loopw [2, 3, 4, 5, 6, 7, 8] (fun _ n _ _ _ _ i wr => ∃ (k : Nat) (m : Int), k ≤ 9 ∧ i = .int .i64 k ∧ n = .int .u64 m ∧ 0 ≤ m ∧ m < 9223372036854775809 ∧ DigRel X w g v bs p k m wr) (fun _ _ _ _ _ _ i _ => 10 - (intOf i).toNat)
  case atStart => exact ⟨0, 0, by omega, rfl, rfl, by omega, by omega, hst⟩
  case round =>
    obtain ⟨k, m, hk, rfl, rfl, hm0, hm1, hr⟩ := hrel
    have hR := hr.1
    obtain ⟨c, hcb, hc0, hc1⟩ : ∃ c : Int, ((byteAt bs (p + k) 0).toNat : Int) = c ∧ 0 ≤ c ∧ c ≤ 255 := ⟨_, rfl, by omega, by have := (byteAt bs (p + k) 0).toNat_lt; omega⟩
    have HC := Lib.hid hcb
    by_cases hlt : p + k < bs.length
    · have HE : Hid (hasErr bs.length (p + k) 0 1 = 0) := Lib.hid (hasErr_ok (by omega))
      have HS : Hid (stepAt bs.length (p + k) 0 1 = p + k + 1) := Lib.hid (by unfold stepAt; rw [if_pos ⟨rfl, by omega⟩])
      by_cases hbad : (k = 9 ∧ 1 < c) ∨ (0 < k ∧ c = 0)
      · have hcase : ((((k : Int) == 9) = true ∧ 9 ≤ k) ∧ 1 < c ∧ (c == 0) = false) ∨ ((((k : Int) == 9) = true ∧ 9 ≤ k) ∧ ¬ 1 < c ∧ (c == 0) = true) ∨ (((k : Int) == 9) = false ∧ 0 < k ∧ ¬ 1 < c ∧ (c == 0) = true) := by
          by_cases h9 : k = 9
          · subst h9
            by_cases h1 : 1 < c
            · exact .inl ⟨⟨rfl, by omega⟩, h1, by simp; omega⟩
            · exact .inr (.inl ⟨⟨rfl, by omega⟩, h1, by simp; omega⟩)
          · exact .inr (.inr ⟨by simp; omega, by omega, by omega, by simp; omega⟩)
        have HB := Lib.hid hbad
        clear hbad hcb
        rcases hcase with ⟨⟨h1, h2⟩, h3, h4⟩ | ⟨⟨h1, h2⟩, h3, h4⟩ | ⟨h1, h2, h3, h4⟩
        all_goals
          go_wp2_with (first
            | (go_at_call 116; refine (RByte_any g v bs _ _ _ hR).mono ?_; rintro e w1 ⟨rfl, r1, f1⟩; rw [HC.out]; rw [HE.out, HS.out] at r1)
            | (go_at_call 86; refine (RErr_any g v bs _ _ _ r1).mono ?_; rintro e w' ⟨rfl, rfl⟩)
            | (go_at_call 96; refine (Rfail_any g v bs _ _ _ _ r1).mono ?_; rintro e w2 ⟨rfl, r2, f2⟩))
          go_ret
          exact dig_fail hr hk hlt (by rw [HC.out]; exact HB.out) r2 (f1.trans f2)
      · have HO : Hid (bits .or .u64 m (IntKind.u64.wrap (IntKind.u64.wrap (bits .and .u8 c 127) * 2 ^ (7 * k))) = ((m.toNat + (byteAt bs (p + k) 0).toNat % 128 * 128 ^ k : Nat) : Int)) :=
          Lib.hid (by have := shl_or m c k hm0 hr.2.2.1 hk hc0 hc1 (fun e => by omega); rw [this]; congr 3; omega)
        have HB := Lib.hid hbad
        by_cases hc : c < 128
        · have hcase : ((((k : Int) == 9) = true ∧ 9 ≤ k) ∧ ¬ 1 < c ∧ (c == 0) = false) ∨ (((k : Int) == 9) = false ∧ 0 < k ∧ (c == 0) = false) ∨ (((k : Int) == 9) = false ∧ ¬ 0 < k) := by
            by_cases h9 : k = 9
            · subst h9
              exact .inl ⟨⟨rfl, by omega⟩, by omega, by simp; omega⟩
            · by_cases h0 : 0 < k
              · exact .inr (.inl ⟨by simp; omega, h0, by simp; omega⟩)
              · exact .inr (.inr ⟨by simp; omega, h0⟩)
          clear hbad hcb
          rcases hcase with ⟨⟨h1, h2⟩, h3, h4⟩ | ⟨h1, h2, h4⟩ | ⟨h1, h2⟩
          all_goals
            go_wp2_with (first
              | (go_at_call 116; refine (RByte_any g v bs _ _ _ hR).mono ?_; rintro e w1 ⟨rfl, r1, f1⟩; rw [HC.out]; rw [HE.out, HS.out] at r1)
              | (go_at_call 86; refine (RErr_any g v bs _ _ _ r1).mono ?_; rintro e w' ⟨rfl, rfl⟩))
            go_ret
            exact dig_last hr hk hlt (by rw [HC.out]; exact HB.out) (by rw [HC.out]; exact hc) HO.out r1 f1
        · have hcase : (((k : Int) == 9) = false ∧ 0 < k ∧ (c == 0) = false) ∨ (((k : Int) == 9) = false ∧ ¬ 0 < k) := by
            by_cases h0 : 0 < k
            · exact .inl ⟨by simp; omega, h0, by simp; omega⟩
            · exact .inr ⟨by simp; omega, h0⟩
          have hk9 : k < 9 := by omega
          have HB2 : Hid (¬ (0 < k ∧ c = 0)) := Lib.hid (by omega)
          clear hbad hcb
          rcases hcase with ⟨h1, h2, h4⟩ | ⟨h1, h2⟩
          all_goals
            go_wp2_with (first
              | (go_at_call 116; refine (RByte_any g v bs _ _ _ hR).mono ?_; rintro e w1 ⟨rfl, r1, f1⟩; rw [HC.out]; rw [HE.out, HS.out] at r1)
              | (go_at_call 86; refine (RErr_any g v bs _ _ _ r1).mono ?_; rintro e w' ⟨rfl, rfl⟩))
            have hmore := dig_more hr hk9 hlt (by rw [HC.out]; exact HB2.out) (by rw [HC.out]; omega) HO.out r1 f1
            go_roundw
            case rel => exact ⟨k + 1, _, by omega, by go_num, rfl, hmore.1, hmore.2.1, hmore.2.2⟩
            case measure => simp [intOf]; omega
    · have HE : Hid (hasErr bs.length (p + k) 0 1 = 10) := Lib.hid (hasErr_end (by omega))
      clear hcb
      go_wp2_with (first
        | (go_at_call 116; refine (RByte_any g v bs _ _ _ hR).mono ?_; rintro e w1 ⟨rfl, r1, f1⟩; rw [HC.out]; rw [HE.out] at r1)
        | (go_at_call 86; refine (RErr_any g v bs _ _ _ r1).mono ?_; rintro e w' ⟨rfl, rfl⟩))
      go_ret
      exact dig_end hr hk hlt r1 f1
end Go.Proofs.YtkaeoflgnnlbeaaGreatDoor
/- What is proved: the Reader's Var and Text. Conditions: a reader that the caller holds, or a nil one. -/
namespace Go.Proofs.YtkaeoflgnnlbeaaGreatDoor
open Go.RowKit
set_option linter.unusedVariables false
variable {X : Option Int}
set_option maxHeartbeats 1600000 in
theorem Rdigits_err (g : Nat) (v : Value) (bs : List UInt8) (p : Nat) (er : Int) (w : World) (h : Rd X w g v bs p er) (he : er ≠ 0) :
    Calls Tryz.prog 141 #[.pointer (some ⟨g, 0, none⟩)] w (DigPost X w g v bs p er) := by
  have hne : (er != 0) = true := by simpa using he
  have HE : Hid (hasErr bs.length p er 1 = er) := Lib.hid (hasErr_err he)
  have HS : Hid (stepAt bs.length p er 1 = p) := Lib.hid (by unfold stepAt; rw [if_neg (fun e => he e.1)])
  have HD : Hid (digR bs p er = (0, 0, er)) := Lib.hid (by unfold digR; rw [if_neg he])
  have hnz := Lib.hid he
  clear he
  go_enter Tryz.func141, Tryz.ntmps141
  go_wp2_with fail
  go_loopw [2, 3, 4, 5, 6, 7, 8] (fun _ n _ _ _ _ i wr => i = .int .i64 0 ∧ n = .int .u64 0 ∧ w = wr) (fun _ _ _ _ _ _ i _ => 10 - (intOf i).toNat)
  case atStart => exact ⟨rfl, rfl, rfl⟩
  case round =>
    obtain ⟨rfl, rfl, rfl⟩ := hrel
    go_wp2_with (first
      | (go_at_call 116; refine (RByte_any g v bs _ _ _ h).mono ?_; rintro e w1 ⟨rfl, r1, f1⟩; rw [HE.out, HS.out] at r1)
      | (go_at_call 86; refine (RErr_any g v bs _ _ _ r1).mono ?_; rintro e w' ⟨rfl, rfl⟩))
    go_ret
    exact ⟨p, by rw [HD.out]; rfl, by rw [HD.out]; exact r1, f1, by rw [HD.out]; intro e; exact absurd e hnz.out⟩
theorem Rdigits_any (g : Nat) (v : Value) (bs : List UInt8) (p : Nat) (er : Int) (w : World) (h : Rd X w g v bs p er) :
    Calls Tryz.prog 141 #[.pointer (some ⟨g, 0, none⟩)] w (DigPost X w g v bs p er) := by
  by_cases he : er = 0
  · subst he; exact Rdigits_ok g v bs p w h
  · exact Rdigits_err g v bs p er w h he
/-- What Var tells: the value, the place, the error. -/
def varO (bs : List UInt8) (p : Nat) (er : Int) (most : Int) : Nat × Nat × Int :=
  if (digR bs p er).2.2 ≠ 0 then (0, p, (digR bs p er).2.2) else if most < (digR bs p er).1 then (0, p, 3) else ((digR bs p er).1, p + (digR bs p er).2.1, 0)
theorem digR_zero {bs : List UInt8} {p : Nat} {er : Int} (h : (digR bs p er).2.2 ≠ 0) : (digR bs p er).1 = 0 := by
  unfold digR at h ⊢
  split
  · rename_i he
    rw [if_pos he] at h
    rcases scan_err 10 0 0 (bs.drop p) with h1 | h1
    · exact absurd h1 h
    · exact h1.1
  · rfl
def VarPost (X : Option Int) (w : World) (g : Nat) (v : Value) (bs : List UInt8) (o : Nat × Nat × Int) (e : Ending) (w' : World) : Prop := e = .returned (.int .u64 o.1) ∧ Rd X w' g v bs o.2.1 o.2.2 ∧ RFr g w w'
set_option maxHeartbeats 1600000 in
theorem RVar_any (g : Nat) (v : Value) (bs : List UInt8) (p : Nat) (er most : Int) (w : World) (h : Rd X w g v bs p er) (hm0 : 0 ≤ most) (hm1 : most < 18446744073709551616) :
    Calls Tryz.prog 117 #[.pointer (some ⟨g, 0, none⟩), .int .u64 most] w (VarPost X w g v bs (varO bs p er most)) := by
  obtain ⟨D, hD⟩ : ∃ D, (digR bs p er).1 = D := ⟨_, rfl⟩
  obtain ⟨d, hd, hd0⟩ : ∃ d : Int, (D : Int) = d ∧ 0 ≤ d := ⟨_, rfl, by omega⟩
  have HD := Lib.hid hD
  have Hd := Lib.hid hd
  clear hD hd
  by_cases hbig : most < d
  · go_enter_defers Tryz.func117, Tryz.ntmps117
    go_wp2_with (first
      | (go_at_call 87; refine (RAt_any g v bs p _ _ h).mono ?_; rintro e w1 ⟨rfl, rfl⟩)
      | (go_at_call 141; refine (Rdigits_any g v bs p _ _ h).mono ?_; rintro e w1 ⟨q, rfl, r1, f1, hq⟩; rw [HD.out, Hd.out]; have HQ := Lib.hid hq; clear hq)
      | (go_at_call 96; refine (Rfail_any g v bs _ _ _ _ r1).mono ?_; rintro e w2 ⟨rfl, r2, f2⟩))
    refine leaves_cons (f := 95) (args := #[.pointer (some ⟨g, 0, none⟩), .int .i64 p]) (by simp) (by simp [go_sem]) ?_
    refine (Rlook_any g v bs _ p _ .returning _ r2 h.le).mono ?_
    rintro e u' w'' ⟨rfl, rfl, h4, f4⟩
    have hO : varO bs p er most = (0, backAt (failErr (digR bs p er).2.2 3) q p, failErr (digR bs p er).2.2 3) := by
      have e0 : (digR bs p er).2.2 = 0 := by
        refine Classical.byContradiction fun hn => ?_
        have h1 := digR_zero hn
        have h2 := HD.out
        have h3 := Hd.out
        omega
      unfold varO
      rw [if_neg (by simpa using e0), if_pos (by rw [HD.out, Hd.out]; exact hbig), e0]
      rfl
    refine ⟨_, results_tmp rfl _ _ _, ?_⟩
    rw [hO]
    exact ⟨rfl, h4, (f1.trans f2).trans f4⟩
  · go_enter_defers Tryz.func117, Tryz.ntmps117
    go_wp2_with (first
      | (go_at_call 87; refine (RAt_any g v bs p _ _ h).mono ?_; rintro e w1 ⟨rfl, rfl⟩)
      | (go_at_call 141; refine (Rdigits_any g v bs p _ _ h).mono ?_; rintro e w1 ⟨q, rfl, r1, f1, hq⟩; rw [HD.out, Hd.out]; have HQ := Lib.hid hq; clear hq))
    refine leaves_cons (f := 95) (args := #[.pointer (some ⟨g, 0, none⟩), .int .i64 p]) (by simp) (by simp [go_sem]) ?_
    refine (Rlook_any g v bs _ p _ .returning _ r1 h.le).mono ?_
    rintro e u' w'' ⟨rfl, rfl, h4, f4⟩
    have hO : varO bs p er most = (D, backAt (digR bs p er).2.2 q p, (digR bs p er).2.2) := by
      unfold varO backAt
      by_cases e0 : (digR bs p er).2.2 = 0
      · rw [if_neg (by simpa using e0), if_neg (by rw [HD.out, Hd.out]; omega), if_pos e0, HQ.out e0, HD.out, e0]
      · have hz := digR_zero e0
        rw [HD.out] at hz
        rw [if_pos e0, if_neg e0, hz]
    refine ⟨_, results_tmp rfl _ _ _, ?_⟩
    rw [hO]
    refine ⟨?_, h4, f1.trans f4⟩
    rw [Hd.out]
    rfl
theorem varO_lt (bs : List UInt8) (p : Nat) (er most : Int) : (varO bs p er most).1 < 18446744073709551616 := by
  have := digR_lt bs p er
  unfold varO
  split
  · show 0 < 18446744073709551616
    decide
  · split
    · show 0 < 18446744073709551616
      decide
    · exact this
end Go.Proofs.YtkaeoflgnnlbeaaGreatDoor

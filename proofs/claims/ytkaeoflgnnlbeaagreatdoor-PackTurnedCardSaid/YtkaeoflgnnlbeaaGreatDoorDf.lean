/- What is proved: what the walks of this seat need of layers below, merged out of the texts Qre Qrf (of each just what is needed). Conditions: each theorem names its own. -/
import Derived.Deep.RegionLaw
import Derived.Test.YtkaeoflgnnlbeaaGreatDoorDd
set_option maxRecDepth 100000
/- What is proved: what the document's own reader (the law's side) tells and does: End, number, Var, Text, Raw, Big. Conditions: a reader that the caller holds, over a slice of bytes of at most 2^47. -/
namespace Go.Proofs.YtkaeoflgnnlbeaaGreatDoor
open Go.RowKit
set_option linter.unusedVariables false
/-- The document's reader at block h over the bytes bs at A, at place p, with error er. -/
structure Qd (w : World) (h : Nat) (A : Option Addr) (cap : Nat) (bs : List UInt8) (p : Nat) (er : Int) : Prop where
  whole : Whole w h 137 #[.slice A bs.length cap, .int .i64 p, .int .i64 er]
  lies : Lies w A (bytesV bs)
  le : p ≤ bs.length
  small : bs.length ≤ 140737488355328
  room : bs.length ≤ cap
  ne : ∀ ad, A = some ad → bs ≠ [] → ad.block ≠ h
def QPost (w : World) (h : Nat) (A : Option Addr) (cap : Nat) (bs : List UInt8) (x : Value) (p : Nat) (er : Int) (e : Ending) (w' : World) : Prop := e = .returned x ∧ Qd w' h A cap bs p er ∧ RFr h w w'
section
variable {w w' : World} {h : Nat} {A : Option Addr} {cap : Nat} {bs : List UInt8} {p q : Nat} {er : Int}
theorem Qd.c0 (k : Qd w h A cap bs p er) : w.cell? ⟨h, 0, none⟩ = some (.slice A bs.length cap) := by simpa using k.whole.cell 0
theorem Qd.c1 (k : Qd w h A cap bs p er) : w.cell? ⟨h, 1, none⟩ = some (.int .i64 p) := by simpa using k.whole.cell 1
theorem Qd.c2 (k : Qd w h A cap bs p er) : w.cell? ⟨h, 2, none⟩ = some (.int .i64 er) := by simpa using k.whole.cell 2
theorem Qd.drewN (k : Qd w h A cap bs p er) (n : Nat) : Qd (w.drewN n) h A cap bs p er := ⟨k.whole, k.lies, k.le, k.small, k.room, k.ne⟩
theorem lies_fr {S : Nat → Prop} (hl : Lies w A (bytesV bs)) (f : Fr S w w') (hn : ∀ ad, A = some ad → bs ≠ [] → ¬ S ad.block) : Lies w' A (bytesV bs) := by
  by_cases hb : bs = []
  · exact .inl (by rw [hb]; rfl)
  · exact hl.fr f (fun ad e => hn ad e hb)
theorem Qd.fr {S : Nat → Prop} (k : Qd w h A cap bs p er) (f : Fr S w w') (h1 : ¬ S h) (h2 : ∀ ad, A = some ad → bs ≠ [] → ¬ S ad.block) : Qd w' h A cap bs p er :=
  ⟨k.whole.fr f h1, lies_fr k.lies f h2, k.le, k.small, k.room, k.ne⟩
theorem Qd.below (k : Qd w h A cap bs p er) (f : Below w.heap.size w w') : Qd w' h A cap bs p er := k.fr (Fr.of_below (S := fun _ => False) f) (fun e => e) (fun _ _ _ e => e)
theorem Qd.setAt (k : Qd w h A cap bs p er) (hq : q ≤ bs.length) : Qd (w.setCell ⟨h, 1, none⟩ (.int .i64 q)) h A cap bs q er :=
  ⟨by simpa using k.whole.set 1 (.int .i64 q), lies_fr k.lies ((Fr.refl (fun j => j = h) w).setCell (p := ⟨h, 1, none⟩) (fun _ => rfl) _) (fun ad e hb e2 => k.ne ad e hb e2), hq, k.small, k.room, k.ne⟩
theorem Qd.setErr (k : Qd w h A cap bs p er) (f : Int) : Qd (w.setCell ⟨h, 2, none⟩ (.int .i64 f)) h A cap bs p f :=
  ⟨by simpa using k.whole.set 2 (.int .i64 f), lies_fr k.lies ((Fr.refl (fun j => j = h) w).setCell (p := ⟨h, 2, none⟩) (fun _ => rfl) _) (fun ad e hb e2 => k.ne ad e hb e2), k.le, k.small, k.room, k.ne⟩
end
def NumRel (bs : List UInt8) (p k : Nat) (m sc : Int) : Prop := m.toNat < 128 ^ k ∧ sc = ((128 ^ k : Nat) : Int) ∧ scan (10 - k) k m.toNat (bs.drop (p + k)) = varR (bs.drop p)
def NumPost (w : World) (bs : List UInt8) (p : Nat) (e : Ending) (w' : World) : Prop :=
  e = .returned (.tuple #[.int .u64 (varR (bs.drop p)).1, .int .i64 (varR (bs.drop p)).2.1, .int .i64 (varR (bs.drop p)).2.2]) ∧ ∃ n, w' = w.drewN n
theorem num_split {bs : List UInt8} {p k : Nat} {m sc : Int} (h : NumRel bs p k m sc) (hk : k ≤ 9) (hlt : p + k < bs.length) :
    ∃ f, 9 - k = f ∧ scan (f + 1) k m.toNat (byteAt bs (p + k) 0 :: bs.drop (p + k + 1)) = varR (bs.drop p) := by
  have hs := h.2.2
  rw [show 10 - k = (9 - k) + 1 by omega, drop_byte hlt] at hs
  exact ⟨_, rfl, hs⟩
theorem num_bad {bs : List UInt8} {p k : Nat} {m sc c : Int} (h : NumRel bs p k m sc) (hk : k ≤ 9) (hlt : p + k < bs.length) (hc : ((byteAt bs (p + k) 0).toNat : Int) = c) (hb : (k = 9 ∧ 1 < c) ∨ (0 < k ∧ c = 0)) : varR (bs.drop p) = (0, 0, 12) := by
  obtain ⟨f, _, hs⟩ := num_split h hk hlt
  rw [scan_bad (by omega)] at hs
  exact hs.symm
theorem num_end {bs : List UInt8} {p k : Nat} {m sc : Int} (h : NumRel bs p k m sc) (hk : k ≤ 9) (hlt : ¬ p + k < bs.length) : varR (bs.drop p) = (0, 0, 10) := by
  have hs := h.2.2
  rw [show 10 - k = (9 - k) + 1 by omega, List.drop_of_length_le (by omega)] at hs
  exact hs.symm
theorem num_val {k : Nat} {m sc c : Int} (hm0 : 0 ≤ m) (hm : m.toNat < 128 ^ k) (hsc : sc = ((128 ^ k : Nat) : Int)) (hk : k ≤ 9) (hc0 : 0 ≤ c) (hc1 : c ≤ 255) (h9 : k = 9 → c ≤ 1) :
    IntKind.u64.wrap (m + IntKind.u64.wrap (c % 128 * sc)) = ((m.toNat + c.toNat % 128 * 128 ^ k : Nat) : Int) ∧ m.toNat + c.toNat % 128 * 128 ^ k < 18446744073709551616 := by
  have hb : c.toNat % 128 * 128 ^ k ≤ 9223372036854775808 := by
    by_cases h : k = 9
    · subst h
      have := h9 rfl
      have h1 : c.toNat % 128 * 128 ^ 9 ≤ 1 * 128 ^ 9 := Nat.mul_le_mul_right _ (by omega)
      omega
    · have h2 : (128 : Nat) ^ k ≤ 128 ^ 8 := Nat.pow_le_pow_right (by decide) (by omega)
      have h3 : c.toNat % 128 * 128 ^ k ≤ 127 * 128 ^ 8 := Nat.mul_le_mul (by omega) h2
      omega
  have hmb := pow128_le hk
  have e1 : c % 128 * sc = ((c.toNat % 128 * 128 ^ k : Nat) : Int) := by
    rw [hsc, Int.natCast_mul]
    congr 1
    omega
  rw [e1, IntKind.wrap_u64, IntKind.wrap_u64]
  omega
theorem num_last {bs : List UInt8} {p k : Nat} {m sc c : Int} (h : NumRel bs p k m sc) (hk : k ≤ 9) (hlt : p + k < bs.length) (hc : ((byteAt bs (p + k) 0).toNat : Int) = c) (hb : ¬ ((k = 9 ∧ 1 < c) ∨ (0 < k ∧ c = 0))) (hcs : c < 128) :
    varR (bs.drop p) = (m.toNat + c.toNat % 128 * 128 ^ k, k + 1, 0) := by
  obtain ⟨f, _, hs⟩ := num_split h hk hlt
  rw [scan_last (by omega) (by omega)] at hs
  rw [← hs, show (byteAt bs (p + k) 0).toNat = c.toNat by omega]
theorem num_more {bs : List UInt8} {p k : Nat} {m sc c : Int} (h : NumRel bs p k m sc) (hk : k < 9) (hlt : p + k < bs.length) (hc : ((byteAt bs (p + k) 0).toNat : Int) = c) (hb : ¬ (0 < k ∧ c = 0)) (hcs : ¬ c < 128) :
    NumRel bs p (k + 1) ((m.toNat + c.toNat % 128 * 128 ^ k : Nat) : Int) (sc * 128) ∧ ((m.toNat + c.toNat % 128 * 128 ^ k : Nat) : Int) < 9223372036854775809 ∧ sc * 128 < 9223372036854775809 := by
  obtain ⟨f, hf, hs⟩ := num_split h (by omega) hlt
  rw [scan_more (by omega) (by omega), show (byteAt bs (p + k) 0).toNat = c.toNat by omega] at hs
  have hp : m.toNat + c.toNat % 128 * 128 ^ k < 128 ^ (k + 1) := by
    have h1 : c.toNat % 128 * 128 ^ k ≤ 127 * 128 ^ k := Nat.mul_le_mul_right _ (by omega)
    have := h.1
    rw [Nat.pow_succ]
    omega
  have hq := pow128_le (show k + 1 ≤ 9 by omega)
  have hsc : sc * 128 = ((128 ^ (k + 1) : Nat) : Int) := by rw [h.2.1, Nat.pow_succ]; omega
  refine ⟨⟨by rw [Int.toNat_natCast]; exact hp, hsc, ?_⟩, by omega, by omega⟩
  rw [Int.toNat_natCast, show 10 - (k + 1) = f by omega]
  exact hs
set_option maxHeartbeats 4000000 in
set_option maxRecDepth 100000 in
theorem qnumber_any (h : Nat) (A : Option Addr) (cap : Nat) (bs : List UInt8) (p : Nat) (er : Int) (w : World) (q : Qd w h A cap bs p er) :
    Calls Tryz.prog 93 #[.pointer (some ⟨h, 0, none⟩)] w (NumPost w bs p) := by
  have c0 := q.c0
  have c1 := q.c1
  have hsm := q.small
  have hroom := q.room
  have hple := q.le
  have HQ := Lib.hid q
  clear q
  go_enter Tryz.func93, Tryz.ntmps93
  go_wp2_with fail
  go_loopw [2, 3, 4, 5, 6, 7, 8] (fun _ _ _ n s i _ wr => ∃ (k : Nat) (m sc : Int), k ≤ 9 ∧ i = .int .i64 k ∧ n = .int .u64 m ∧ s = .int .u64 sc ∧ 0 ≤ m ∧ m < 9223372036854775809 ∧ 0 ≤ sc ∧ sc < 9223372036854775809 ∧ NumRel bs p k m sc ∧ ∃ j, wr = w.drewN j) (fun _ _ _ _ _ i _ _ => 10 - (intOf i).toNat)
  case atStart => exact ⟨0, 0, 1, by omega, rfl, rfl, rfl, by omega, by omega, by omega, by omega, ⟨by decide, rfl, rfl⟩, 0, rfl⟩
  case round =>
    obtain ⟨k, m, sc, hk, rfl, rfl, rfl, hm0, hm1, hs0, hs1, hrel, j, rfl⟩ := hrel
    have HR := Lib.hid hrel
    clear hrel
    have hk0 : (0 : Int) ≤ (p : Int) + k := by omega
    have hpn : ((p : Int) + k).toNat = p + k := by omega
    have hpw : IntKind.i64.wrap ((p : Int) + k) = (p : Int) + k := IntWalk.i64_in _ (by omega)
    by_cases hlt : p + k < bs.length
    · have hlt1 : (p : Int) + k < bs.length := by omega
      have hlt2 : ¬ (bs.length : Int) ≤ (p : Int) + k := by omega
      obtain ⟨b, o, hA⟩ := lies_at HQ.out.lies (by rintro rfl; simp at hlt)
      subst hA
      have hcell := lies_byte HQ.out.lies hlt
      obtain ⟨c, hcb, hc0, hc1⟩ : ∃ c : Int, ((byteAt bs (p + k) 0).toNat : Int) = c ∧ 0 ≤ c ∧ c ≤ 255 := ⟨_, rfl, by omega, by have := (byteAt bs (p + k) 0).toNat_lt; omega⟩
      have hgd : (bs.getD (p + k) 0) = byteAt bs (p + k) 0 := by unfold byteAt; rw [if_pos rfl]
      rw [hgd, hcb] at hcell
      have HC := Lib.hid hcb
      clear hcb hgd
      have W1 : Hid (IntKind.u64.wrap (m + IntKind.u64.wrap (c % 128 * sc)) = ((m.toNat + c.toNat % 128 * 128 ^ k : Nat) : Int) ∨ (k = 9 ∧ 1 < c)) := by
        by_cases h : k = 9 ∧ 1 < c
        · exact Lib.hid (.inr h)
        · exact Lib.hid (.inl (num_val hm0 HR.out.1 HR.out.2.1 hk hc0 hc1 (fun e => by omega)).1)
      by_cases hbad : (k = 9 ∧ 1 < c) ∨ (0 < k ∧ c = 0)
      · have hV := num_bad HR.out hk hlt HC.out hbad
        have HV := Lib.hid hV
        have hcase : ((((k : Int) == 9) = true ∧ 9 ≤ k) ∧ 1 < c ∧ (c == 0) = false) ∨ ((((k : Int) == 9) = true ∧ 9 ≤ k) ∧ ¬ 1 < c ∧ (c == 0) = true) ∨ (((k : Int) == 9) = false ∧ 0 < k ∧ ¬ 1 < c ∧ (c == 0) = true) := by
          by_cases h9 : k = 9
          · subst h9
            by_cases h1 : 1 < c
            · exact .inl ⟨⟨rfl, by omega⟩, h1, by simp; omega⟩
            · exact .inr (.inl ⟨⟨rfl, by omega⟩, h1, by simp; omega⟩)
          · exact .inr (.inr ⟨by simp; omega, by omega, by omega, by simp; omega⟩)
        clear hbad hV
        rcases hcase with ⟨⟨h1, h2⟩, h3, h4⟩ | ⟨⟨h1, h2⟩, h3, h4⟩ | ⟨h1, h2, h3, h4⟩
        all_goals
          go_wp2_with fail
          go_quiet (fail)
          go_wp2_with fail
          go_quiet (fail)
          go_wp2_with fail
          go_ret3
          exact ⟨by rw [HV.out]; rfl, _, rfl⟩
      · by_cases hc : c < 128
        · have hV := num_last HR.out hk hlt HC.out hbad hc
          have HV := Lib.hid hV
          have HW : Hid (IntKind.u64.wrap (m + IntKind.u64.wrap (c % 128 * sc)) = ((m.toNat + c.toNat % 128 * 128 ^ k : Nat) : Int)) := Lib.hid (W1.out.resolve_right (fun e => hbad (.inl e)))
          have hcase : ((((k : Int) == 9) = true ∧ 9 ≤ k) ∧ ¬ 1 < c ∧ (c == 0) = false) ∨ (((k : Int) == 9) = false ∧ 0 < k ∧ (c == 0) = false) ∨ (((k : Int) == 9) = false ∧ ¬ 0 < k) := by
            by_cases h9 : k = 9
            · subst h9
              exact .inl ⟨⟨rfl, by omega⟩, by omega, by simp; omega⟩
            · by_cases h0 : 0 < k
              · exact .inr (.inl ⟨by simp; omega, h0, by simp; omega⟩)
              · exact .inr (.inr ⟨by simp; omega, h0⟩)
          clear hbad hV
          rcases hcase with ⟨⟨h1, h2⟩, h3, h4⟩ | ⟨h1, h2, h4⟩ | ⟨h1, h2⟩
          all_goals
            go_wp2_with fail
            go_quiet (fail)
            go_wp2_with fail
            go_quiet (fail)
            go_wp2_with fail
            go_ret3
            refine ⟨?_, _, rfl⟩
            rw [HV.out]
            simp only
            rw [← HW.out]
            rfl
        · have HB2 : Hid (¬ (0 < k ∧ c = 0)) := Lib.hid (by omega)
          have HW : Hid (IntKind.u64.wrap (m + IntKind.u64.wrap (c % 128 * sc)) = ((m.toNat + c.toNat % 128 * 128 ^ k : Nat) : Int)) := Lib.hid (W1.out.resolve_right (fun e => hbad (.inl e)))
          have hk9 : k < 9 := by omega
          have hM := num_more HR.out hk9 hlt HC.out HB2.out hc
          have HM := Lib.hid hM.1
          have hs2 : sc ≤ 72057594037927936 := by have := hM.2.2; omega
          have HM2 := Lib.hid hM.2.2
          have hcase : (((k : Int) == 9) = false ∧ 0 < k ∧ (c == 0) = false) ∨ (((k : Int) == 9) = false ∧ ¬ 0 < k) := by
            by_cases h0 : 0 < k
            · exact .inl ⟨by simp; omega, h0, by simp; omega⟩
            · exact .inr ⟨by simp; omega, h0⟩
          have HS2 := Lib.hid hs2
          have HK9 := Lib.hid hk9
          clear hbad hM hs2 hk9
          rcases hcase with ⟨h1, h2, h4⟩ | ⟨h1, h2⟩
          all_goals
            go_wp2_with fail
            go_quiet (fail)
            go_wp2_with fail
            go_quiet (fail)
            have hs2 := HS2.out
            have hk9 := HK9.out
            go_wp2_with fail
            go_roundw
            case rel => exact ⟨k + 1, ((m.toNat + c.toNat % 128 * 128 ^ k : Nat) : Int), sc * 128, by omega, by go_num, by rw [HW.out], rfl, by omega, (by have h1 := HM.out.1; have h2 := pow128_le (show k + 1 ≤ 9 by omega); rw [Int.toNat_natCast] at h1; omega), by omega, HM2.out, HM.out, _, rfl⟩
            case measure => simp [intOf]; omega
    · have hV := num_end HR.out hk hlt
      have HV := Lib.hid hV
      have hge : (bs.length : Int) ≤ (p : Int) + k := by omega
      clear hV
      go_wp2_with fail
      go_quiet (fail)
      go_wp2_with fail
      go_ret3
      exact ⟨by rw [HV.out]; rfl, _, World.drewN_drewN _ _ _⟩
end Go.Proofs.YtkaeoflgnnlbeaaGreatDoor
/- What is proved: the document's own reader (the law's side): Var, Text, Raw and Big. Conditions: a reader that the caller holds, over a slice of bytes of at most 2^47. -/
namespace Go.Proofs.YtkaeoflgnnlbeaaGreatDoor
open Go.RowKit
set_option linter.unusedVariables false
theorem varR_zero {l : List UInt8} (h : (varR l).2.2 ≠ 0) : (varR l).1 = 0 := by
  rcases scan_err 10 0 0 l with h1 | h1
  · exact absurd h1 h
  · exact h1.1
set_option maxHeartbeats 1600000 in
theorem qVar_any (h : Nat) (A : Option Addr) (cap : Nat) (bs : List UInt8) (p : Nat) (er most : Int) (w : World) (k : Qd w h A cap bs p er) (hm0 : 0 ≤ most) (hm1 : most < 18446744073709551616) :
    Calls Tryz.prog 61 #[.pointer (some ⟨h, 0, none⟩), .int .u64 most] w (QPost w h A cap bs (.int .u64 (varO bs p er most).1) (varO bs p er most).2.1 (varO bs p er most).2.2) := by
  have c0 := k.c0
  have c1 := k.c1
  have c2 := k.c2
  have f1 := k.whole.frozen 1
  have f2 := k.whole.frozen 2
  have hsm := k.small
  have HK := Lib.hid k
  by_cases he : er = 0
  · subst he
    have hnum := qnumber_any h A cap bs p 0 w k
    have hd : digR bs p 0 = varR (bs.drop p) := by unfold digR; rw [if_pos rfl]
    have hsz := scan_size 10 0 0 (bs.drop p)
    have hlt := varR_lt (bs.drop p)
    have hz := varR_zero (l := bs.drop p)
    change (varR (bs.drop p)).2.2 = 0 → 0 + 1 ≤ (varR (bs.drop p)).2.1 ∧ (varR (bs.drop p)).2.1 ≤ 0 + (bs.drop p).length ∧ (varR (bs.drop p)).2.1 ≤ 0 + 10 at hsz
    unfold varO
    rw [hd]
    unfold NumPost at hnum
    obtain ⟨R, hR⟩ : ∃ R, varR (bs.drop p) = R := ⟨_, rfl⟩
    rw [hR] at hnum hsz hlt hz ⊢
    obtain ⟨V, S, E⟩ := R
    simp only at hnum hsz hlt hz ⊢
    obtain ⟨vv, hvv, hv0, hv1⟩ : ∃ vv : Int, (V : Int) = vv ∧ 0 ≤ vv ∧ vv < 18446744073709551616 := ⟨_, rfl, by omega, by omega⟩
    have HVV := Lib.hid hvv
    rw [hvv] at hnum
    have HN := Lib.hid hnum
    rw [List.length_drop] at hsz
    clear k hnum hR hd hlt
    by_cases hE : E = 0
    · subst hE
      have hsz' := hsz rfl
      have hple := HK.out.le
      by_cases hbig : most < vv
      · rw [if_neg (by simp), if_pos (by omega)]
        clear hvv hz hsz
        go_enter Tryz.func61, Tryz.ntmps61
        go_wp2_with (go_at_call 93; refine HN.out.mono ?_; rintro e w1 ⟨rfl, n, rfl⟩)
        go_ret
        exact ⟨rfl, (HK.out.drewN _).setErr 3, ((RFr.refl h w).drewN _).set 2 _⟩
      · rw [if_neg (by simp), if_neg (by omega)]
        have hSw : (p : Int) + S ≤ 140737488355328 := by omega
        clear hz hsz
        clear hvv
        go_enter Tryz.func61, Tryz.ntmps61
        go_wp2_with (go_at_call 93; refine HN.out.mono ?_; rintro e w1 ⟨rfl, n, rfl⟩)
        go_ret
        rw [HVV.out]
        exact ⟨rfl, (HK.out.drewN _).setAt (q := p + S) (by omega), ((RFr.refl h w).drewN _).set 1 _⟩
    · rw [if_pos hE]
      have b1 : (E == 0) = false := by simpa using hE
      have b2 : (E != 0) = true := by simpa using hE
      clear hvv hz hsz
      go_enter Tryz.func61, Tryz.ntmps61
      go_wp2_with (go_at_call 93; refine HN.out.mono ?_; rintro e w1 ⟨rfl, n, rfl⟩)
      go_ret
      exact ⟨rfl, (HK.out.drewN _).setErr E, ((RFr.refl h w).drewN _).set 2 _⟩
  · have hd : varO bs p er most = (0, p, er) := by unfold varO digR; rw [if_neg he, if_pos he]
    rw [hd]
    have b2 : (er != 0) = true := by simpa using he
    go_enter Tryz.func61, Tryz.ntmps61
    go_wp2_with fail
    go_ret
    exact ⟨rfl, HK.out, RFr.refl _ _⟩
section
variable {P : Program} (w : World)
theorem step_append_row {ops : Array Oper} {o : Oper} {a : Act} {K : Act → World → Prop} {Q : Exit → Act → World → Prop} {E : Prop} (hgd : o.guard = none) (s x : Operand) (t tx : TypeId)
    (ho : o.op = .call { callee := .builtin .append, args := #[s, x], argTypes := #[t, tx] })
    (base : Nat) (e : TypeId) (i : TypeInfo) (z : Value) (size bytes : Nat) (ht : P.underlying t = some (.slice e)) (hi : P.info? e = some i) (hz : i.zero = some z)
    (hsize : i.size = size) (hby : i.bytes = bytes) (hzs : z.cells.size = size)
    (v : Value) (n : Nat) (xs : List Value) (hs : a.eval s = v) (hown : w.ownsRow base e size v n xs)
    (y : Value) (m : Nat) (news : List Value) (hx : a.eval x = y) (hsrc : Src P size tx y m news w)
    (h63 : n + m ≤ maxLen) (hbytes : (n + m) * bytes ≤ 140737488355328) (hbase : base ≤ w.heap.size)
    (h : ∀ v' w', w'.ownsRow base e size v' (n + m) (xs ++ news) → w.grownBy w' v.ownBlock → (v'.ownBlock = v.ownBlock ∨ v'.ownBlock = some w.heap.size) → K (a.put o.dst v') w') :
    if Region.wanted o (yielded ops a.tmps) = true then Oper.wp P o a w K Q else E := by
  have hw : Region.wanted o (yielded ops a.tmps) = true := by simp [Region.wanted, hgd]
  rw [if_pos hw]
  obtain ⟨v', w', hrun, h2, h3, h4⟩ := run_append_row (P := P) w base t tx o.type e i z size bytes ht hi hz hsize hby hzs v n xs hown y m news hsrc h63 hbytes hbase
  unfold Oper.wp execOp
  simp only [ho, resolve, invoke, builtin, Sem.run_bind, Sem.run_pure, Result.andThen_ok, List.map_toArray, List.map_cons, List.map_nil, hs, hx, hrun]
  exact h v' w' h2 h3 h4
end
def QRawPost (w : World) (h : Nat) (A : Option Addr) (cap : Nat) (bs : List UInt8) (p : Nat) (er n : Int) (e : Ending) (w' : World) : Prop :=
  ∃ v', e = .returned v' ∧ w'.ownsRow w.heap.size 5 1 v' (rawB bs p er n).length (bytesV (rawB bs p er n)) ∧ Qd w' h A cap bs (rawAt bs.length p er n) (rawErr bs.length p er n) ∧ RFr h w w'
set_option maxHeartbeats 1600000 in
theorem qRaw_any (h : Nat) (A : Option Addr) (cap : Nat) (bs : List UInt8) (p : Nat) (er n : Int) (w : World) (k : Qd w h A cap bs p er) (hn0 : -9223372036854775808 ≤ n) (hn1 : n ≤ 9223372036854775807) :
    Calls Tryz.prog 62 #[.pointer (some ⟨h, 0, none⟩), .int .i64 n] w (QRawPost w h A cap bs p er n) := by
  have c0 := k.c0
  have c1 := k.c1
  have c2 := k.c2
  have f1 := k.whole.frozen 1
  have f2 := k.whole.frozen 2
  have hsm := k.small
  have hle := k.le
  have hroom := k.room
  have HK := Lib.hid k
  by_cases he : er = 0
  · subst he
    by_cases hneg : n < 0
    · have e1 : rawB bs p 0 n = [] := by unfold rawB; rw [if_pos hneg]
      have e2 : rawAt bs.length p 0 n = p := by unfold rawAt; rw [if_pos hneg]
      have e3 : rawErr bs.length p 0 n = 3 := by unfold rawErr; rw [if_pos hneg]; rfl
      unfold QRawPost
      rw [e1, e2, e3]
      clear k e1 e2 e3
      go_enter Tryz.func62, Tryz.ntmps62
      go_wp2_with fail
      go_ret
      exact ⟨_, rfl, World.ownsRow_nil _ _ _ _, HK.out.setErr 3, (RFr.refl h w).set 2 _⟩
    · by_cases hbig : (bs.length : Int) - p < n
      · have hE : hasErr bs.length p 0 n = 10 := hasErr_end (by omega)
        have e1 : rawB bs p 0 n = [] := by unfold rawB; rw [if_neg hneg, if_neg (by rw [hE]; decide)]
        have e2 : rawAt bs.length p 0 n = p := by unfold rawAt stepAt; rw [if_neg hneg, if_neg (by omega)]
        have e3 : rawErr bs.length p 0 n = 10 := by unfold rawErr; rw [if_neg hneg, hE]
        unfold QRawPost
        rw [e1, e2, e3]
        clear k e1 e2 e3 hE
        go_enter Tryz.func62, Tryz.ntmps62
        go_wp2_with fail
        go_quiet (fail)
        go_wp2_with fail
        go_ret
        exact ⟨_, rfl, World.ownsRow_nil _ _ _ _, (HK.out.drewN _).setErr 10, ((RFr.refl h w).drewN _).set 2 _⟩
      · obtain ⟨N, rfl⟩ := Int.eq_ofNat_of_zero_le (show 0 ≤ n by omega)
        have hE : hasErr bs.length p 0 N = 0 := hasErr_ok (by omega)
        have e1 : rawB bs p 0 N = (bs.drop p).take N := by unfold rawB; rw [if_neg (by omega), if_pos hE, Int.toNat_natCast]
        have e2 : rawAt bs.length p 0 N = p + N := by unfold rawAt stepAt; rw [if_neg (by omega), Int.toNat_natCast, if_pos ⟨rfl, by omega⟩]
        have e3 : rawErr bs.length p 0 N = 0 := by unfold rawErr; rw [if_neg (by omega), hE]
        unfold QRawPost
        rw [e1, e2, e3]
        have hNl : ((bs.drop p).take N).length = N := by rw [List.length_take, List.length_drop]; omega
        rw [hNl]
        have hL : Lies w (if cap = p then A else Option.map (fun x => x.add p) A) (bytesV ((bs.drop p).take N)) := cut_lies k.lies hroom N
        obtain ⟨A', hA'⟩ : ∃ A', (if cap = p then A else Option.map (fun x => x.add p) A) = A' := ⟨_, rfl⟩
        rw [hA'] at hL
        have HL := Lib.hid hL
        have hsr : ∀ c' (W : World), Lies W A' (bytesV ((bs.drop p).take N)) → Src Tryz.prog 1 25 (.slice A' N c') N (bytesV ((bs.drop p).take N)) W := fun c' W hl => by
          have := hl.src Tryz.underlying25 (bytesV_one _) c'
          rwa [bytesV_length, hNl] at this
        have HSR := Lib.hid hsr
        have hpw : IntKind.i64.wrap ((p : Int) + N) = (p : Int) + N := IntWalk.i64_in _ (by omega)
        have hpn : ((p : Int) + N).toNat = p + N := by omega
        have hp0 : (0 : Int) ≤ (p : Int) := by omega
        have hp1 : (0 : Int) ≤ (p : Int) + N := by omega
        have hpc : (p : Int) + N ≤ cap := by omega
        have hpl : (p : Int) ≤ (p : Int) + N := by omega
        obtain ⟨i0, hi, hz0, hz1, hz2⟩ := info_parts info_u8
        have hhl := k.whole.lt
        clear k e1 e2 e3 hE hL hsr hNl
        go_enter Tryz.func62, Tryz.ntmps62
        go_wp2_with fail
        go_quiet (fail)
        go_wp2_with fail
        go_region_held3 (fun w' => w'.cell? ⟨h, 0, none⟩ = some (.slice A bs.length cap) ∧ w'.cell? ⟨h, 1, none⟩ = some (.int .i64 p)) (go_keep)
          ((refine step_append_row _ (by rfl) (.tmp 31) (.tmp 46) 25 25 (by rfl) w.heap.size 5 i0 (.int .u8 0) 1 1 Tryz.underlying25 hi hz0 hz1 hz2 (by rfl) (.slice none 0 0) 0 [] (by rfl) (World.ownsRow_nil _ _ _ _) _ N (bytesV ((bs.drop p).take N)) (by rfl) (HSR.out _ _ (by exact HL.out)) (by unfold maxLen; omega) (by omega) (by exact Nat.le_refl _) ?_; intro v1 w1 o1 g1 at1; have k0 := (g1.cell_far (⟨h, 0, none⟩ : Addr) hhl (by simp [Value.ownBlock])).trans c0; have k1 := (g1.cell_far (⟨h, 1, none⟩ : Addr) hhl (by simp [Value.ownBlock])).trans c1))
        have B1 : Below w.heap.size w w1 := ⟨g1.os, g1.tape, g1.output, g1.size, fun j hj => g1.block j hj (by simp [Value.ownBlock])⟩
        have hQ1 := HK.out.below B1
        have f11 := hQ1.whole.frozen 1
        have hQ2 := hQ1.setAt (q := p + N) (by omega)
        have HQ2 := Lib.hid hQ2
        rw [Nat.zero_add, List.nil_append] at o1
        have HO1 := Lib.hid o1
        have hh1 : w.heap.size ≤ w1.heap.size := B1.size
        obtain ⟨A1, cc1, hv1, -, -⟩ := own_slice o1
        subst hv1
        clear o1 g1 at1 hQ1 hQ2
        go_wp2_with fail
        go_ret
        exact ⟨_, rfl, own_fr HO1.out ((RFr.refl h w1).set 1 _) (fun j hj e => by have := (World.ownsRow.lt HO1.out j hj).1; omega), HQ2.out, (RFr.set (Fr.of_below B1) 1 _)⟩
  · have e1 : rawB bs p er n = [] := by unfold rawB; split; rfl; rw [if_neg (by rw [hasErr_err he]; exact he)]
    have e2 : rawAt bs.length p er n = p := by unfold rawAt stepAt; split; rfl; rw [if_neg (fun e => he e.1)]
    have e3 : rawErr bs.length p er n = er := by unfold rawErr failErr; simp [he, hasErr_err he]
    unfold QRawPost
    rw [e1, e2, e3]
    have b2 : (er != 0) = true := by simpa using he
    clear k e1 e2 e3
    go_enter Tryz.func62, Tryz.ntmps62
    go_wp2_with fail
    go_ret
    exact ⟨_, rfl, World.ownsRow_nil _ _ _ _, HK.out, RFr.refl _ _⟩
theorem rawB_len (bs : List UInt8) (p : Nat) (er : Int) (size : Nat) : (rawB bs p er size).length ≤ size := by
  unfold rawB
  split
  · simp
  · split
    · rw [List.length_take, Int.toNat_natCast]; omega
    · simp
theorem rawB_num (bs : List UInt8) (p : Nat) (er : Int) (size : Nat) : bigV (rawB bs p er size) = numV bs p er size := by
  unfold rawB numV
  rw [if_neg (by omega)]
  split
  · rw [Int.toNat_natCast]
  · rfl
theorem rawAt_num (len p : Nat) (er : Int) (size : Nat) : rawAt len p er size = stepAt len p er size := by unfold rawAt; rw [if_neg (by omega), Int.toNat_natCast]
theorem rawErr_num (len p : Nat) (er : Int) (size : Nat) : rawErr len p er size = hasErr len p er size := by unfold rawErr; rw [if_neg (by omega)]
set_option maxHeartbeats 1600000 in
theorem qBig_any (h : Nat) (A : Option Addr) (cap : Nat) (bs : List UInt8) (p : Nat) (er : Int) (size : Nat) (w : World) (k : Qd w h A cap bs p er) (hs : size ≤ 8) :
    Calls Tryz.prog 60 #[.pointer (some ⟨h, 0, none⟩), .int .i64 size] w (QPost w h A cap bs (.int .u64 (numV bs p er size)) (stepAt bs.length p er size) (hasErr bs.length p er size)) := by
  have hr := qRaw_any h A cap bs p er size w k (by omega) (by omega)
  have hlen := rawB_len bs p er size
  rw [← rawB_num bs p er size, ← rawAt_num, ← rawErr_num]
  unfold QRawPost at hr
  obtain ⟨R, hR⟩ : ∃ R, rawB bs p er size = R := ⟨_, rfl⟩
  rw [hR] at hr hlen ⊢
  have HR := Lib.hid hr
  clear hr hR
  go_enter Tryz.func60, Tryz.ntmps60
  go_wp2_with (go_at_call 62; refine HR.out.mono ?_; rintro e w1 ⟨v1, rfl, o1, q1, f1⟩; obtain ⟨A1, c1, hv1, -, l1, -⟩ := own_lies o1; subst hv1; have L1 := Lib.hid l1; have Q1 := Lib.hid q1; have F1 := Lib.hid f1; clear o1 l1 q1 f1)
  go_loop [6, 7] (fun n i => ∃ (k : Nat) (m : Int), k ≤ R.length ∧ i = .int .i64 k ∧ n = .int .u64 m ∧ 0 ≤ m ∧ m < 18446744073709551616 ∧ m = bigV (R.take k)) (fun _ i => R.length - (intOf i).toNat)
  case atStart => exact ⟨0, 0, Nat.zero_le _, rfl, rfl, by omega, by omega, rfl⟩
  case round =>
    obtain ⟨k, m, hk, rfl, rfl, hm0, hm1, hm⟩ := hrel
    have HM := Lib.hid hm
    have hb := bigV_lt (R.take k)
    rw [List.length_take] at hb
    by_cases hlt : k < R.length
    · have hm2 : m < 72057594037927936 := by
        have := pow256 (show min k R.length ≤ 7 by omega)
        omega
      obtain ⟨b, o, hA⟩ := lies_at L1.out (by rintro rfl; simp at hlt)
      subst hA
      have hcell := lies_byte L1.out hlt
      obtain ⟨c, hcb, hc0, hc1⟩ : ∃ c : Int, ((R.getD k 0).toNat : Int) = c ∧ 0 ≤ c ∧ c ≤ 255 := ⟨_, rfl, by omega, by have := (R.getD k 0).toNat_lt; omega⟩
      rw [hcb] at hcell
      have hnext : m * 256 + c = ((bigV (R.take (k + 1)) : Nat) : Int) := by
        rw [List.take_succ_eq_append_getElem hlt, bigV_snoc, HM.out, ← hcb, List.getD_eq_getElem?_getD, List.getElem?_eq_getElem hlt]
        simp
      have HN := Lib.hid hnext
      have hk0 : (0 : Int) ≤ (k : Int) := by omega
      have hk1 : (k : Int) < R.length := by omega
      clear hm hb hnext hcb
      go_wp2_with fail
      go_round
      case rel => exact ⟨k + 1, m * 256 + c, by omega, by go_num, rfl, by omega, by omega, HN.out⟩
      case measure => simp [intOf]; omega
    · obtain rfl : k = R.length := by omega
      rw [List.take_length] at HM
      clear hm hb
      go_wp2_with fail
      go_ret
      exact ⟨ret_num HM.out, Q1.out, F1.out⟩
end Go.Proofs.YtkaeoflgnnlbeaaGreatDoor

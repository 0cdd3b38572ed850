/- What is proved: what the document's own reader (the law's side) tells and does: End, number, Var, Text, Raw, Big. Conditions: a reader that the caller holds, over a slice of bytes of at most 2^47. -/
import Derived.Test.YticgmfnidhlkjaaVar
import Derived.Deep.RegionLaw
namespace Go.Proofs.Yticgmfnidhlkjaa
open Go.RowKit
set_option linter.unusedVariables false

/-- The document's reader at block h over the bytes bs at A, at place p, with error er. -/
structure Qd (w : World) (h : Nat) (A : Option Addr) (cap : Nat) (bs : List UInt8) (p : Nat) (er : Int) : Prop where
  whole : Whole w h 41 #[.slice A bs.length cap, .int .i64 p, .int .i64 er]
  lies : Lies w A (bytesV bs)
  le : p ≤ bs.length
  small : bs.length ≤ 140737488355328
  room : bs.length ≤ cap
  ne : ∀ ad, A = some ad → bs ≠ [] → ad.block ≠ h
def QPost (w : World) (h : Nat) (A : Option Addr) (cap : Nat) (bs : List UInt8) (x : Value) (p : Nat) (er : Int) (e : Ending) (w' : World) : Prop := e = .returned x ∧ Qd w' h A cap bs p er ∧ RFr h w w'

section
variable {w w' : World} {h : Nat} {A : Option Addr} {cap : Nat} {bs : List UInt8} {p q : Nat} {er : Int}
theorem Qd.c0 (k : Qd w h A cap bs p er) : w.cell? ⟨h, 0, none⟩ = some (.slice A bs.length cap) := by simpa using k.whole.cell 0
theorem Qd.c1 (k : Qd w h A cap bs p er) : w.cell? ⟨h, 1, none⟩ = some (.int .i64 p) := by simpa using k.whole.cell 1
theorem Qd.c2 (k : Qd w h A cap bs p er) : w.cell? ⟨h, 2, none⟩ = some (.int .i64 er) := by simpa using k.whole.cell 2
theorem Qd.drewN (k : Qd w h A cap bs p er) (n : Nat) : Qd (w.drewN n) h A cap bs p er := ⟨k.whole, k.lies, k.le, k.small, k.room, k.ne⟩
theorem lies_fr {S : Nat → Prop} (hl : Lies w A (bytesV bs)) (f : Fr S w w') (hn : ∀ ad, A = some ad → bs ≠ [] → ¬ S ad.block) : Lies w' A (bytesV bs) := by
  by_cases hb : bs = []
  · exact .inl (by rw [hb]; rfl)
  · exact hl.fr f (fun ad e => hn ad e hb)
theorem Qd.fr {S : Nat → Prop} (k : Qd w h A cap bs p er) (f : Fr S w w') (h1 : ¬ S h) (h2 : ∀ ad, A = some ad → bs ≠ [] → ¬ S ad.block) : Qd w' h A cap bs p er :=
  ⟨k.whole.fr f h1, lies_fr k.lies f h2, k.le, k.small, k.room, k.ne⟩
theorem Qd.below (k : Qd w h A cap bs p er) (f : Below w.heap.size w w') : Qd w' h A cap bs p er := k.fr (Fr.of_below (S := fun _ => False) f) (fun e => e) (fun _ _ _ e => e)
theorem Qd.setAt (k : Qd w h A cap bs p er) (hq : q ≤ bs.length) : Qd (w.setCell ⟨h, 1, none⟩ (.int .i64 q)) h A cap bs q er :=
  ⟨by simpa using k.whole.set 1 (.int .i64 q), lies_fr k.lies ((Fr.refl (fun j => j = h) w).setCell (p := ⟨h, 1, none⟩) (fun _ => rfl) _) (fun ad e hb e2 => k.ne ad e hb e2), hq, k.small, k.room, k.ne⟩
theorem Qd.setErr (k : Qd w h A cap bs p er) (f : Int) : Qd (w.setCell ⟨h, 2, none⟩ (.int .i64 f)) h A cap bs p f :=
  ⟨by simpa using k.whole.set 2 (.int .i64 f), lies_fr k.lies ((Fr.refl (fun j => j = h) w).setCell (p := ⟨h, 2, none⟩) (fun _ => rfl) _) (fun ad e hb e2 => k.ne ad e hb e2), k.le, k.small, k.room, k.ne⟩
end

theorem qEnd_any (h : Nat) (A : Option Addr) (cap : Nat) (bs : List UInt8) (p : Nat) (er : Int) (w : World) (k : Qd w h A cap bs p er) :
    Calls Try.prog 41 #[.pointer (some ⟨h, 0, none⟩)] w (QuietPost w (.int .i64 (endErr bs.length p er))) := by
  have c0 := k.c0
  have c1 := k.c1
  have c2 := k.c2
  by_cases he : er = 0
  · subst he
    by_cases hp : (p : Int) < bs.length
    · have hE : endErr bs.length p 0 = 11 := by unfold endErr; rw [if_pos rfl, if_pos (by omega)]
      rw [hE]
      have hpb : (decide ((p : Int) < (bs.length : Int))) = true := by simpa using hp
      have hpn : p < bs.length := by omega
      go_enter Try.func41, Try.ntmps41
      go_wp2
      go_quiet (fail)
      go_wp2
      go_ret
      exact ⟨rfl, _, rfl⟩
    · have hE : endErr bs.length p 0 = 0 := by unfold endErr; rw [if_pos rfl, if_neg (by omega)]
      rw [hE]
      have hpn : ¬ p < bs.length := by omega
      go_enter Try.func41, Try.ntmps41
      go_wp2
      go_quiet (fail)
      go_wp2
      go_ret
      exact ⟨rfl, _, rfl⟩
  · have he' : (er == 0) = false := by simpa using he
    have he2 : (er != 0) = true := by simpa using he
    have hE : endErr bs.length p er = er := by unfold endErr; rw [if_neg he]
    rw [hE]
    go_enter Try.func41, Try.ntmps41
    go_wp2
    go_ret
    exact ⟨rfl, 0, rfl⟩

def NumRel (bs : List UInt8) (p k : Nat) (m sc : Int) : Prop := m.toNat < 128 ^ k ∧ sc = ((128 ^ k : Nat) : Int) ∧ scan (10 - k) k m.toNat (bs.drop (p + k)) = varR (bs.drop p)
def NumPost (w : World) (bs : List UInt8) (p : Nat) (e : Ending) (w' : World) : Prop :=
  e = .returned (.tuple #[.int .u64 (varR (bs.drop p)).1, .int .i64 (varR (bs.drop p)).2.1, .int .i64 (varR (bs.drop p)).2.2]) ∧ ∃ n, w' = w.drewN n

theorem num_split {bs : List UInt8} {p k : Nat} {m sc : Int} (h : NumRel bs p k m sc) (hk : k ≤ 9) (hlt : p + k < bs.length) :
    ∃ f, 9 - k = f ∧ scan (f + 1) k m.toNat (byteAt bs (p + k) 0 :: bs.drop (p + k + 1)) = varR (bs.drop p) := by
  have hs := h.2.2
  rw [show 10 - k = (9 - k) + 1 by omega, drop_byte hlt] at hs
  exact ⟨_, rfl, hs⟩
theorem num_bad {bs : List UInt8} {p k : Nat} {m sc c : Int} (h : NumRel bs p k m sc) (hk : k ≤ 9) (hlt : p + k < bs.length) (hc : ((byteAt bs (p + k) 0).toNat : Int) = c) (hb : (k = 9 ∧ 1 < c) ∨ (0 < k ∧ c = 0)) : varR (bs.drop p) = (0, 0, 12) := by
  obtain ⟨f, _, hs⟩ := num_split h hk hlt
  rw [scan_bad (by omega)] at hs
  exact hs.symm
theorem num_end {bs : List UInt8} {p k : Nat} {m sc : Int} (h : NumRel bs p k m sc) (hk : k ≤ 9) (hlt : ¬ p + k < bs.length) : varR (bs.drop p) = (0, 0, 10) := by
  have hs := h.2.2
  rw [show 10 - k = (9 - k) + 1 by omega, List.drop_of_length_le (by omega)] at hs
  exact hs.symm
theorem num_val {k : Nat} {m sc c : Int} (hm0 : 0 ≤ m) (hm : m.toNat < 128 ^ k) (hsc : sc = ((128 ^ k : Nat) : Int)) (hk : k ≤ 9) (hc0 : 0 ≤ c) (hc1 : c ≤ 255) (h9 : k = 9 → c ≤ 1) :
    IntKind.u64.wrap (m + IntKind.u64.wrap (c % 128 * sc)) = ((m.toNat + c.toNat % 128 * 128 ^ k : Nat) : Int) ∧ m.toNat + c.toNat % 128 * 128 ^ k < 18446744073709551616 := by
  have hb : c.toNat % 128 * 128 ^ k ≤ 9223372036854775808 := by
    by_cases h : k = 9
    · subst h
      have := h9 rfl
      have h1 : c.toNat % 128 * 128 ^ 9 ≤ 1 * 128 ^ 9 := Nat.mul_le_mul_right _ (by omega)
      omega
    · have h2 : (128 : Nat) ^ k ≤ 128 ^ 8 := Nat.pow_le_pow_right (by decide) (by omega)
      have h3 : c.toNat % 128 * 128 ^ k ≤ 127 * 128 ^ 8 := Nat.mul_le_mul (by omega) h2
      omega
  have hmb := pow128_le hk
  have e1 : c % 128 * sc = ((c.toNat % 128 * 128 ^ k : Nat) : Int) := by
    rw [hsc, Int.natCast_mul]
    congr 1
    omega
  rw [e1, IntKind.wrap_u64, IntKind.wrap_u64]
  omega
theorem num_last {bs : List UInt8} {p k : Nat} {m sc c : Int} (h : NumRel bs p k m sc) (hk : k ≤ 9) (hlt : p + k < bs.length) (hc : ((byteAt bs (p + k) 0).toNat : Int) = c) (hb : ¬ ((k = 9 ∧ 1 < c) ∨ (0 < k ∧ c = 0))) (hcs : c < 128) :
    varR (bs.drop p) = (m.toNat + c.toNat % 128 * 128 ^ k, k + 1, 0) := by
  obtain ⟨f, _, hs⟩ := num_split h hk hlt
  rw [scan_last (by omega) (by omega)] at hs
  rw [← hs, show (byteAt bs (p + k) 0).toNat = c.toNat by omega]
theorem num_more {bs : List UInt8} {p k : Nat} {m sc c : Int} (h : NumRel bs p k m sc) (hk : k < 9) (hlt : p + k < bs.length) (hc : ((byteAt bs (p + k) 0).toNat : Int) = c) (hb : ¬ (0 < k ∧ c = 0)) (hcs : ¬ c < 128) :
    NumRel bs p (k + 1) ((m.toNat + c.toNat % 128 * 128 ^ k : Nat) : Int) (sc * 128) ∧ ((m.toNat + c.toNat % 128 * 128 ^ k : Nat) : Int) < 9223372036854775809 ∧ sc * 128 < 9223372036854775809 := by
  obtain ⟨f, hf, hs⟩ := num_split h (by omega) hlt
  rw [scan_more (by omega) (by omega), show (byteAt bs (p + k) 0).toNat = c.toNat by omega] at hs
  have hp : m.toNat + c.toNat % 128 * 128 ^ k < 128 ^ (k + 1) := by
    have h1 : c.toNat % 128 * 128 ^ k ≤ 127 * 128 ^ k := Nat.mul_le_mul_right _ (by omega)
    have := h.1
    rw [Nat.pow_succ]
    omega
  have hq := pow128_le (show k + 1 ≤ 9 by omega)
  have hsc : sc * 128 = ((128 ^ (k + 1) : Nat) : Int) := by rw [h.2.1, Nat.pow_succ]; omega
  refine ⟨⟨by rw [Int.toNat_natCast]; exact hp, hsc, ?_⟩, by omega, by omega⟩
  rw [Int.toNat_natCast, show 10 - (k + 1) = f by omega]
  exact hs

set_option maxHeartbeats 4000000 in
set_option maxRecDepth 100000 in
theorem qnumber_any (h : Nat) (A : Option Addr) (cap : Nat) (bs : List UInt8) (p : Nat) (er : Int) (w : World) (q : Qd w h A cap bs p er) :
    Calls Try.prog 48 #[.pointer (some ⟨h, 0, none⟩)] w (NumPost w bs p) := by
  have c0 := q.c0
  have c1 := q.c1
  have hsm := q.small
  have hroom := q.room
  have hple := q.le
  have HQ := Lib.hid q
  clear q
  go_enter Try.func48, Try.ntmps48
  go_wp2_with fail
  go_loopw [2, 3, 4, 5, 6, 7, 8] (fun _ _ _ n s i _ wr => ∃ (k : Nat) (m sc : Int), k ≤ 9 ∧ i = .int .i64 k ∧ n = .int .u64 m ∧ s = .int .u64 sc ∧ 0 ≤ m ∧ m < 9223372036854775809 ∧ 0 ≤ sc ∧ sc < 9223372036854775809 ∧ NumRel bs p k m sc ∧ ∃ j, wr = w.drewN j) (fun _ _ _ _ _ i _ _ => 10 - (intOf i).toNat)
  case atStart => exact ⟨0, 0, 1, by omega, rfl, rfl, rfl, by omega, by omega, by omega, by omega, ⟨by decide, rfl, rfl⟩, 0, rfl⟩
  case round =>
    obtain ⟨k, m, sc, hk, rfl, rfl, rfl, hm0, hm1, hs0, hs1, hrel, j, rfl⟩ := hrel
    have HR := Lib.hid hrel
    clear hrel
    have hk0 : (0 : Int) ≤ (p : Int) + k := by omega
    have hpn : ((p : Int) + k).toNat = p + k := by omega
    have hpw : IntKind.i64.wrap ((p : Int) + k) = (p : Int) + k := IntWalk.i64_in _ (by omega)
    by_cases hlt : p + k < bs.length
    · have hlt1 : (p : Int) + k < bs.length := by omega
      have hlt2 : ¬ (bs.length : Int) ≤ (p : Int) + k := by omega
      obtain ⟨b, o, hA⟩ := lies_at HQ.out.lies (by rintro rfl; simp at hlt)
      subst hA
      have hcell := lies_byte HQ.out.lies hlt
      obtain ⟨c, hcb, hc0, hc1⟩ : ∃ c : Int, ((byteAt bs (p + k) 0).toNat : Int) = c ∧ 0 ≤ c ∧ c ≤ 255 := ⟨_, rfl, by omega, by have := (byteAt bs (p + k) 0).toNat_lt; omega⟩
      have hgd : (bs.getD (p + k) 0) = byteAt bs (p + k) 0 := by unfold byteAt; rw [if_pos rfl]
      rw [hgd, hcb] at hcell
      have HC := Lib.hid hcb
      clear hcb hgd
      have W1 : Hid (IntKind.u64.wrap (m + IntKind.u64.wrap (c % 128 * sc)) = ((m.toNat + c.toNat % 128 * 128 ^ k : Nat) : Int) ∨ (k = 9 ∧ 1 < c)) := by
        by_cases h : k = 9 ∧ 1 < c
        · exact Lib.hid (.inr h)
        · exact Lib.hid (.inl (num_val hm0 HR.out.1 HR.out.2.1 hk hc0 hc1 (fun e => by omega)).1)
      by_cases hbad : (k = 9 ∧ 1 < c) ∨ (0 < k ∧ c = 0)
      · have hV := num_bad HR.out hk hlt HC.out hbad
        have HV := Lib.hid hV
        have hcase : ((((k : Int) == 9) = true ∧ 9 ≤ k) ∧ 1 < c ∧ (c == 0) = false) ∨ ((((k : Int) == 9) = true ∧ 9 ≤ k) ∧ ¬ 1 < c ∧ (c == 0) = true) ∨ (((k : Int) == 9) = false ∧ 0 < k ∧ ¬ 1 < c ∧ (c == 0) = true) := by
          by_cases h9 : k = 9
          · subst h9
            by_cases h1 : 1 < c
            · exact .inl ⟨⟨rfl, by omega⟩, h1, by simp; omega⟩
            · exact .inr (.inl ⟨⟨rfl, by omega⟩, h1, by simp; omega⟩)
          · exact .inr (.inr ⟨by simp; omega, by omega, by omega, by simp; omega⟩)
        clear hbad hV
        rcases hcase with ⟨⟨h1, h2⟩, h3, h4⟩ | ⟨⟨h1, h2⟩, h3, h4⟩ | ⟨h1, h2, h3, h4⟩
        all_goals
          go_wp2_with fail
          go_quiet (fail)
          go_wp2_with fail
          go_quiet (fail)
          go_wp2_with fail
          go_ret3
          exact ⟨by rw [HV.out]; rfl, _, rfl⟩
      · by_cases hc : c < 128
        · have hV := num_last HR.out hk hlt HC.out hbad hc
          have HV := Lib.hid hV
          have HW : Hid (IntKind.u64.wrap (m + IntKind.u64.wrap (c % 128 * sc)) = ((m.toNat + c.toNat % 128 * 128 ^ k : Nat) : Int)) := Lib.hid (W1.out.resolve_right (fun e => hbad (.inl e)))
          have hcase : ((((k : Int) == 9) = true ∧ 9 ≤ k) ∧ ¬ 1 < c ∧ (c == 0) = false) ∨ (((k : Int) == 9) = false ∧ 0 < k ∧ (c == 0) = false) ∨ (((k : Int) == 9) = false ∧ ¬ 0 < k) := by
            by_cases h9 : k = 9
            · subst h9
              exact .inl ⟨⟨rfl, by omega⟩, by omega, by simp; omega⟩
            · by_cases h0 : 0 < k
              · exact .inr (.inl ⟨by simp; omega, h0, by simp; omega⟩)
              · exact .inr (.inr ⟨by simp; omega, h0⟩)
          clear hbad hV
          rcases hcase with ⟨⟨h1, h2⟩, h3, h4⟩ | ⟨h1, h2, h4⟩ | ⟨h1, h2⟩
          all_goals
            go_wp2_with fail
            go_quiet (fail)
            go_wp2_with fail
            go_quiet (fail)
            go_wp2_with fail
            go_ret3
            refine ⟨?_, _, rfl⟩
            rw [HV.out]
            simp only
            rw [← HW.out]
            rfl
        · have HB2 : Hid (¬ (0 < k ∧ c = 0)) := Lib.hid (by omega)
          have HW : Hid (IntKind.u64.wrap (m + IntKind.u64.wrap (c % 128 * sc)) = ((m.toNat + c.toNat % 128 * 128 ^ k : Nat) : Int)) := Lib.hid (W1.out.resolve_right (fun e => hbad (.inl e)))
          have hk9 : k < 9 := by omega
          have hM := num_more HR.out hk9 hlt HC.out HB2.out hc
          have HM := Lib.hid hM.1
          have hs2 : sc ≤ 72057594037927936 := by have := hM.2.2; omega
          have HM2 := Lib.hid hM.2.2
          have hcase : (((k : Int) == 9) = false ∧ 0 < k ∧ (c == 0) = false) ∨ (((k : Int) == 9) = false ∧ ¬ 0 < k) := by
            by_cases h0 : 0 < k
            · exact .inl ⟨by simp; omega, h0, by simp; omega⟩
            · exact .inr ⟨by simp; omega, h0⟩
          have HS2 := Lib.hid hs2
          have HK9 := Lib.hid hk9
          clear hbad hM hs2 hk9
          rcases hcase with ⟨h1, h2, h4⟩ | ⟨h1, h2⟩
          all_goals
            go_wp2_with fail
            go_quiet (fail)
            go_wp2_with fail
            go_quiet (fail)
            have hs2 := HS2.out
            have hk9 := HK9.out
            go_wp2_with fail
            go_roundw
            case rel => exact ⟨k + 1, ((m.toNat + c.toNat % 128 * 128 ^ k : Nat) : Int), sc * 128, by omega, by go_num, by rw [HW.out], rfl, by omega, (by have h1 := HM.out.1; have h2 := pow128_le (show k + 1 ≤ 9 by omega); rw [Int.toNat_natCast] at h1; omega), by omega, HM2.out, HM.out, _, rfl⟩
            case measure => simp [intOf]; omega
    · have hV := num_end HR.out hk hlt
      have HV := Lib.hid hV
      have hge : (bs.length : Int) ≤ (p : Int) + k := by omega
      clear hV
      go_wp2_with fail
      go_quiet (fail)
      go_wp2_with fail
      go_ret3
      exact ⟨by rw [HV.out]; rfl, _, World.drewN_drewN _ _ _⟩
end Go.Proofs.Yticgmfnidhlkjaa

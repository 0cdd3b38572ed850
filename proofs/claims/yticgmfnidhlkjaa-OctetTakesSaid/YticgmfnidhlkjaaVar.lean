/- What is proved: the Reader's Var and Text. Conditions: a reader that the caller holds, or a nil one. -/
import Derived.Test.YticgmfnidhlkjaaDig
namespace Go.Proofs.Yticgmfnidhlkjaa
open Go.RowKit
set_option linter.unusedVariables false

set_option maxHeartbeats 1600000 in
theorem Rdigits_err (g : Nat) (v : Value) (bs : List UInt8) (p : Nat) (er : Int) (w : World) (h : Rd w g v bs p er) (he : er ≠ 0) :
    Calls Try.prog 45 #[.pointer (some ⟨g, 0, none⟩)] w (DigPost w g v bs p er) := by
  have hne : (er != 0) = true := by simpa using he
  have HE : Hid (hasErr bs.length p er 1 = er) := Lib.hid (hasErr_err he)
  have HS : Hid (stepAt bs.length p er 1 = p) := Lib.hid (by unfold stepAt; rw [if_neg (fun e => he e.1)])
  have HD : Hid (digR bs p er = (0, 0, er)) := Lib.hid (by unfold digR; rw [if_neg he])
  have hnz := Lib.hid he
  clear he
  go_enter Try.func45, Try.ntmps45
  go_wp2_with fail
  go_loopw [2, 3, 4, 5, 6, 7, 8] (fun _ n _ _ _ _ i wr => i = .int .i64 0 ∧ n = .int .u64 0 ∧ w = wr) (fun _ _ _ _ _ _ i _ => 10 - (intOf i).toNat)
  case atStart => exact ⟨rfl, rfl, rfl⟩
  case round =>
    obtain ⟨rfl, rfl, rfl⟩ := hrel
    go_wp2_with (first
      | (go_at_call 17; refine (RByte_any g v bs _ _ _ h).mono ?_; rintro e w1 ⟨rfl, r1, f1⟩; rw [HE.out, HS.out] at r1)
      | (go_at_call 24; refine (RErr_any g v bs _ _ _ r1).mono ?_; rintro e w' ⟨rfl, rfl⟩))
    go_ret
    exact ⟨p, by rw [HD.out]; rfl, by rw [HD.out]; exact r1, f1, by rw [HD.out]; intro e; exact absurd e hnz.out⟩
theorem Rdigits_any (g : Nat) (v : Value) (bs : List UInt8) (p : Nat) (er : Int) (w : World) (h : Rd w g v bs p er) :
    Calls Try.prog 45 #[.pointer (some ⟨g, 0, none⟩)] w (DigPost w g v bs p er) := by
  by_cases he : er = 0
  · subst he; exact Rdigits_ok g v bs p w h
  · exact Rdigits_err g v bs p er w h he

/-- What Var tells: the value, the place, the error. -/
def varO (bs : List UInt8) (p : Nat) (er : Int) (most : Int) : Nat × Nat × Int :=
  if (digR bs p er).2.2 ≠ 0 then (0, p, (digR bs p er).2.2) else if most < (digR bs p er).1 then (0, p, 3) else ((digR bs p er).1, p + (digR bs p er).2.1, 0)
theorem digR_zero {bs : List UInt8} {p : Nat} {er : Int} (h : (digR bs p er).2.2 ≠ 0) : (digR bs p er).1 = 0 := by
  unfold digR at h ⊢
  split
  · rename_i he
    rw [if_pos he] at h
    rcases scan_err 10 0 0 (bs.drop p) with h1 | h1
    · exact absurd h1 h
    · exact h1.1
  · rfl
def VarPost (w : World) (g : Nat) (v : Value) (bs : List UInt8) (o : Nat × Nat × Int) (e : Ending) (w' : World) : Prop := e = .returned (.int .u64 o.1) ∧ Rd w' g v bs o.2.1 o.2.2 ∧ RFr g w w'

set_option maxHeartbeats 1600000 in
theorem RVar_any (g : Nat) (v : Value) (bs : List UInt8) (p : Nat) (er most : Int) (w : World) (h : Rd w g v bs p er) (hm0 : 0 ≤ most) (hm1 : most < 18446744073709551616) :
    Calls Try.prog 20 #[.pointer (some ⟨g, 0, none⟩), .int .u64 most] w (VarPost w g v bs (varO bs p er most)) := by
  obtain ⟨D, hD⟩ : ∃ D, (digR bs p er).1 = D := ⟨_, rfl⟩
  obtain ⟨d, hd, hd0⟩ : ∃ d : Int, (D : Int) = d ∧ 0 ≤ d := ⟨_, rfl, by omega⟩
  have HD := Lib.hid hD
  have Hd := Lib.hid hd
  clear hD hd
  by_cases hbig : most < d
  · go_enter_defers Try.func20, Try.ntmps20
    go_wp2_with (first
      | (go_at_call 28; refine (RAt_any g v bs p _ _ h).mono ?_; rintro e w1 ⟨rfl, rfl⟩)
      | (go_at_call 45; refine (Rdigits_any g v bs p _ _ h).mono ?_; rintro e w1 ⟨q, rfl, r1, f1, hq⟩; rw [HD.out, Hd.out]; have HQ := Lib.hid hq; clear hq)
      | (go_at_call 46; refine (Rfail_any g v bs _ _ _ _ r1).mono ?_; rintro e w2 ⟨rfl, r2, f2⟩))
    refine leaves_cons (f := 42) (args := #[.pointer (some ⟨g, 0, none⟩), .int .i64 p]) (by simp) (by simp [go_sem]) ?_
    refine (Rlook_any g v bs _ p _ .returning _ r2 h.le).mono ?_
    rintro e u' w'' ⟨rfl, rfl, h4, f4⟩
    have hO : varO bs p er most = (0, backAt (failErr (digR bs p er).2.2 3) q p, failErr (digR bs p er).2.2 3) := by
      have e0 : (digR bs p er).2.2 = 0 := by
        refine Classical.byContradiction fun hn => ?_
        have h1 := digR_zero hn
        have h2 := HD.out
        have h3 := Hd.out
        omega
      unfold varO
      rw [if_neg (by simpa using e0), if_pos (by rw [HD.out, Hd.out]; exact hbig), e0]
      rfl
    refine ⟨_, results_tmp rfl _ _ _, ?_⟩
    rw [hO]
    exact ⟨rfl, h4, (f1.trans f2).trans f4⟩
  · go_enter_defers Try.func20, Try.ntmps20
    go_wp2_with (first
      | (go_at_call 28; refine (RAt_any g v bs p _ _ h).mono ?_; rintro e w1 ⟨rfl, rfl⟩)
      | (go_at_call 45; refine (Rdigits_any g v bs p _ _ h).mono ?_; rintro e w1 ⟨q, rfl, r1, f1, hq⟩; rw [HD.out, Hd.out]; have HQ := Lib.hid hq; clear hq))
    refine leaves_cons (f := 42) (args := #[.pointer (some ⟨g, 0, none⟩), .int .i64 p]) (by simp) (by simp [go_sem]) ?_
    refine (Rlook_any g v bs _ p _ .returning _ r1 h.le).mono ?_
    rintro e u' w'' ⟨rfl, rfl, h4, f4⟩
    have hO : varO bs p er most = (D, backAt (digR bs p er).2.2 q p, (digR bs p er).2.2) := by
      unfold varO backAt
      by_cases e0 : (digR bs p er).2.2 = 0
      · rw [if_neg (by simpa using e0), if_neg (by rw [HD.out, Hd.out]; omega), if_pos e0, HQ.out e0, HD.out, e0]
      · have hz := digR_zero e0
        rw [HD.out] at hz
        rw [if_pos e0, if_neg e0, hz]
    refine ⟨_, results_tmp rfl _ _ _, ?_⟩
    rw [hO]
    refine ⟨?_, h4, f1.trans f4⟩
    rw [Hd.out]
    rfl

theorem RVar_nil (most : Int) (w : World) (hm0 : 0 ≤ most) :
    Calls Try.prog 20 #[.pointer none, .int .u64 most] w fun e w' => e = .returned (.int .u64 0) ∧ w = w' := by
  have hh : Calls Try.prog 45 #[.pointer none] w fun e w' => e = .returned (.int .u64 0) ∧ w = w' := by
    go_enter Try.func45, Try.ntmps45
    go_wp2_with fail
    go_loopw [2, 3, 4, 5, 6, 7, 8] (fun _ n _ _ _ _ i wr => i = .int .i64 0 ∧ n = .int .u64 0 ∧ w = wr) (fun _ _ _ _ _ _ i _ => 10 - (intOf i).toNat)
    case atStart => exact ⟨rfl, rfl, rfl⟩
    case round =>
      obtain ⟨rfl, rfl, rfl⟩ := hrel
      go_wp2_with (first
        | (go_at_call 17; refine (RByte_nil _).mono ?_; rintro e w1 ⟨rfl, rfl⟩)
        | (go_at_call 24; refine (RErr_nil _).mono ?_; rintro e w' ⟨rfl, rfl⟩))
      go_ret
      exact ⟨rfl, rfl⟩
  have HH := Lib.hid hh
  clear hh
  go_enter_defers Try.func20, Try.ntmps20
  go_wp2_with (first
    | (go_at_call 28; refine (RAt_nil _).mono ?_; rintro e w1 ⟨rfl, rfl⟩)
    | (go_at_call 45; refine HH.out.mono ?_; rintro e w1 ⟨rfl, rfl⟩))
  refine leaves_cons (f := 42) (args := #[.pointer none, .int .i64 0]) (by simp) (by simp [go_sem]) ?_
  refine (Rlook_nil 0 .returning _).mono ?_
  rintro e u' w'' ⟨rfl, rfl, rfl⟩
  exact ⟨_, results_tmp rfl _ _ _, rfl, rfl⟩

/-- What Text tells: the bytes, the place, the error (o: what its length was read as). -/
def textF (bs : List UInt8) (p : Nat) (most : Int) (o : Nat × Nat × Int) : List UInt8 × Nat × Int :=
  if most < 0 ∨ most < o.1 then ([], p, failErr o.2.2 3)
  else (rawB bs o.2.1 o.2.2 o.1, backAt (rawErr bs.length o.2.1 o.2.2 o.1) (rawAt bs.length o.2.1 o.2.2 o.1) p, rawErr bs.length o.2.1 o.2.2 o.1)
def textO (bs : List UInt8) (p : Nat) (er most : Int) : List UInt8 × Nat × Int := textF bs p most (varO bs p er 18446744073709551615)
def TextPost (w : World) (g : Nat) (v : Value) (bs : List UInt8) (o : List UInt8 × Nat × Int) (e : Ending) (w' : World) : Prop := e = .returned (.string (strB o.1)) ∧ Rd w' g v bs o.2.1 o.2.2 ∧ RFr g w w'
theorem failErr_ne (er : Int) : failErr er 3 ≠ 0 := by
  unfold failErr
  split
  · decide
  · assumption
theorem varO_lt (bs : List UInt8) (p : Nat) (er most : Int) : (varO bs p er most).1 < 18446744073709551616 := by
  have := digR_lt bs p er
  unfold varO
  split
  · show 0 < 18446744073709551616
    decide
  · split
    · show 0 < 18446744073709551616
      decide
    · exact this

set_option maxHeartbeats 1600000 in
theorem RText_any (g : Nat) (v : Value) (bs : List UInt8) (p : Nat) (er most : Int) (w : World) (h : Rd w g v bs p er) (hm0 : -9223372036854775808 ≤ most) (hm1 : most ≤ 9223372036854775807) :
    Calls Try.prog 21 #[.pointer (some ⟨g, 0, none⟩), .int .i64 most] w (TextPost w g v bs (textO bs p er most)) := by
  have hvc := RVar_any g v bs p er 18446744073709551615 w h (by omega) (by omega)
  have hlt := varO_lt bs p er 18446744073709551615
  unfold textO
  obtain ⟨o, ho⟩ : ∃ o, varO bs p er 18446744073709551615 = o := ⟨_, rfl⟩
  rw [ho] at hvc hlt ⊢
  clear ho
  obtain ⟨V, q, f⟩ := o
  obtain ⟨d, hd, hd0, hd1⟩ : ∃ d : Int, (V : Int) = d ∧ 0 ≤ d ∧ d < 18446744073709551616 := ⟨_, rfl, by omega, by simp only at hlt; omega⟩
  have Hd := Lib.hid hd
  have HV := Lib.hid hvc
  clear hd hvc hlt
  have hle := h.le
  by_cases hbad : most < 0 ∨ most < d
  · have hcase : most < 0 ∨ (0 ≤ most ∧ most < d) := by omega
    have HB := Lib.hid hbad
    clear hbad
    rcases hcase with h1 | ⟨h0, h1⟩
    all_goals
      go_enter_defers Try.func21, Try.ntmps21
      go_wp2_with (first
        | (go_at_call 28; refine (RAt_any g v bs p _ _ h).mono ?_; rintro e w1 ⟨rfl, rfl⟩)
        | (go_at_call 20; refine HV.out.mono ?_; rintro e w1 ⟨rfl, r1, f1⟩; simp only at r1; rw [Hd.out])
        | (go_at_call 46; refine (Rfail_any g v bs _ _ _ _ r1).mono ?_; rintro e w2 ⟨rfl, r2, f2⟩))
      refine leaves_cons (f := 42) (args := #[.pointer (some ⟨g, 0, none⟩), .int .i64 p]) (by simp) (by simp [go_sem]) ?_
      refine (Rlook_any g v bs _ p _ .returning _ r2 hle).mono ?_
      rintro e u' w'' ⟨rfl, rfl, h4, f4⟩
      refine ⟨_, results_tmp rfl _ _ _, ?_⟩
      unfold textF
      rw [if_pos (by simp only; rw [Hd.out]; exact HB.out)]
      refine ⟨rfl, ?_, (f1.trans f2).trans f4⟩
      unfold backAt at h4
      rw [if_neg (failErr_ne f)] at h4
      exact h4
  · have h0 : 0 ≤ most := by omega
    have h1 : d ≤ most := by omega
    clear hbad
    go_enter_defers Try.func21, Try.ntmps21
    go_wp2_with (first
      | (go_at_call 28; refine (RAt_any g v bs p _ _ h).mono ?_; rintro e w1 ⟨rfl, rfl⟩)
      | (go_at_call 20; refine HV.out.mono ?_; rintro e w1 ⟨rfl, r1, f1⟩; simp only at r1; rw [Hd.out])
      | (go_at_call 22; refine (RRaw_any g v bs _ _ _ _ r1 (by omega) (by omega)).mono ?_; rintro e w2 ⟨v2, rfl, o2, r2, f2⟩; obtain ⟨A2, c2, rfl, -, l2, n2⟩ := own_lies o2; have e2 := run_convert_lies 25 9 5 Try.underlying25 Try.underlying5 Try.underlying9 l2 c2; clear o2 l2 n2))
    refine leaves_cons (f := 42) (args := #[.pointer (some ⟨g, 0, none⟩), .int .i64 p]) (by simp) (by simp [go_sem]) ?_
    refine (Rlook_any g v bs _ p _ .returning _ r2 hle).mono ?_
    rintro e u' w'' ⟨rfl, rfl, h4, f4⟩
    refine ⟨_, results_tmp rfl _ _ _, ?_⟩
    unfold textF
    rw [if_neg (by simp only; rw [Hd.out]; omega)]
    simp only
    rw [Hd.out]
    exact ⟨rfl, h4, (f1.trans f2).trans f4⟩

theorem RText_nil (most : Int) (w : World) (hm0 : -9223372036854775808 ≤ most) (hm1 : most ≤ 9223372036854775807) :
    Calls Try.prog 21 #[.pointer none, .int .i64 most] w fun e w' => e = .returned (.string ⟨#[]⟩) ∧ w = w' := by
  by_cases hm : most < 0
  · go_enter_defers Try.func21, Try.ntmps21
    go_wp2_with (first
      | (go_at_call 28; refine (RAt_nil _).mono ?_; rintro e w1 ⟨rfl, rfl⟩)
      | (go_at_call 20; refine (RVar_nil _ _ (by omega)).mono ?_; rintro e w1 ⟨rfl, rfl⟩)
      | (go_at_call 46; refine (Rfail_nil _ _).mono ?_; rintro e w1 ⟨rfl, rfl⟩))
    refine leaves_cons (f := 42) (args := #[.pointer none, .int .i64 0]) (by simp) (by simp [go_sem]) ?_
    refine (Rlook_nil 0 .returning _).mono ?_
    rintro e u' w'' ⟨rfl, rfl, rfl⟩
    exact ⟨_, results_tmp rfl _ _ _, rfl, rfl⟩
  · have e2 := run_convert_bytes_nil (P := Try.prog) w 25 5 Try.underlying25 Try.underlying5 0 0 9 Try.underlying9
    go_enter_defers Try.func21, Try.ntmps21
    go_wp2_with (first
      | (go_at_call 28; refine (RAt_nil _).mono ?_; rintro e w1 ⟨rfl, rfl⟩)
      | (go_at_call 20; refine (RVar_nil _ _ (by omega)).mono ?_; rintro e w1 ⟨rfl, rfl⟩)
      | (go_at_call 22; refine (RRaw_nil _ _ (by omega) (by omega)).mono ?_; rintro e w1 ⟨rfl, rfl⟩))
    refine leaves_cons (f := 42) (args := #[.pointer none, .int .i64 0]) (by simp) (by simp [go_sem]) ?_
    refine (Rlook_nil 0 .returning _).mono ?_
    rintro e u' w'' ⟨rfl, rfl, rfl⟩
    exact ⟨_, results_tmp rfl _ _ _, rfl, rfl⟩
end Go.Proofs.Yticgmfnidhlkjaa

/- What is proved: the document's own reader (the law's side): Text. Conditions: a reader that the caller holds, over a slice of bytes of at most 2^47. -/
import Derived.Test.YticgmfnidhlkjaaQrf
namespace Go.Proofs.Yticgmfnidhlkjaa
open Go.RowKit
set_option linter.unusedVariables false

def QTextPost (w : World) (h : Nat) (A : Option Addr) (cap : Nat) (bs : List UInt8) (o : List UInt8 × Nat × Int) (e : Ending) (w' : World) : Prop := e = .returned (.string (strB o.1)) ∧ Qd w' h A cap bs o.2.1 o.2.2 ∧ RFr h w w'

set_option maxHeartbeats 4000000 in
theorem qText_any (h : Nat) (A : Option Addr) (cap : Nat) (bs : List UInt8) (p : Nat) (er most : Int) (w : World) (k : Qd w h A cap bs p er) (hm0 : -9223372036854775808 ≤ most) (hm1 : most ≤ 9223372036854775807) :
    Calls Try.prog 39 #[.pointer (some ⟨h, 0, none⟩), .int .i64 most] w (QTextPost w h A cap bs (textO bs p er most)) := by
  have c0 := k.c0
  have c1 := k.c1
  have c2 := k.c2
  have f1 := k.whole.frozen 1
  have f2 := k.whole.frozen 2
  have hsm := k.small
  have hroom := k.room
  have hple := k.le
  have HK := Lib.hid k
  by_cases he : er = 0
  · subst he
    have hnum := qnumber_any h A cap bs p 0 w k
    have hsz := scan_size 10 0 0 (bs.drop p)
    have hlt := varR_lt (bs.drop p)
    change (varR (bs.drop p)).2.2 = 0 → 0 + 1 ≤ (varR (bs.drop p)).2.1 ∧ (varR (bs.drop p)).2.1 ≤ 0 + (bs.drop p).length ∧ (varR (bs.drop p)).2.1 ≤ 0 + 10 at hsz
    unfold NumPost at hnum
    have htf := fun V S E hd => textF_case bs p most (V := V) (S := S) (E := E) hd hple
    obtain ⟨R, hR⟩ : ∃ R, varR (bs.drop p) = R := ⟨_, rfl⟩
    rw [hR] at hnum hsz hlt htf
    obtain ⟨V, S, E⟩ := R
    rw [htf V S E rfl]
    simp only at hnum hsz hlt
    rw [List.length_drop] at hsz
    clear k hR htf
    by_cases hE : E = 0
    · subst hE
      have hsz' := hsz rfl
      rw [if_neg (show ¬ ((0 : Int) ≠ 0) by simp)]
      by_cases hbad : most < 0 ∨ most < V
      · rw [if_pos hbad]
        obtain ⟨vv, hvv, hv0, hv1⟩ : ∃ vv : Int, (V : Int) = vv ∧ 0 ≤ vv ∧ vv < 18446744073709551616 := ⟨_, rfl, by omega, by omega⟩
        rw [hvv] at hnum hbad
        have HN := Lib.hid hnum
        have hcase : most < 0 ∨ (0 ≤ most ∧ most < vv) := by omega
        clear hnum hsz hsz' hlt hbad hvv
        rcases hcase with h1 | ⟨h1, h2⟩
        all_goals
          go_enter Try.func39, Try.ntmps39
          go_wp2_with (go_at_call 48; refine HN.out.mono ?_; rintro e w1 ⟨rfl, n, rfl⟩)
          go_quiet (fail)
          go_wp2_with fail
          go_ret
          refine ⟨rfl, ?_, ?_⟩
          · exact (HK.out.drewN _).setErr 3
          · exact ((RFr.refl h w).drewN _).set 2 _
      · rw [if_neg hbad]
        have hb0 : 0 ≤ most := by omega
        have hb1 : (V : Int) ≤ most := by omega
        have hSl : (p : Int) + S ≤ bs.length := by omega
        by_cases hlong : (bs.length : Int) - (p + S : Nat) < V
        · rw [if_pos hlong]
          obtain ⟨vv, hvv, hv0, hv1⟩ : ∃ vv : Int, (V : Int) = vv ∧ 0 ≤ vv ∧ vv < 18446744073709551616 := ⟨_, rfl, by omega, by omega⟩
          rw [hvv] at hnum hb1
          have hl2 : (bs.length : Int) - p - S < vv := by omega
          have HN := Lib.hid hnum
          clear hnum hsz hsz' hlt hbad hlong hvv
          go_enter Try.func39, Try.ntmps39
          go_wp2_with (go_at_call 48; refine HN.out.mono ?_; rintro e w1 ⟨rfl, n, rfl⟩)
          go_quiet (fail)
          go_wp2_with fail
          go_ret
          refine ⟨rfl, ?_, ?_⟩
          · exact (HK.out.drewN _).setErr 10
          · exact ((RFr.refl h w).drewN _).set 2 _
        · rw [if_neg hlong]
          have hl2 : (V : Int) ≤ (bs.length : Int) - p - S := by omega
          have hVs : (V : Int) ≤ 140737488355328 := by omega
          have HN := Lib.hid hnum
          obtain ⟨A', hA'⟩ : ∃ A', (if cap = p + S then A else Option.map (fun x => x.add (p + S)) A) = A' := ⟨_, rfl⟩
          have hL := cut_lies (p := p + S) HK.out.lies hroom V
          rw [hA'] at hL
          have hNl : ((bs.drop (p + S)).take V).length = V := by rw [List.length_take, List.length_drop]; omega
          obtain ⟨T, hT⟩ : ∃ T, strB ((bs.drop (p + S)).take V) = T := ⟨_, rfl⟩
          have econv : ∀ j, (convert 25 9 (.slice A' V (cap - (p + S)))).run Try.prog (w.drewN j) = .ok (.string T) (w.drewN j) := fun j => by
            have := run_convert_lies (w := w.drewN j) 25 9 5 Try.underlying25 Try.underlying5 Try.underlying9 (show Lies (w.drewN j) A' _ from hL) (cap - (p + S))
            rw [hNl, hT] at this
            exact this
          have HT := Lib.hid hT
          have q0 : (0 : Int) ≤ (p : Int) + S := by omega
          have q1 : (p : Int) + S ≤ (p : Int) + S + V := by omega
          have q2 : (p : Int) + S + V ≤ cap := by omega
          have q3 : ((p : Int) + S).toNat = p + S := by omega
          have q4 : ((p : Int) + S + V).toNat = p + S + V := by omega
          have q5 : p + S + V - (p + S) = V := by omega
          have q6 : IntKind.i64.wrap ((p : Int) + S) = (p : Int) + S := IntWalk.i64_in _ (by omega)
          have q7 : IntKind.i64.wrap ((p : Int) + S + V) = (p : Int) + S + V := IntWalk.i64_in _ (by omega)
          clear hnum hsz hsz' hlt hbad hlong hL hNl hT
          go_enter Try.func39, Try.ntmps39
          go_wp2_with (go_at_call 48; refine HN.out.mono ?_; rintro e w1 ⟨rfl, n, rfl⟩)
          go_quiet (fail)
          go_wp2_with fail
          go_quiet (fail)
          go_wp2_with fail
          go_ret
          refine ⟨?_, ?_, ?_⟩
          · simp only
            rw [HT.out]
            rfl
          · exact (HK.out.drewN _).setAt (q := p + S + V) (by omega)
          · exact ((RFr.refl h w).drewN _).set 1 _
    · rw [if_pos hE]
      obtain ⟨vv, hvv, hv0, hv1⟩ : ∃ vv : Int, (V : Int) = vv ∧ 0 ≤ vv ∧ vv < 18446744073709551616 := ⟨_, rfl, by omega, by omega⟩
      rw [hvv] at hnum
      have HN := Lib.hid hnum
      have b1 : (E == 0) = false := by simpa using hE
      have b2 : (E != 0) = true := by simpa using hE
      clear hnum hsz hlt hvv
      go_enter Try.func39, Try.ntmps39
      go_wp2_with (go_at_call 48; refine HN.out.mono ?_; rintro e w1 ⟨rfl, n, rfl⟩)
      go_quiet (fail)
      go_wp2_with fail
      go_ret
      refine ⟨rfl, ?_, ?_⟩
      · exact (HK.out.drewN _).setErr E
      · exact ((RFr.refl h w).drewN _).set 2 _
  · rw [textO_err bs p most he]
    have b2 : (er != 0) = true := by simpa using he
    go_enter Try.func39, Try.ntmps39
    go_wp2_with fail
    go_ret
    exact ⟨rfl, HK.out, RFr.refl _ _⟩
end Go.Proofs.Yticgmfnidhlkjaa

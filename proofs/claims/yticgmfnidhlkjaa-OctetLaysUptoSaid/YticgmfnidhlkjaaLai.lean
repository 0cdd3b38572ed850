/- What is proved: what the law's own laid tells: the bytes that belong to a call of a Writer. Conditions: texts below 2^46 bytes. -/
import Derived.Test.YticgmfnidhlkjaaRef
namespace Go.Proofs.Yticgmfnidhlkjaa
open Go.RowKit
set_option linter.unusedVariables false

theorem made_of_own {w w1 w2 : World} {ys : List UInt8} {v : Value} (hb : Below w.heap.size w w1) (h : w2.ownsRow w1.heap.size 5 1 v ys.length (bytesV ys)) (hb2 : Below w1.heap.size w1 w2) : ∃ A c, v = .slice A ys.length c ∧ Lies w2 A (bytesV ys) ∧ Below w.heap.size w w2 := by
  obtain ⟨A, c, hv, -, hl, -⟩ := own_lies h
  exact ⟨A, c, hv, hl, (Fr.then_below (Fr.of_below (S := fun _ => False) hb) hb2).below (fun _ _ e => e)⟩

set_option maxHeartbeats 4000000 in
theorem laid_any (d n : Int) (s : ByteArray) (w : World) (hn0 : 0 ≤ n) (hn1 : n < 18446744073709551616) (hs : s.size ≤ 100000000000000) :
    Calls Try.prog 10 #[.agg #[.int .i64 d, .int .u64 n, .string s]] w (MadePost w (laidB d n s.data.toList)) := by
  have hba : Below w.heap.size w (w.alloc (.cells #[.int .i64 d, .int .u64 n, .string s] 29)) := (Below.refl _ _).alloc (Nat.le_refl _) _
  by_cases e0 : d = 0
  · subst e0
    have hL : laidB 0 n s.data.toList = [toB (n % 256)] := rfl
    rw [hL]
    go_enter Try.func10, Try.ntmps10
    go_wp2
    go_ret
    refine ⟨_, _, rfl, .inr ⟨_, 0, rfl, fun j u hu => ?_⟩, hba.alloc (by simp) _⟩
    match j, hu with
    | 0, hu =>
      have : u = .int .u8 (n % 256) := by
        have h : some (byteV (toB (n % 256))) = some u := hu
        rw [byteV_toB (by omega) (by omega)] at h
        exact (Option.some.inj h).symm
      subst this
      simp
  · by_cases e1 : d = 1
    · subst e1
      have hL : laidB 1 n s.data.toList = hiB (n % 4294967296) 4 4 := rfl
      rw [hL]
      have hc : ∀ W, Calls Try.prog 33 #[.int .u64 (n % 4294967296), .int .i64 4] W (MadePost W (hiB (n % 4294967296) 4 4)) := fun W => refBig_any _ 4 W (by omega) (by omega) (by omega) (by omega)
      have HC := Lib.hid hc
      clear hc
      go_enter Try.func10, Try.ntmps10
      go_wp2_with (go_at_call 33; refine (HC.out _).mono ?_; rintro e w1 ⟨A, c, rfl, l1, b1⟩)
      go_ret
      exact ⟨A, c, rfl, l1, (Fr.then_below (Fr.of_below (S := fun _ => False) hba) b1).below (fun _ _ e => e)⟩
    · by_cases e2 : d = 2
      · subst e2
        have hL : laidB 2 n s.data.toList = hiB n 8 8 := rfl
        rw [hL]
        have hc : ∀ W, Calls Try.prog 33 #[.int .u64 n, .int .i64 8] W (MadePost W (hiB n 8 8)) := fun W => refBig_any _ 8 W (by omega) (by omega) (by omega) (by omega)
        have HC := Lib.hid hc
        clear hc
        go_enter Try.func10, Try.ntmps10
        go_wp2_with (go_at_call 33; refine (HC.out _).mono ?_; rintro e w1 ⟨A, c, rfl, l1, b1⟩)
        go_ret
        exact ⟨A, c, rfl, l1, (Fr.then_below (Fr.of_below (S := fun _ => False) hba) b1).below (fun _ _ e => e)⟩
      · by_cases e3 : d = 3
        · subst e3
          have hL : laidB 3 n s.data.toList = varB n.toNat := rfl
          rw [hL]
          go_enter Try.func10, Try.ntmps10
          go_wp2_with (go_at_call 34; refine (refVar_any _ _ (by omega) (by omega)).mono ?_; rintro e w1 ⟨v1, rfl, o1, b1⟩)
          go_ret
          obtain ⟨A, c, hv, hl, hb⟩ := made_of_own hba o1 b1
          subst hv
          exact ⟨A, c, rfl, hl, hb⟩
        · by_cases e4 : d = 4
          · subst e4
            have hL : laidB 4 n s.data.toList = textB s.data.toList := rfl
            rw [hL]
            go_enter Try.func10, Try.ntmps10
            go_wp2_with (go_at_call 35; refine (refText_any _ _ (by omega)).mono ?_; rintro e w1 ⟨v1, rfl, o1, b1⟩)
            go_ret
            obtain ⟨A, c, hv, hl, hb⟩ := made_of_own hba o1 b1
            subst hv
            exact ⟨A, c, rfl, hl, hb⟩
          · have hL : laidB d n s.data.toList = s.data.toList := by unfold laidB; rw [if_neg e0, if_neg e1, if_neg e2, if_neg e3, if_neg e4]
            rw [hL]
            have hsl : s.data.toList.length = s.size := by rw [Array.length_toList]; rfl
            have HSL := Lib.hid hsl
            have b0 : (d == 0) = false := by simpa using e0
            have b1 : (d == 1) = false := by simpa using e1
            have b2 : (d == 2) = false := by simpa using e2
            have b3 : (d == 3) = false := by simpa using e3
            have b4 : (d == 4) = false := by simpa using e4
            obtain ⟨A, c, W, hconv, hlies, hbW⟩ := conv_bytes (w.alloc (.cells #[.int .i64 d, .int .u64 n, .string s] 29)) s
            have HLI := Lib.hid hlies
            have HBW := Lib.hid hbW
            clear hL e0 e1 e2 e3 e4 hlies hbW hsl
            go_enter Try.func10, Try.ntmps10
            go_wp2
            go_ret
            refine ⟨A, c, ?_, HLI.out, (Fr.then_below (Fr.of_below (S := fun _ => False) hba) HBW.out).below (fun _ _ e => e)⟩
            rw [HSL.out]
            rfl
end Go.Proofs.Yticgmfnidhlkjaa

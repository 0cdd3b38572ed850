/- What is proved: what the law's own lay does: each call of a Writer lays the bytes that belong to it. Conditions: the writer's bytes stay below 2^47. -/
import Derived.Test.YticgmfnidhlkjaaSam
import Derived.Laws.IdiomStrings
namespace Go.Proofs.Yticgmfnidhlkjaa
open Go.RowKit
set_option linter.unusedVariables false

theorem conv_bytes (w : World) (s : ByteArray) : ∃ A c W, (convert 9 25 (.string s)).run Try.prog w = .ok (.slice A s.data.toList.length c) W ∧ Lies W A (bytesV s.data.toList) ∧ Below w.heap.size w W := by
  have h := run_bytes_of_string (P := Try.prog) w 9 25 5 s Try.underlying9 Try.underlying25 Try.underlying5
  have hl : s.size = s.data.toList.length := by rw [Array.length_toList]; rfl
  rw [hl] at h
  refine ⟨_, _, _, h, .inr ⟨w.heap.size, 0, rfl, fun j u hu => ?_⟩, ((Below.refl _ _).drew).alloc (Nat.le_refl _) _⟩
  have hj : j < s.data.size := by
    have := (List.getElem?_eq_some_iff.1 hu).1
    rwa [bytesV_length, Array.length_toList] at this
  rw [Nat.zero_add]
  have e : ∀ C fr, (w.drew.alloc (.cells C 5 fr)).cell? ⟨w.heap.size, j, none⟩ = C[j]? := fun C fr => World.cell?_alloc_mark w.drew C 5 fr j
  rw [e, bytesRow_at _ _ _ hj, ← hu]
  unfold bytesV
  rw [List.getElem?_map, Array.getElem?_toList, Array.getElem?_eq_getElem hj]
  rfl

theorem WRaw_n (g : Nat) (v : Value) (xs ys : List UInt8) (A : Option Addr) (c N : Nat) (w : World) (hN : ys.length = N) (h : Wr w g v xs) (hy : Lies w A (bytesV ys)) (hb : xs.length + ys.length ≤ 140737488355328) :
    Calls Try.prog 29 #[.pointer (some ⟨g, 0, none⟩), .slice A N c] w (WPost w g v (xs ++ ys)) := by
  subst hN
  exact WRaw_any g v xs ys A c w h hy hb

theorem WSt.after {w w1 w2 : World} {g : Nat} {v v2 : Value} (h : Below w.heap.size w w1) (k : WSt w1 g v w2 v2) : WSt w g v w2 v2 :=
  ⟨(Fr.of_below h).trans k.fr (fun _ _ e => e), k.own.imp id fun ⟨b, hb, hl⟩ => ⟨b, hb, Nat.le_trans h.size hl⟩⟩

/-- What a call of a Writer lays. -/
def laidB (d n : Int) (s : List UInt8) : List UInt8 :=
  if d = 0 then [toB (n % 256)] else if d = 1 then hiB (n % 4294967296) 4 4 else if d = 2 then hiB n 8 8 else if d = 3 then varB n.toNat else if d = 4 then textB s else s
theorem laidB_length (d n : Int) (s : List UInt8) : (laidB d n s).length ≤ s.length + 10 := by
  unfold laidB
  split
  · simp
  · split
    · rw [hiB_length]; omega
    · split
      · rw [hiB_length]; omega
      · split
        · have := (varB_length n.toNat).2; omega
        · split
          · unfold textB; rw [List.length_append]; have := (varB_length s.length).2; omega
          · omega

set_option maxHeartbeats 4000000 in
theorem lay_any (g : Nat) (v : Value) (xs : List UInt8) (d n : Int) (s : ByteArray) (w : World) (h : Wr w g v xs) (hn0 : 0 ≤ n) (hn1 : n < 18446744073709551616) (hs : xs.length + s.size + 10 ≤ 140737488355328) :
    Calls Try.prog 9 #[.pointer (some ⟨g, 0, none⟩), .agg #[.int .i64 d, .int .u64 n, .string s]] w (WPost w g v (xs ++ laidB d n s.data.toList)) := by
  have hba : Below w.heap.size w (w.alloc (.cells #[.int .i64 d, .int .u64 n, .string s] 29)) := (Below.refl _ _).alloc (Nat.le_refl _) _
  have hwa := Lib.hid (h.below hba)
  by_cases e0 : d = 0
  · subst e0
    go_enter Try.func9, Try.ntmps9
    go_wp2_with (go_at_call 30; refine (WByte_any _ _ _ _ _ hwa.out (by omega) (by omega) (by omega)).mono ?_; rintro e w1 ⟨rfl, v1, r1, s1⟩)
    go_end0
    exact ⟨rfl, v1, r1, WSt.after hba s1⟩
  · by_cases e1 : d = 1
    · subst e1
      go_enter Try.func9, Try.ntmps9
      go_wp2_with (go_at_call 31; refine (WU32_any _ _ _ _ _ hwa.out (by omega) (by omega) (by omega)).mono ?_; rintro e w1 ⟨rfl, v1, r1, s1⟩)
      go_end0
      exact ⟨rfl, v1, r1, WSt.after hba s1⟩
    · by_cases e2 : d = 2
      · subst e2
        go_enter Try.func9, Try.ntmps9
        go_wp2_with (go_at_call 32; refine (WU64_any _ _ _ _ _ hwa.out (by omega) (by omega) (by omega)).mono ?_; rintro e w1 ⟨rfl, v1, r1, s1⟩)
        go_end0
        exact ⟨rfl, v1, r1, WSt.after hba s1⟩
      · by_cases e3 : d = 3
        · subst e3
          go_enter Try.func9, Try.ntmps9
          go_wp2_with (go_at_call 26; refine (WVar_any _ _ _ _ _ hwa.out (by omega) (by omega) (by omega)).mono ?_; rintro e w1 ⟨rfl, v1, r1, s1⟩)
          go_end0
          exact ⟨rfl, v1, r1, WSt.after hba s1⟩
        · by_cases e4 : d = 4
          · subst e4
            go_enter Try.func9, Try.ntmps9
            go_wp2_with (go_at_call 27; refine (WText_any _ _ _ _ _ hwa.out (by omega)).mono ?_; rintro e w1 ⟨rfl, v1, r1, s1⟩)
            go_end0
            exact ⟨rfl, v1, r1, WSt.after hba s1⟩
          · have hL : laidB d n s.data.toList = s.data.toList := by unfold laidB; rw [if_neg e0, if_neg e1, if_neg e2, if_neg e3, if_neg e4]
            have HLB := Lib.hid hL
            have hsl : s.data.toList.length = s.size := by rw [Array.length_toList]; rfl
            have HSL := Lib.hid hsl
            have b0 : (d == 0) = false := by simpa using e0
            have b1 : (d == 1) = false := by simpa using e1
            have b2 : (d == 2) = false := by simpa using e2
            have b3 : (d == 3) = false := by simpa using e3
            have b4 : (d == 4) = false := by simpa using e4
            obtain ⟨A, c, W, hconv, hlies, hbW⟩ := conv_bytes (w.alloc (.cells #[.int .i64 d, .int .u64 n, .string s] 29)) s
            have HLI := Lib.hid hlies
            have HBW := Lib.hid hbW
            clear hL e0 e1 e2 e3 e4 hlies hbW hsl
            go_enter Try.func9, Try.ntmps9
            go_wp2_with (go_at_call 29; refine (WRaw_n g v xs s.data.toList A c _ W (by first | exact HSL.out | (rw [HSL.out]; rfl) | simp) (hwa.out.below HBW.out) HLI.out (by rw [HSL.out]; omega)).mono ?_; rintro e w1 ⟨rfl, v1, r1, s1⟩)
            go_end0
            rw [HLB.out]
            exact ⟨rfl, v1, r1, WSt.after hba (WSt.after HBW.out s1)⟩
end Go.Proofs.Yticgmfnidhlkjaa

/- What is proved: the walk of the law BloomHashes, for every seed and text. Conditions: a seed of 32 bits. -/
import Derived.Test.YtgmohgofcjemkaaNw
namespace Go.Proofs.Ytgmohgofcjemkaa
open Go.RowKit Go.Shelf Go.Sort
set_option linter.unusedVariables false

set_option maxHeartbeats 1600000 in
set_option maxRecDepth 100000 in
theorem bloomHashes_walk (seed : Int) (hs0 : 0 ≤ seed) (hs1 : seed < 4294967296) (l : List UInt8) (hl : l.length ≤ 9223372036854775807) (w : World) :
    Calls Try.prog 3 #[.int .u32 seed, .string (strB l)] w fun e w' => e = .returned (.bool true) ∧ Below w.heap.size w w' := by
  have hsz := strB_size l
  have HW := Lib.hid works16_any
  have HA := Lib.hid (fun (h : l.length ≤ 2000) w => Hash_any seed hs0 hs1 l (by omega) w)
  have HB := Lib.hid (fun (h : l.length ≤ 2000) w => QbHash_any seed l (by omega) w)
  obtain ⟨S, hS⟩ : ∃ S, strB l = S := ⟨_, rfl⟩
  obtain ⟨n, hn⟩ : ∃ n, l.length = n := ⟨_, rfl⟩
  obtain ⟨V, hV⟩ : ∃ V, hashI seed l = V := ⟨_, rfl⟩
  rw [hS, hn] at hsz
  rw [hS, hn, hV] at HA HB
  rw [hS]
  rw [hn] at hl
  clear hS hn hV
  go_enter Try.func3, Try.ntmps3
  by_cases h : n ≤ 2000
  · have hz : ¬ (n : Int) > 2000 := by omega
    have HA2 := Lib.hid (HA.out h)
    have HB2 := Lib.hid (HB.out h)
    go_wp2_with (first
      | (go_at_call 8; refine (HA2.out _).mono ?_; rintro e w1 ⟨rfl, rfl⟩)
      | (go_at_call 9; refine (HB2.out _).mono ?_; rintro e w1 ⟨rfl, rfl⟩)
      | (go_at_call 7; refine (HW.out _).mono ?_; rintro e w2 ⟨rfl, hf⟩; have HF := Lib.hid hf; clear hf))
    go_ret
    exact ⟨rfl, HF.out.below (fun _ _ e => e)⟩
  · have hz : (n : Int) > 2000 := by omega
    go_wp2_with (go_at_call 7; refine (HW.out _).mono ?_; rintro e w2 ⟨rfl, hf⟩; have HF := Lib.hid hf; clear hf)
    go_ret
    exact ⟨rfl, HF.out.below (fun _ _ e => e)⟩
end Go.Proofs.Ytgmohgofcjemkaa

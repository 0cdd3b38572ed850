/- What is proved: the walk of the law BloomAsks, for every filter and text. Conditions: the filter's cells are there. -/
import Derived.Test.YtgmohgofcjemkaaNw
namespace Go.Proofs.Ytgmohgofcjemkaa
open Go.RowKit Go.Shelf Go.Sort
set_option linter.unusedVariables false

set_option maxHeartbeats 3200000 in
set_option maxRecDepth 100000 in
theorem bloomAsks_walk (A : Option Addr) (c : Nat) (f : List UInt8) (key : List UInt8) (w : World) (hA : Lies w A (bytesV f)) :
    Calls Try.prog 5 #[.slice A f.length c, .string (strB key)] w fun e w' => e = .returned (.bool true) ∧ Below w.heap.size w w' := by
  have HW := Lib.hid works16_any
  have hsz := strB_size key
  by_cases hfit : f.length ≤ 1000 ∧ key.length ≤ 200
  · obtain ⟨hf, hkl⟩ := hfit
    have HQ := Lib.hid (fun w' (q : Fr (fun _ => False) w w') => QbHas_any A c f key (by omega) (by omega) w' (hA.fr q (fun _ _ e => e)))
    have HH := Lib.hid (fun w' (q : Fr (fun _ => False) w w') => Has_any A c f key (by omega) (by omega) w' (hA.fr q (fun _ _ e => e)))
    have HB := Lib.hid (fun w' (q : Fr (fun _ => False) w w') => Bits_any A c f (by omega) w' (hA.fr q (fun _ _ e => e)))
    rw [← popB_cnt] at HB
    have HBt := Lib.hid (fun k (h : k < 8 * f.length) => QbBit_any A c f k (by omega) h w hA)
    have HCs := Lib.hid (cntB_succ f)
    have HCl := Lib.hid (cntB_le f)
    have HC0 : Hid (cntB f 0 = 0) := Lib.hid rfl
    obtain ⟨V, hV⟩ : ∃ V, hasB f key = V := ⟨_, rfl⟩
    rw [hV] at HQ HH
    obtain ⟨bt, hbt⟩ : ∃ bt, bitB f = bt := ⟨_, rfl⟩
    rw [hbt] at HBt HCs
    obtain ⟨S, hS⟩ : ∃ S, strB key = S := ⟨_, rfl⟩
    rw [hS] at hsz HQ HH
    rw [hS]
    obtain ⟨z, hzz⟩ : ∃ z, key.length = z := ⟨_, rfl⟩
    rw [hzz] at hsz hkl
    obtain ⟨n, hn⟩ : ∃ n, f.length = n := ⟨_, rfl⟩
    rw [hn] at hf HQ HH HB HBt ⊢
    have HF0 := Lib.hid (Fr.refl (fun _ => False) w)
    have hz1 : ¬ (n : Int) > 1000 := by omega
    have hz2 : ¬ (z : Int) > 200 := by omega
    have h8 : IntKind.i64.wrap (8 * (n : Int)) = 8 * (n : Int) := by rw [IntKind.wrap_i64]; omega
    have h8b : wrap64 (8 * (n : Int)) = 8 * (n : Int) := by unfold wrap64; omega
    clear hA hV hbt hS hzz hn
    go_enter Try.func5, Try.ntmps5
    go_wp2
    go_loopg [5, 6] (8 * n) (fun kx s5 s6 wr => ∃ k : Nat, s5 = .int .i64 (cntB f k : Nat) ∧ s6 = .int .i64 k ∧ k ≤ 8 * n ∧ 8 * n - k ≤ kx ∧ w = wr)
    case atStart => exact ⟨0, by rw [HC0.out]; rfl, rfl, by omega, by omega, rfl⟩
    case round =>
      obtain ⟨k, rfl, rfl, hk8, hkx, rfl⟩ := hrel
      have wk := wrap_nat1 k (by omega)
      by_cases hlt : k < 8 * n
      · have hltz : (k : Int) < 8 * (n : Int) := by omega
        have HBk := Lib.hid (HBt.out k hlt)
        have hcs := HCs.out k
        have hcl := HCl.out k
        obtain ⟨C, hC⟩ : ∃ C, cntB f k = C := ⟨_, rfl⟩
        rw [hC] at hcs hcl ⊢
        have wC := wrap_nat1 C (by omega)
        cases hb9 : bt k with
        | true =>
          rw [hb9] at HBk hcs
          have HC1 := Lib.hid hcs
          clear hb9 hcs hC
          go_wp2_with (go_at_call 14; refine HBk.out.mono ?_; rintro e w2 ⟨rfl, rfl⟩)
          go_roundg (8 * n - (k + 1))
          case measure => omega
          case rel => exact ⟨k + 1, by rw [HC1.out]; simp, by go_num, by omega, Nat.le_refl _, rfl⟩
        | false =>
          rw [hb9] at HBk hcs
          have HC1 := Lib.hid hcs
          clear hb9 hcs hC
          go_wp2_with (go_at_call 14; refine HBk.out.mono ?_; rintro e w2 ⟨rfl, rfl⟩)
          go_roundg (8 * n - (k + 1))
          case measure => omega
          case rel => exact ⟨k + 1, by rw [HC1.out]; simp, by go_num, by omega, Nat.le_refl _, rfl⟩
      · obtain rfl : k = 8 * n := by omega
        have hnl : ¬ ((8 * n : Nat) : Int) < 8 * (n : Int) := by omega
        have HH2 := Lib.hid (HH.out w HF0.out)
        obtain ⟨C, hC⟩ : ∃ C, cntB f (8 * n) = C := ⟨_, rfl⟩
        rw [hC] at HB ⊢
        clear hC
        go_wp2_with (first
          | (go_at_call 15; refine HH2.out.mono ?_; rintro e w2 ⟨rfl, hf2⟩; have HF2 := Lib.hid hf2; have HQ2 := Lib.hid (HQ.out w2 hf2); clear hf2)
          | (go_at_call 16; refine HQ2.out.mono ?_; rintro e w3 ⟨rfl, hf3⟩; have HF3 := Lib.hid (show Fr (fun _ => False) w w3 from HF2.out.trans hf3 (fun _ _ e => e)); have HB3 := Lib.hid (HB.out w3 HF3.out); clear hf3)
          | (go_at_call 17; refine HB3.out.mono ?_; rintro e w9 ⟨rfl, rfl⟩)
          | (go_at_call 7; refine (HW.out _).mono ?_; rintro e w5 ⟨rfl, hf⟩; have HF5 := Lib.hid hf; clear hf))
        go_ret
        exact ⟨rfl, (HF3.out.trans HF5.out (fun _ _ e => e)).below (fun _ _ e => e)⟩
  · obtain ⟨S, hS⟩ : ∃ S, strB key = S := ⟨_, rfl⟩
    rw [hS] at hsz ⊢
    obtain ⟨z, hzz⟩ : ∃ z, key.length = z := ⟨_, rfl⟩
    rw [hzz] at hsz hfit
    obtain ⟨n, hn⟩ : ∃ n, f.length = n := ⟨_, rfl⟩
    rw [hn] at hfit ⊢
    clear hA hS hzz hn
    go_enter Try.func5, Try.ntmps5
    by_cases h1 : 1000 < n
    · have hz1 : (n : Int) > 1000 := by omega
      go_wp2_with (go_at_call 7; refine (HW.out _).mono ?_; rintro e w2 ⟨rfl, hf⟩; have HF := Lib.hid hf; clear hf)
      go_ret
      exact ⟨rfl, HF.out.below (fun _ _ e => e)⟩
    · have hz1 : ¬ (n : Int) > 1000 := by omega
      have hz2 : (z : Int) > 200 := by omega
      go_wp2_with (go_at_call 7; refine (HW.out _).mono ?_; rintro e w2 ⟨rfl, hf⟩; have HF := Lib.hid hf; clear hf)
      go_ret
      exact ⟨rfl, HF.out.below (fun _ _ e => e)⟩
end Go.Proofs.Ytgmohgofcjemkaa

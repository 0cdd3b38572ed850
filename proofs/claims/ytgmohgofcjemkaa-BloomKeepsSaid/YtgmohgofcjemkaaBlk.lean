/- What is proved: the walk of the law BloomKeeps, for every list of texts. Conditions: the list's cells are there. -/
import Derived.Test.YtgmohgofcjemkaaNw
namespace Go.Proofs.Ytgmohgofcjemkaa
open Go.RowKit Go.Shelf Go.Sort
set_option linter.unusedVariables false

theorem popB_all (f : List UInt8) : popB f ≤ 8 * f.length := by
  have := popB_le f f.length (Nat.le_refl _)
  rwa [List.take_length] at this
set_option maxHeartbeats 3200000 in
set_option maxRecDepth 100000 in
theorem bloomKeeps_walk (A : Option Addr) (c : Nat) (l : List (List UInt8)) (hb : l.length ≤ 9223372036854775807) (w : World) (hA : Lies w A (strM l)) :
    Calls Try.prog 6 #[.slice A l.length c] w fun e w' => e = .returned (.bool true) ∧ Below w.heap.size w w' := by
  have HW := Lib.hid works16_any
  have HLa := Lib.hid (large16_any A c l hb w hA)
  by_cases hfit : Fit16 l
  · rw [decide_eq_true hfit] at HLa
    have hl260 := hfit.1
    have HLt := Lib.hid (fun (p : List UInt8) hp => show p.length ≤ 4611686018427387904 from by have := hfit.2 p hp; omega)
    have HM := Lib.hid (Make_any A c l (by omega) HLt.out w hA)
    have hml := mkF_len l
    have HHs := Lib.hid (fun A1 c1 w' (h1 : Lies w' A1 (bytesV (mkF l))) k (hk : k < l.length) => show Calls Try.prog 15 #[.slice A1 (mkF l).length c1, .string (strB (l.getD k []))] w' fun e w2 => e = .returned (.bool true) ∧ Fr (fun _ => False) w' w2 from by
      have hm : l.getD k [] ∈ l := by rw [List.getD_eq_getElem?_getD, List.getElem?_eq_getElem hk]; exact List.getElem_mem hk
      have := Has_any A1 c1 (mkF l) (l.getD k []) (by omega) (HLt.out _ hm) w' h1
      rwa [mkF_has hm] at this)
    have HBs := Lib.hid (fun A1 c1 w' (h1 : Lies w' A1 (bytesV (mkF l))) => Bits_any A1 c1 (mkF l) (by omega) w' h1)
    have hpb := popB_all (mkF l)
    have HLs := Lib.hid (fun (h0 : 0 < l.length) => lies_nameM hA (Fr.refl _ w) h0)
    obtain ⟨F, hF⟩ : ∃ F, mkF l = F := ⟨_, rfl⟩
    rw [hF] at HM HHs HBs hml hpb
    obtain ⟨m, hm⟩ : ∃ m, F.length = m := ⟨_, rfl⟩
    rw [hm] at HHs HBs hml hpb
    have HMl := Lib.hid hm
    obtain ⟨P, hP⟩ : ∃ P, popB F = P := ⟨_, rfl⟩
    rw [hP] at HBs hpb
    obtain ⟨n, hn⟩ : ∃ n, l.length = n := ⟨_, rfl⟩
    rw [hn] at hb HLa hl260 HM HHs HLs ⊢
    obtain ⟨hm0, hm1⟩ := hml
    have hmz : (m : Int) > 0 := by omega
    have h8 : IntKind.i64.wrap (8 * (m : Int)) = 8 * (m : Int) := by rw [IntKind.wrap_i64]; omega
    have h8b : wrap64 (8 * (m : Int)) = 8 * (m : Int) := by unfold wrap64; omega
    have hpz : (P : Int) ≤ 8 * (m : Int) := by omega
    clear hn hF hm hP hA hfit HLt hpb
    go_enter Try.func6, Try.ntmps6
    go_wp2_with (first
      | (go_at_call 10; refine HLa.out.mono ?_; rintro e w1 ⟨rfl, rfl⟩)
      | (go_at_call 13; refine HM.out.mono ?_; rintro e w2 ⟨v, rfl, ho⟩
         obtain ⟨A1, c1, hv1, _, hli⟩ := ho.slice
         rw [HMl.out] at hv1
         subst hv1
         have HF2 := Lib.hid ho.2
         have HL1 := Lib.hid hli
         clear ho hli))
    go_loopg [4] n (fun kx s4 wr => ∃ k : Nat, s4 = .int .i64 k ∧ k ≤ n ∧ n - k ≤ kx ∧ Hid (Fr (fun _ => False) w2 wr))
    case atStart => exact ⟨0, rfl, by omega, by omega, Lib.hid (Fr.refl _ _)⟩
    case round =>
      obtain ⟨k, rfl, hk, hkx, HFr⟩ := hrel
      obtain ⟨wo, rfl⟩ : ∃ wo, wo = wr := ⟨wr, rfl⟩
      by_cases hlt : k < n
      · have hltz : (k : Int) < (n : Int) := by omega
        have hk0 : (0 : Int) ≤ (k : Int) := by omega
        have wk := wrap_nat1 k (by omega)
        obtain ⟨b, o, hA, hc⟩ := HLs.out (by omega)
        subst hA
        have cx := HFr.out.cell (HF2.out.cell (hc k hlt) (fun e => e)) (fun e => e)
        have HH2 := Lib.hid (HHs.out A1 c1 wo (HL1.out.fr HFr.out (fun _ _ e => e)) k hlt)
        obtain ⟨S, hS⟩ : ∃ S, strB (l.getD k []) = S := ⟨_, rfl⟩
        rw [hS] at cx HH2
        clear hc hS
        go_wp2_with (go_at_call 15; refine HH2.out.mono ?_; rintro e w3 ⟨rfl, hf3⟩; have HF3 := Lib.hid (show Fr (fun _ => False) w2 w3 from HFr.out.trans hf3 (fun _ _ e => e)); clear hf3)
        go_roundg (n - (k + 1))
        case measure => omega
        case rel => exact ⟨k + 1, by go_num, by omega, Nat.le_refl _, HF3⟩
      · obtain rfl : k = n := by omega
        have HB2 := Lib.hid (HBs.out A1 c1 wo (HL1.out.fr HFr.out (fun _ _ e => e)))
        go_wp2_with (first
          | (go_at_call 17; refine HB2.out.mono ?_; rintro e w9 ⟨rfl, rfl⟩)
          | (go_at_call 7; refine (HW.out _).mono ?_; rintro e w5 ⟨rfl, hf⟩; have HF5 := Lib.hid hf; clear hf))
        go_ret
        exact ⟨rfl, ((HF2.out.trans HFr.out (fun _ _ e => e)).trans HF5.out (fun _ _ e => e)).below (fun _ _ e => e)⟩
  · rw [decide_eq_false hfit] at HLa
    clear hfit hA
    go_enter Try.func6, Try.ntmps6
    go_wp2_with (first
      | (go_at_call 10; refine HLa.out.mono ?_; rintro e w1 ⟨rfl, rfl⟩)
      | (go_at_call 7; refine (HW.out _).mono ?_; rintro e w2 ⟨rfl, hf⟩; have HF := Lib.hid hf; clear hf))
    go_ret
    exact ⟨rfl, HF.out.below (fun _ _ e => e)⟩
end Go.Proofs.Ytgmohgofcjemkaa

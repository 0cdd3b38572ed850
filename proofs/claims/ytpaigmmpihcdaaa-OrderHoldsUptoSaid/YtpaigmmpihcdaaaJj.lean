/- What is proved: the library's BinarySearchFunc at a list by age. Conditions: the list's and the numbers' cells are there. -/
import Derived.Test.YtpaigmmpihcdaaaJi
namespace Go.Proofs.Ytpaigmmpihcdaaa
open Go.RowKit Go.Shelf
set_option linter.unusedVariables false

structure HalfA (t : Nat → Int) (l : List Nat) (x p : Nat) : Prop where
  le : p ≤ l.length
  lo : ∀ i, i < p → old t (l.getD i 0) x
  hi : ∀ i, p ≤ i → i < l.length → ¬ old t (l.getD i 0) x

set_option maxHeartbeats 3200000 in
set_option maxRecDepth 100000 in
theorem GnBSearchF_any (gb : Nat) (B : Option Addr) (nb cB : Nat) (by' : List Int) (A : Option Addr) (c : Nat) (l : List Nat) (x : Nat) (hb : by'.length = nb) (hl : l.length ≤ 1000) (hln : ∀ y ∈ l, y < nb) (hx : x < nb) (hr : l.Pairwise (old (fun n => by'.getD n 0))) (w : World) (h : Lies w A (nC l)) (hc : w.cell? ⟨gb, 0, none⟩ = some (.slice B nb cB)) (hby : Lies w B (zC by')) :
    Calls Try.prog 40 #[.slice A l.length c, .int .i64 x, .func (.func 37) #[] #[.pointer (some ⟨gb, 0, none⟩)]] w fun e w' => ∃ (p : Nat) (b : Bool), e = .returned (.tuple #[.int .i64 (p : Nat), .bool b]) ∧ HalfA (fun n => by'.getD n 0) l x p ∧ Fr (fun _ => False) w w' := by
  have HL := Lib.hid (fun w1 (f : Fr (fun _ => False) w w1) k hk => lies_nat h f k hk)
  have HA := Lib.hid (fun w1 (f : Fr (fun _ => False) w w1) i (hi : i < l.length) => Orages1_any gb B nb cB by' (l.getD i 0) x hb (hln _ (by rw [List.getD_eq_getElem?_getD, List.getElem?_eq_getElem hi]; exact List.getElem_mem hi)) hx w1 (f.cell hc (fun e => e)) (hby.fr f (fun _ _ e => e)))
  obtain ⟨t, ht⟩ : ∃ t : Nat → Int, (fun n => by'.getD n 0) = t := ⟨_, rfl⟩
  rw [ht] at hr HA ⊢
  have HRS : Hid (∀ i j, i < j → j < l.length → old t (l.getD i 0) (l.getD j 0)) := Lib.hid (fun i j h1 h2 => by
    rw [List.getD_eq_getElem?_getD, List.getD_eq_getElem?_getD, List.getElem?_eq_getElem (by omega), List.getElem?_eq_getElem h2]
    exact List.pairwise_iff_getElem.1 hr i j (by omega) h2 h1)
  obtain ⟨m, hm⟩ : ∃ m, l.length = m := ⟨_, rfl⟩
  have HM := Lib.hid hm
  rw [hm] at hl HL HRS HA ⊢
  clear h hr hm ht hc hby hb hln hx
  go_enter Try.func40, Try.ntmps40
  go_wp2_with fail
  go_loopg [9, 10] m (fun kx s9 s10 wr => ∃ lo hi : Nat, s9 = .int .i64 lo ∧ s10 = .int .i64 hi ∧ lo ≤ hi ∧ hi ≤ m ∧ hi - lo ≤ kx ∧ Hid (Fr (fun _ => False) w wr) ∧ Hid ((∀ i, i < lo → old t (l.getD i 0) x) ∧ (∀ i, hi ≤ i → i < m → ¬ old t (l.getD i 0) x)))
  case atStart => exact ⟨0, m, rfl, rfl, by omega, by omega, by omega, Lib.hid (Fr.refl _ _), Lib.hid ⟨fun t ht => by omega, fun t h1 h2 => by omega⟩⟩
  case round =>
    obtain ⟨lo, hi, rfl, rfl, hlh, him, hkx, HF, HI⟩ := hrel
    obtain ⟨wo, rfl⟩ : ∃ wo, wo = wr := ⟨wr, rfl⟩
    by_cases hlt : lo < hi
    · have hltz : (lo : Int) < (hi : Int) := by omega
      obtain ⟨k, hk⟩ : ∃ k, (lo + hi) / 2 = k := ⟨_, rfl⟩
      have hkm : k < m := by omega
      have hkz : ((lo : Int) + (hi : Int)) / 2 = (k : Int) := by omega
      have hkmz : (k : Int) < (m : Int) := by omega
      have hk0 : (0 : Int) ≤ (k : Int) := by omega
      obtain ⟨b, o, rfl, hc⟩ := HL.out wo HF.out k hkm
      have HQ := Lib.hid (HA.out wo HF.out k hkm)
      obtain ⟨y, hy⟩ : ∃ y, l.getD k 0 = y := ⟨_, rfl⟩
      rw [hy] at hc HQ
      have HY := Lib.hid hy
      have hwk1 : IntKind.i64.wrap ((k : Int) + 1) = (k : Int) + 1 := by rw [IntKind.wrap_i64]; omega
      have hws : IntKind.i64.wrap ((lo : Int) + (hi : Int)) = (lo : Int) + (hi : Int) := by rw [IntKind.wrap_i64]; omega
      have HK1 : Hid (lo ≤ k ∧ k < hi) := Lib.hid (by omega)
      have HAg := Lib.hid (age_old t y x)
      obtain ⟨v, hv⟩ : ∃ v, ageV t y x = v := ⟨_, rfl⟩
      rw [hv] at HQ HAg
      clear hy hk hv
      by_cases hyx : v < 0
      · have HYX := Lib.hid (HAg.out.1 hyx)
        go_wp2_with (go_at_call 37; refine HQ.out.mono ?_; rintro e w' ⟨rfl, hf⟩; have HF1 := Lib.hid (HF.out.trans hf (fun _ _ e => e)); clear hf)
        go_roundg (hi - (k + 1))
        case measure => have := HK1.out; omega
        case rel => exact ⟨k + 1, hi, by go_num, rfl, by have := HK1.out; omega, him, Nat.le_refl _, HF1, Lib.hid ⟨fun i hi2 => (by omega : i < k ∨ i = k).elim (fun h1 => by have := HRS.out i k h1 hkm; rw [HY.out] at this; exact old_trans this HYX.out) (fun e => by subst e; rw [HY.out]; exact HYX.out), HI.out.2⟩⟩
      · have HYX := Lib.hid (fun q => hyx (HAg.out.2 q))
        go_wp2_with (go_at_call 37; refine HQ.out.mono ?_; rintro e w' ⟨rfl, hf⟩; have HF1 := Lib.hid (HF.out.trans hf (fun _ _ e => e)); clear hf)
        go_roundg (k - lo)
        case measure => have := HK1.out; omega
        case rel => exact ⟨lo, k, rfl, by go_num, by have := HK1.out; omega, by omega, Nat.le_refl _, HF1, Lib.hid ⟨HI.out.1, fun i h1 h2 => (by omega : k < i ∨ i = k).elim (fun h3 q => by have := HRS.out k i h3 h2; rw [HY.out] at this; exact HYX.out (old_trans this q)) (fun e => by subst e; rw [HY.out]; exact HYX.out)⟩⟩
    · obtain rfl : lo = hi := by omega
      have hltz : ¬ ((lo : Int) < (lo : Int)) := by omega
      have HH : Hid (HalfA t l x lo) := Lib.hid ⟨by rw [HM.out]; exact him, HI.out.1, fun i h1 h2 => HI.out.2 i h1 (by rw [← HM.out]; exact h2)⟩
      by_cases hlm : lo < m
      · have hlmz : (lo : Int) < (m : Int) := by omega
        have hdz : decide ((lo : Int) < (m : Int)) = true := decide_eq_true hlmz
        obtain ⟨b, o, rfl, hc⟩ := HL.out wo HF.out lo hlm
        have HQ := Lib.hid (HA.out wo HF.out lo hlm)
        obtain ⟨y, hy⟩ : ∃ y, l.getD lo 0 = y := ⟨_, rfl⟩
        rw [hy] at hc HQ
        obtain ⟨v, hv⟩ : ∃ v, ageV t y x = v := ⟨_, rfl⟩
        rw [hv] at HQ
        clear hy hv
        go_wp2_with (go_at_call 37; refine HQ.out.mono ?_; rintro e w' ⟨rfl, hf⟩; have HF1 := Lib.hid (HF.out.trans hf (fun _ _ e => e)); clear hf)
        go_ret2
        exact ⟨lo, _, rfl, HH.out, HF1.out⟩
      · have hlmz : ¬ ((lo : Int) < (m : Int)) := by omega
        have hdz : decide ((lo : Int) < (m : Int)) = false := decide_eq_false hlmz
        go_wp2
        go_ret2
        exact ⟨lo, .inl rfl, HH.out, HF.out⟩
end Go.Proofs.Ytpaigmmpihcdaaa

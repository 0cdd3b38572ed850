/- What is proved: plain facts on ids that begin alike: those that fit stand from one place up to another one; as many digits as tell an id from all others fit it alone; the beginning that is read of its first digits. Conditions: none; no program is walked. -/
import Derived.Test.YtbfbgopbelmghaaOka
namespace Go.Proofs.Ytbfbgopbelmghaa
open Go.RowKit
set_option linter.unusedVariables false

theorem found_some (L : Nat) (p : Nat → Bool) : ∃ m, Found L p m := by
  refine ⟨(List.range L).findIdx p, ?_, fun i hi => ?_, fun h => ?_⟩
  · have : (List.range L).findIdx p ≤ (List.range L).length := List.findIdx_le_length
    rwa [List.length_range] at this
  · have := List.not_of_lt_findIdx (p := p) (xs := List.range L) (i := i) hi
    simpa using this
  · have := List.findIdx_getElem (p := p) (xs := List.range L) (w := by rw [List.length_range]; exact h)
    simpa using this
theorem range_fit (ns : List Nat) (a : Nat) (N : Int) (hr : ris ns) (i : Nat) (hi : i < ns.length) : fitB a N (gt ns i) = decide (rgA ns a N ≤ i ∧ i < rgB ns a N) ∧ rgB ns a N ≤ ns.length := by
  by_cases hright : rightB a N = true
  · have hrb := (risB_iff ns).2 hr
    rw [rgA, rgB, if_pos ⟨hright, hrb⟩, if_pos ⟨hright, hrb⟩]
    obtain ⟨m, hm⟩ := found_some (ns.length - posN ns a) (fun i => !fitB a N (gt ns (posN ns a + i)))
    have hc := range_count ns a N m hr hm
    rw [hc]
    have hp := pos_le ns a
    have hle := hm.le
    refine ⟨?_, by omega⟩
    by_cases c : posN ns a ≤ i ∧ i < posN ns a + m
    · rw [decide_eq_true c]
      have := hm.below (i - posN ns a) (by omega)
      simpa [show posN ns a + (i - posN ns a) = i by omega] using this
    · rw [decide_eq_false c]
      cases hf : fitB a N (gt ns i) with
      | false => rfl
      | true =>
        exfalso
        have h1 := fit_ge hf
        rcases Nat.lt_or_ge i (posN ns a) with h2 | h2
        · have := pos_below ns a i h2
          omega
        · have h3 := hm.here (by omega)
          have h4 : gt ns (posN ns a + m) ≤ gt ns i := by
            rcases Nat.lt_or_ge (posN ns a + m) i with h5 | h5
            · exact Nat.le_of_lt (hr _ _ h5 hi)
            · rw [show i = posN ns a + m by omega]
              exact Nat.le_refl _
          have h5 := fit_between hf (pos_above' ns hr a (posN ns a + m) (by omega) (by omega)) h4
          rw [h5] at h3
          cases h3
  · have hright' : rightB a N = false := by simpa using hright
    rw [rgA, rgB, if_neg (fun h => hright h.1), if_neg (fun h => hright h.1), fitB_not a N _ hright']
    exact ⟨(decide_eq_false (by omega)).symm, by omega⟩
theorem has_at (ns : List Nat) (hr : ris ns) (k : Nat) (hk : k < ns.length) : fHas ns (gt ns k) = true := by
  rw [fHas, (risB_iff ns).2 hr, Bool.true_and, hasN, decide_eq_true_eq]
  have e := pos_unique ns (gt ns k) k (by omega) (fun i hi => hr i k hi hk) (fun _ => Nat.le_refl _)
  rw [e]
  exact ⟨hk, rfl⟩
theorem short_alone (ns : List Nat) (x : Nat) (least : Int) (hh : fHas ns x = true) : loN least ≤ shortN ns x least ∧ shortN ns x least ≤ 64 ∧ aloneB ns x (shortN ns x least) = true := by
  have hlo := lo_le least
  rw [shortN, if_pos hh]
  obtain ⟨m, hm⟩ := found_some (64 - loN least) (fun j => aloneB ns x (loN least + j))
  have e : (List.range (64 - loN least)).findIdx (fun j => aloneB ns x (loN least + j)) = m := first_unique _ m _ hm.le hm.below hm.here
  rw [e]
  have := hm.le
  refine ⟨by omega, by omega, ?_⟩
  rcases Nat.lt_or_ge m (64 - loN least) with h | h
  · exact hm.here h
  · rw [show loN least + m = 64 by omega, aloneB, List.all_eq_true]
    intro y _
    rw [alike_all]
    by_cases e : y = x
    · simp [e]
    · simp [Ne.symm e]
theorem right_cut (y n : Nat) (hy : y < big) (hn : n ≤ 64) : rightB (nu (cutD y n)) n = true := by
  rw [rightB, decide_eq_true_eq, Int.toNat_natCast, nu_cutD y n hy hn]
  exact ⟨by omega, by omega, by rw [RightN, Nat.mul_mod_left]⟩
theorem fit_cut (y x n : Nat) (hy : y < big) (hn : n ≤ 64) : fitB (nu (cutD y n)) n x = alikeB y x n := by
  have h0 : 0 < 16 ^ (64 - n) := Nat.pow_pos (by decide)
  rw [fitB, alikeB, Bool.eq_iff_iff, decide_eq_true_eq, decide_eq_true_eq, Int.toNat_natCast, FitN, nu_cutD y n hy hn, RightN, Nat.mul_mod_left, Nat.mul_div_cancel _ h0]
  exact ⟨fun h => h.2.2.2, fun h => ⟨by omega, by omega, rfl, h⟩⟩
theorem beside (ns : List Nat) (hr : ris ns) (hb : ∀ n ∈ ns, n < big) (k : Nat) (hk : k < ns.length) (n : Nat) (hn : n ≤ 64) (ha : aloneB ns (gt ns k) n = true) : rgA ns (nu (cutD (gt ns k) n)) n = k ∧ rgB ns (nu (cutD (gt ns k) n)) n = k + 1 := by
  have hy := hb _ (gt_mem ns k hk)
  have hf := fun i hi => (range_fit ns (nu (cutD (gt ns k) n)) n hr i hi).1
  have hle := (range_fit ns (nu (cutD (gt ns k) n)) n hr k hk).2
  have hone : ∀ i, i < ns.length → fitB (nu (cutD (gt ns k) n)) n (gt ns i) = decide (i = k) := fun i hi => by
    rw [fit_cut _ _ n hy hn]
    by_cases e : i = k
    · subst e
      rw [decide_eq_true rfl, alikeB, decide_eq_true_eq]
    · rw [decide_eq_false e]
      rw [aloneB, List.all_eq_true] at ha
      have h1 := ha _ (gt_mem ns i hi)
      have hne : gt ns i ≠ gt ns k := fun e2 => by
        rcases Nat.lt_or_ge i k with h | h
        · have := hr i k h hk; omega
        · have := hr k i (by omega) hi; omega
      rw [beq_eq_false_iff_ne.2 hne, Bool.false_or] at h1
      simpa using h1
  generalize rgA ns (nu (cutD (gt ns k) n)) n = A at hf hle ⊢
  generalize rgB ns (nu (cutD (gt ns k) n)) n = B at hf hle ⊢
  have hkk : A ≤ k ∧ k < B := by
    have := hf k hk
    rw [hone k hk, decide_eq_true rfl] at this
    exact of_decide_eq_true this.symm
  have hno : ∀ i, i < ns.length → i ≠ k → ¬ (A ≤ i ∧ i < B) := fun i hi hne => by
    have := hf i hi
    rw [hone i hi, decide_eq_false hne] at this
    exact of_decide_eq_false this.symm
  constructor
  · rcases Nat.lt_or_ge A k with h | h
    · exact absurd ⟨Nat.le_refl _, by omega⟩ (hno A (by omega) (by omega))
    · omega
  · rcases Nat.lt_or_ge (k + 1) B with h | h
    · exact absurd ⟨by omega, h⟩ (hno (k + 1) (by omega) (by omega))
    · omega

/-- The first n digits' text. -/
def cutS (D : Nat → Nat) (n : Nat) : ByteArray := (hexS D).extract 0 n
theorem hexS_len (D : Nat → Nat) : (hexS D).size = 64 := by
  show (hexB D 64).toArray.size = 64
  simp [hexB]
theorem cutS_size (D : Nat → Nat) (n : Nat) (hn : n ≤ 64) : (cutS D n).size = n := by
  rw [cutS, ByteArray.size_extract, hexS_len]; omega
theorem chr_cutS (D : Nat → Nat) (n k : Nat) (hn : n ≤ 64) (hk : k < n) : chr (cutS D n) k = figs.getD (D k) 0 := by
  have e : (cutS D n).data.toList = (hexB D 64).take n := by
    rw [cutS, ByteArray.data_extract, Array.toList_extract, List.extract, List.drop_zero, Nat.sub_zero]
    rfl
  rw [chr, e, List.getD_eq_getElem?_getD, List.getElem?_take_of_lt hk, hexB, List.getElem?_map, List.getElem?_range (by omega)]
  rfl
theorem beg_cut (y n : Nat) (hn : n ≤ 64) : begE (cutS (dgt y) n) = 0 ∧ pfC (begA (cutS (dgt y) n)) (begN (cutS (dgt y) n)) = pfC (dgt (nu (cutD y n))) n := by
  have hs := cutS_size (dgt y) n hn
  have hok : okTo (cutS (dgt y) n) (cutS (dgt y) n).size := fun k hk => by
    rw [hs] at hk
    rw [chr_cutS _ n k hn hk, wv_at _ (dgt_lt y k)]
    omega
  obtain ⟨e1, e2⟩ := beg_ok (cutS (dgt y) n) (by rw [hs]; omega) hok
  refine ⟨e1, ?_⟩
  rw [e2, begA, e2, hs]
  refine (pfC_congr _ _ _ (fun k hk => ?_)).trans (pfC_congr _ _ _ (fun k hk => (dgt_nu (cutD y n) (cutD_lt y n) k hk).symm))
  rcases Nat.lt_or_ge k n with h | h
  · rw [begD_at _ _ k h, chr_cutS _ n k hn h, wv_at _ (dgt_lt y k), Int.toNat_natCast, cutD, if_pos h]
  · rw [begD_ge _ _ k h, cutD, if_neg (by omega)]
end Go.Proofs.Ytbfbgopbelmghaa

/- What is proved: what Find tells of rising ids and their fan-out, plainly. Conditions: the ids rise, and are ids. -/
import Derived.Test.YtgbhdjncccmabaaDoorIxr
import Derived.Test.YtgbhdjncccmabaaDoorIxt
namespace Go.Proofs.YtgbhdjncccmabaaDoor
open Go.RowKit
set_option linter.unusedVariables false

theorem b0_div (n : Nat) (h : n < big) : b0 n = n / 2 ^ 248 := by
  unfold b0
  rw [dgt_byt n 0 (by decide)]
  have h2 : n < 2 ^ 248 * 256 := by have : n < 2 ^ 256 := h; rw [show (2 : Nat) ^ 248 * 256 = 2 ^ 256 from by rw [show (256 : Nat) = 2 ^ 8 from rfl, ← Nat.pow_add]]; exact this
  have : n / 2 ^ 248 < 256 := Nat.div_lt_of_lt_mul h2
  rw [show 8 * (31 - 0) = 248 from rfl]
  exact Nat.mod_eq_of_lt this
theorem b0_mono {a b : Nat} (ha : a < big) (hb : b < big) (h : a ≤ b) : b0 a ≤ b0 b := by
  rw [b0_div a ha, b0_div b hb]
  exact Nat.div_le_div_right h
theorem fan_at {ns : List Nat} (hr : ris ns) (hb : ∀ n ∈ ns, n < big) (c : Nat) (i : Nat) (hi : i < ns.length) : b0 (gt ns i) ≤ c ↔ i < fanN ns c := by
  obtain ⟨m, hm, hP⟩ : ∃ m, m ≤ ns.length ∧ ∀ i, i < ns.length → (b0 (gt ns i) ≤ c ↔ i < m) := by
    refine ⟨ns.findIdx fun n => decide (¬ b0 n ≤ c), List.findIdx_le_length, fun i hi => ⟨fun h => ?_, fun h => ?_⟩⟩
    · refine Decidable.byContradiction (fun hc => ?_)
      have hlt : ns.findIdx (fun n => decide (¬ b0 n ≤ c)) < ns.length := by omega
      have h1 := List.findIdx_getElem (w := hlt)
      simp only [decide_not, Bool.not_eq_true', decide_eq_false_iff_not] at h1
      have e1 : gt ns (ns.findIdx fun n => decide (¬ b0 n ≤ c)) = ns[ns.findIdx fun n => decide (¬ b0 n ≤ c)] := by
        rw [gt, List.getD_eq_getElem?_getD, List.getElem?_eq_getElem hlt]; rfl
      have h2 : gt ns (ns.findIdx fun n => decide (¬ b0 n ≤ c)) ≤ gt ns i := by
        rcases Nat.eq_or_lt_of_le (show ns.findIdx (fun n => decide (¬ b0 n ≤ c)) ≤ i by omega) with e | e
        · rw [e]; exact Nat.le_refl _
        · exact Nat.le_of_lt (hr _ _ e hi)
      have h3 := b0_mono (hb _ (gt_mem ns _ hlt)) (hb _ (gt_mem ns i hi)) h2
      rw [e1] at h3
      simp only [decide_not] at h3
      omega
    · have h1 := List.not_of_lt_findIdx h
      simp only [decide_not, Bool.not_eq_eq_eq_not] at h1
      have e1 : gt ns i = ns[i] := by rw [gt, List.getD_eq_getElem?_getD, List.getElem?_eq_getElem hi]; rfl
      rw [e1]
      simpa using h1
  have hc := cnt_seg (fun n => decide (b0 n ≤ c)) ns 0 m (fun i hi => by rw [decide_eq_decide]; have := hP i hi; omega) ns.length (Nat.le_refl _)
  rw [List.take_length] at hc
  have : fanN ns c = m := by unfold fanN; omega
  rw [this]
  exact hP i hi
theorem lo_at {ns : List Nat} (hr : ris ns) (hb : ∀ n ∈ ns, n < big) (c : Nat) (i : Nat) (hi : i < ns.length) : b0 (gt ns i) < c ↔ i < loF (fanN ns) c := by
  unfold loF
  by_cases h : c = 0
  · rw [if_pos h]; omega
  · rw [if_neg h, ← fan_at hr hb (c - 1) i hi]; omega
theorem lo_le {ns : List Nat} (c : Nat) : loF (fanN ns) c ≤ fanN ns c := by
  unfold loF
  by_cases h : c = 0
  · rw [if_pos h]; omega
  · rw [if_neg h]
    have := fanN_succ ns (c - 1)
    rw [show c - 1 + 1 = c by omega] at this
    omega
theorem loF_congr {f g : Nat → Nat} (h : ∀ c, c < 256 → f c = g c) (c : Nat) (hc : c < 256) : loF f c = loF g c := by
  unfold loF
  by_cases h0 : c = 0
  · rw [if_pos h0, if_pos h0]
  · rw [if_neg h0, if_neg h0, h _ (by omega)]
/-- Where an id stands among rising ones. -/
theorem find_at {n : Nat} {f ks : Nat → Nat} (hr : ris (keyL n ks)) (hb : ∀ m ∈ keyL n ks, m < big) (hf : ∀ c, c < 256 → f c = fanN (keyL n ks) c) (x : Nat) (hx : x < big) :
    fhsI n f ks x = hasN (keyL n ks) x ∧ (hasN (keyL n ks) x = true → loF f (b0 x) + posN (subI f (keyL n ks) x) x = posN (keyL n ks) x) := by
  have hlo : loF f (b0 x) = loF (fanN (keyL n ks)) (b0 x) := loF_congr hf _ (b0_lt x)
  have hhi : f (b0 x) = fanN (keyL n ks) (b0 x) := hf _ (b0_lt x)
  have hsub : subI f (keyL n ks) x = ((keyL n ks).drop (loF (fanN (keyL n ks)) (b0 x))).take (fanN (keyL n ks) (b0 x) - loF (fanN (keyL n ks)) (b0 x)) := by unfold subI; rw [hlo, hhi]
  have h1 := lo_le (ns := keyL n ks) (b0 x)
  have h2 := fanN_le (keyL n ks) (b0 x)
  have hA := fun i hi => fan_at hr hb (b0 x) i hi
  have hB := fun i hi => lo_at hr hb (b0 x) i hi
  unfold fhsI
  rw [hlo, hsub]
  generalize keyL n ks = ns at *
  generalize loF (fanN ns) (b0 x) = lo at *
  generalize fanN ns (b0 x) = hi at *
  have hL : ((ns.drop lo).take (hi - lo)).length = hi - lo := by rw [List.length_take, List.length_drop]; omega
  have hg : ∀ k, k < hi - lo → gt ((ns.drop lo).take (hi - lo)) k = gt ns (lo + k) := fun k h1 => by
    rw [gt, gt, List.getD_eq_getElem?_getD, List.getD_eq_getElem?_getD, List.getElem?_take, if_pos h1, List.getElem?_drop]
  have hrs : ris ((ns.drop lo).take (hi - lo)) := ris_cut hr _ _
  have key : ∀ p, p < ns.length → gt ns p = x → hasN ((ns.drop lo).take (hi - lo)) x = true ∧ lo + posN ((ns.drop lo).take (hi - lo)) x = p := fun p hp e => by
    have ha : p < hi := (hA p hp).1 (by rw [e]; exact Nat.le_refl _)
    have hb2 : ¬ p < lo := fun h => by have := (hB p hp).2 h; rw [e] at this; omega
    have hpos : posN ((ns.drop lo).take (hi - lo)) x = p - lo := pos_unique _ x (p - lo) (by rw [hL]; omega) (fun i hi2 => by
      rw [hg i (by omega), ← e]
      exact hr _ _ (by omega) hp) (fun h => by
      rw [hg (p - lo) (by omega), show lo + (p - lo) = p by omega, e]
      exact Nat.le_refl _)
    refine ⟨?_, by omega⟩
    unfold hasN
    rw [hpos, hL]
    exact decide_eq_true ⟨by omega, by rw [hg (p - lo) (by omega), show lo + (p - lo) = p by omega, e]⟩
  cases hh : hasN ns x with
  | true =>
    have h3 := of_decide_eq_true hh
    have h4 := key _ h3.1 h3.2
    exact ⟨h4.1, fun _ => h4.2⟩
  | false =>
    refine ⟨?_, fun h => by cases h⟩
    cases hs : hasN ((ns.drop lo).take (hi - lo)) x with
    | false => rfl
    | true =>
      have h3 := of_decide_eq_true hs
      rw [hL] at h3
      have h5 := h3.2
      rw [hg _ h3.1] at h5
      exfalso
      have hpp : lo + posN ((ns.drop lo).take (hi - lo)) x < ns.length := by omega
      have hpos : posN ns x = lo + posN ((ns.drop lo).take (hi - lo)) x := pos_unique ns x _ (by omega) (fun i hi2 => by rw [← h5]; exact hr _ _ hi2 hpp) (fun _ => by rw [h5]; exact Nat.le_refl _)
      have : hasN ns x = true := by
        unfold hasN
        rw [hpos]
        exact decide_eq_true ⟨hpp, h5⟩
      rw [hh] at this
      cases this
end Go.Proofs.YtgbhdjncccmabaaDoor

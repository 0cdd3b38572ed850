/- What is proved: an id's text is read as that id, and a text that is an id's is its text. Conditions: none. -/
import Derived.Test.YtppddpbacpeadaaDoorIde
namespace Go.Proofs.YtppddpbacpeadaaDoor.Ids
open Go.RowKit
set_option linter.unusedVariables false

theorem hexS_size (D : Nat → Nat) : (hexS D).size = 64 := by
  show (hexB D 64).toArray.size = 64
  simp [hexB]
theorem chr_hexS (D : Nat → Nat) (k : Nat) (hk : k < 64) : chr (hexS D) k = figs.getD (D k) 0 := by
  unfold chr hexS strB
  show (hexB D 64).getD k 0 = _
  unfold hexB
  rw [List.getD_eq_getElem?_getD, List.getElem?_map, List.getElem?_range hk]
  rfl
/-- The digits of an id are read as that id. -/
theorem read_hex (D : Nat → Nat) (hD : ∀ k, D k < 16) : rdE (hexS D) = 0 ∧ idC (rdA (hexS D)) = idC D := by
  have hok : okTo (hexS D) (hexS D).size := fun k hk => by
    rw [hexS_size] at hk
    rw [chr_hexS D k hk, wv_at _ (hD k)]
    omega
  obtain ⟨e1, e2⟩ := beg_ok (hexS D) (by rw [hexS_size]; omega) hok
  refine ⟨by rw [rdE, if_pos (hexS_size D), e1], ?_⟩
  rw [rdA, if_pos (hexS_size D), begA, e2, hexS_size]
  refine idC_congr _ _ (fun k hk => ?_)
  rw [begD_at _ _ k hk, chr_hexS D k hk, wv_at _ (hD k), Int.toNat_natCast]
/-- What is read as an id is its digits. -/
theorem hex_read (s : ByteArray) (h : rdE s = 0) : hexS (rdA s) = s := by
  have h64 : s.size = 64 := by
    unfold rdE at h
    split at h
    · assumption
    · omega
  rw [rdE, if_pos h64] at h
  have hb : bad s = false := by
    unfold begE at h
    rw [if_neg (by omega)] at h
    cases hb : bad s
    · rfl
    · rw [hb] at h
      simp at h
  have hN : begN s = 64 := by rw [begN, if_pos h, h64]
  rw [rdA, if_pos h64, begA, hN]
  have hl : hexB (begD s 64) 64 = s.data.toList := by
    apply List.ext_getElem
    · rw [hexB_len]; simpa using h64.symm
    · intro k h1 h2
      have hk : k < 64 := by rw [hexB_len] at h1; exact h1
      have hc : chr s k = s.data.toList[k] := by rw [chr, List.getD_eq_getElem?_getD, List.getElem?_eq_getElem h2]; rfl
      have hg : (hexB (begD s 64) 64)[k] = figs.getD (begD s 64 k) 0 := by simp [hexB]
      refine hg.trans (Eq.trans ?_ hc)
      rw [begD_at s 64 k hk]
      rcases wv_cases (chr s k) with e | ⟨j, hj, e, e2⟩
      · have := bad_of s k (by omega) e
        rw [hb] at this
        simp at this
      · rw [e, Int.toNat_natCast, e2]
  rw [hexS, hl, strB]

end Go.Proofs.YtppddpbacpeadaaDoor.Ids

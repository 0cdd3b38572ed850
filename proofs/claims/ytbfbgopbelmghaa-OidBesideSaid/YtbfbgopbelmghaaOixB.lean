/- What is proved: the walk of the law OidBack, for every id and every text. Conditions: none. -/
import Derived.Test.YtbfbgopbelmghaaOixR
namespace Go.Proofs.Ytbfbgopbelmghaa
open Go.RowKit
set_option linter.unusedVariables false

theorem hexS_size (D : Nat → Nat) : (hexS D).size = 64 := by
  show (hexB D 64).toArray.size = 64
  simp [hexB]
theorem chr_hexS (D : Nat → Nat) (k : Nat) (hk : k < 64) : chr (hexS D) k = figs.getD (D k) 0 := by
  unfold chr hexS strB
  show (hexB D 64).getD k 0 = _
  unfold hexB
  rw [List.getD_eq_getElem?_getD, List.getElem?_map, List.getElem?_range hk]
  rfl
/-- The digits of an id are read as that id. -/
theorem read_hex (D : Nat → Nat) (hD : ∀ k, D k < 16) : rdE (hexS D) = 0 ∧ idC (rdA (hexS D)) = idC D := by
  have hok : okTo (hexS D) (hexS D).size := fun k hk => by
    rw [hexS_size] at hk
    rw [chr_hexS D k hk, wv_at _ (hD k)]
    omega
  obtain ⟨e1, e2⟩ := beg_ok (hexS D) (by rw [hexS_size]; omega) hok
  refine ⟨by rw [rdE, if_pos (hexS_size D), e1], ?_⟩
  rw [rdA, if_pos (hexS_size D), begA, e2, hexS_size]
  refine idC_congr _ _ (fun k hk => ?_)
  rw [begD_at _ _ k hk, chr_hexS D k hk, wv_at _ (hD k), Int.toNat_natCast]
/-- What is read as an id is its digits. -/
theorem hex_read (s : ByteArray) (h : rdE s = 0) : hexS (rdA s) = s := by
  have h64 : s.size = 64 := by
    unfold rdE at h
    split at h
    · assumption
    · omega
  rw [rdE, if_pos h64] at h
  have hb : bad s = false := by
    unfold begE at h
    rw [if_neg (by omega)] at h
    cases hb : bad s
    · rfl
    · rw [hb] at h
      simp at h
  have hN : begN s = 64 := by rw [begN, if_pos h, h64]
  rw [rdA, if_pos h64, begA, hN]
  have hl : hexB (begD s 64) 64 = s.data.toList := by
    apply List.ext_getElem
    · rw [hexB_len]; simpa using h64.symm
    · intro k h1 h2
      have hk : k < 64 := by rw [hexB_len] at h1; exact h1
      have hc : chr s k = s.data.toList[k] := by rw [chr, List.getD_eq_getElem?_getD, List.getElem?_eq_getElem h2]; rfl
      have hg : (hexB (begD s 64) 64)[k] = figs.getD (begD s 64 k) 0 := by simp [hexB]
      refine hg.trans (Eq.trans ?_ hc)
      rw [begD_at s 64 k hk]
      rcases wv_cases (chr s k) with e | ⟨j, hj, e, e2⟩
      · have := bad_of s k (by omega) e
        rw [hb] at this
        simp at this
      · rw [e, Int.toNat_natCast, e2]
  rw [hexS, hl, strB]

set_option maxHeartbeats 3200000 in
theorem back_walk (a : Nat) (s : ByteArray) (hs : s.size ≤ 9223372036854775807) (w : World) : Calls Try.prog 4 #[.agg (idC (dgt a)), .string s] w fun e w' => e = .returned (.bool true) ∧ Below w.heap.size w w' := by
  obtain ⟨w1, hw1⟩ : ∃ w1, w.alloc (.cells (idC (dgt a)) 23) = w1 := ⟨_, rfl⟩
  have hF1 : Fr (fun _ => False) w w1 := by subst hw1; exact (Fr.refl _ w).alloc _
  have hX : Whole w1 w.heap.size 23 (idC (dgt a)) := by subst hw1; exact Whole.new w 23 _
  have c1 := fun w => OHex_any (dgt a) (dgt_lt a) w
  have c2 := fun w => ORead_any (hexS (dgt a)) (by rw [hexS_size]; omega) w
  have c3 := fun w => ORead_any s hs w
  have c4 := fun w => OHex_any (rdA s) (rdA_lt s) w
  rw [(read_hex (dgt a) (dgt_lt a)).1, (read_hex (dgt a) (dgt_lt a)).2] at c2
  have heq1 := fun w => eq_id_self (dgt a) (dgt_lt a) w
  have hrd : rdE s = 0 → hexS (rdA s) = s := hex_read s
  obtain ⟨B, hB⟩ : ∃ c, idC (rdA s) = c := ⟨_, rfl⟩
  obtain ⟨S, hS⟩ : ∃ c, hexS (dgt a) = c := ⟨_, rfl⟩
  obtain ⟨S2, hS2⟩ : ∃ c, hexS (rdA s) = c := ⟨_, rfl⟩
  obtain ⟨E, hE⟩ : ∃ c, rdE s = c := ⟨_, rfl⟩
  obtain ⟨X, hXc⟩ : ∃ c, idC (dgt a) = c := ⟨_, rfl⟩
  have hBs : B.size = 32 := by rw [← hB]; exact idC_size _
  have hBo : B.all (·.oneCell') = true := by rw [← hB]; exact idC_one _
  have hXs : X.size = 32 := by rw [← hXc]; exact idC_size _
  have hXo : X.all (·.oneCell') = true := by rw [← hXc]; exact idC_one _
  rw [hXc, hS] at c1
  rw [hXc, hS] at c2
  rw [hB, hE] at c3
  rw [hB, hS2] at c4
  rw [hXc] at hw1 hX heq1 ⊢
  rw [hE, hS2] at hrd
  obtain ⟨T32, hT32⟩ : ∃ T : TypeId, T = 23 := ⟨_, rfl⟩
  obtain ⟨n32, hn32⟩ : ∃ n : Nat, n = 32 := ⟨_, rfl⟩
  have ag32 : ∀ w, (isAgg T32).run Try.prog w = .ok true w := by rw [hT32]; exact fun _ => by kernel_rfl
  have sz32 : ∀ w, (sizeOf T32).run Try.prog w = .ok n32 w := by rw [hT32, hn32]; exact fun _ => by kernel_rfl
  have hgi := guardI
  have HRD := Lib.hid hrd
  have HF1 := Lib.hid hF1
  have HX := Lib.hid hX
  have HN32 := Lib.hid hn32
  have C1 := Lib.hid c1
  have C2 := Lib.hid c2
  have C3 := Lib.hid c3
  have C4 := Lib.hid c4
  have l0 : (loadCellsFrom ⟨w.heap.size, 0, none⟩ 0 n32 #[]).run Try.prog w1 = .ok X w1 := load_later hX (by rw [hXs]; exact hn32) (Fr.refl _ w1) ⟨w1, Fr.refl _ _⟩
  clear hF1 hX c1 c2 c3 c4 hB hS hS2 hE hXc hn32 hrd
  by_cases hE0 : E = 0
  · subst hE0
    have e2 := HRD.out rfl
    subst e2
    go_enter Try.func4, Try.ntmps4
    rw [show Op.load 23 (.tmp 2) = Op.load T32 (.tmp 2) by rw [hT32], show Op.load 23 (.tmp 5) = Op.load T32 (.tmp 5) by rw [hT32], show Op.load 23 (.tmp 7) = Op.load T32 (.tmp 7) by rw [hT32]]
    clear hT32
    go_wp2_with (first
      | (go_at_call 15; refine (works_any _).mono ?_; rintro e w8 ⟨rfl, b8⟩)
      | (go_at_call 13; refine (C4.out w6).mono ?_; rintro e w7 ⟨rfl, b7⟩)
      | (go_at_call 9; refine (C3.out w4).mono ?_; rintro e w5 ⟨rfl, b5⟩)
      | (go_at_call 9; refine (C2.out w2).mono ?_; rintro e w3 ⟨rfl, b3⟩)
      | (go_at_call 13; refine (C1.out w1).mono ?_; rintro e w2 ⟨rfl, b2⟩)
      | (refine wpList_store_at rfl 23 _ _ rfl w5.heap.size 0 23 _ B rfl rfl (Whole.new w5 23 zero32) (by rw [hBs]; decide) (by rw [hBs]; exact size32) hBo ?_
         intro w6 hw6 hf6
         rw [laidAt_all _ _ (by rw [hBs]; rfl)] at hw6
         have F6 : Fr (fun _ => False) w4 w6 := (((Fr.refl (fun _ => False) w4).then_below b5).alloc _).trans hf6 (fun i hi e => by have := b5.size; omega)
         have l3 := load_later hw6 (n := n32) (by rw [hBs]; exact HN32.out) (Fr.refl _ w6) ⟨w6, Fr.refl _ _⟩
         simp only at l3)
      | (refine wpList_store_at rfl 23 _ _ rfl w3.heap.size 0 23 _ X rfl rfl (Whole.new w3 23 zero32) (by rw [hXs]; decide) (by rw [hXs]; exact size32) hXo ?_
         intro w4 hw4 hf4
         rw [laidAt_all _ _ (by rw [hXs]; rfl)] at hw4
         have F4 : Fr (fun _ => False) w1 w4 := ((((Fr.refl (fun _ => False) w1).then_below b2).then_below b3).alloc _).trans hf4 (fun i hi e => by have := b3.size; have := b2.size; omega)
         have l1 := load_later hw4 (n := n32) (by rw [hXs]; exact HN32.out) (Fr.refl _ w4) ⟨w4, Fr.refl _ _⟩
         have l2 := load_later HX.out (n := n32) (by rw [hXs]; exact HN32.out) F4 ⟨w4, Fr.refl _ _⟩
         simp only at l1 l2))
    go_ret
    exact ⟨rfl, ((HF1.out.trans F4 (fun _ _ e => e)).trans ((F6.then_below b7).then_below b8) (fun _ _ e => e)).below (fun _ _ e => e)⟩
  · have hne : (E != 0) = true := by simpa using hE0
    clear hE0
    go_enter Try.func4, Try.ntmps4
    rw [show Op.load 23 (.tmp 2) = Op.load T32 (.tmp 2) by rw [hT32], show Op.load 23 (.tmp 5) = Op.load T32 (.tmp 5) by rw [hT32], show Op.load 23 (.tmp 7) = Op.load T32 (.tmp 7) by rw [hT32]]
    clear hT32
    go_wp2_with (first
      | (go_at_call 15; refine (works_any _).mono ?_; rintro e w8 ⟨rfl, b8⟩)
      | (go_at_call 9; refine (C3.out w4).mono ?_; rintro e w5 ⟨rfl, b5⟩)
      | (go_at_call 9; refine (C2.out w2).mono ?_; rintro e w3 ⟨rfl, b3⟩)
      | (go_at_call 13; refine (C1.out w1).mono ?_; rintro e w2 ⟨rfl, b2⟩)
      | (refine wpList_store_at rfl 23 _ _ rfl w5.heap.size 0 23 _ B rfl rfl (Whole.new w5 23 zero32) (by rw [hBs]; decide) (by rw [hBs]; exact size32) hBo ?_
         intro w6 hw6 hf6
         rw [laidAt_all _ _ (by rw [hBs]; rfl)] at hw6
         have F6 : Fr (fun _ => False) w4 w6 := (((Fr.refl (fun _ => False) w4).then_below b5).alloc _).trans hf6 (fun i hi e => by have := b5.size; omega))
      | (refine wpList_store_at rfl 23 _ _ rfl w3.heap.size 0 23 _ X rfl rfl (Whole.new w3 23 zero32) (by rw [hXs]; decide) (by rw [hXs]; exact size32) hXo ?_
         intro w4 hw4 hf4
         rw [laidAt_all _ _ (by rw [hXs]; rfl)] at hw4
         have F4 : Fr (fun _ => False) w1 w4 := ((((Fr.refl (fun _ => False) w1).then_below b2).then_below b3).alloc _).trans hf4 (fun i hi e => by have := b3.size; have := b2.size; omega)
         have l1 := load_later hw4 (n := n32) (by rw [hXs]; exact HN32.out) (Fr.refl _ w4) ⟨w4, Fr.refl _ _⟩
         have l2 := load_later HX.out (n := n32) (by rw [hXs]; exact HN32.out) F4 ⟨w4, Fr.refl _ _⟩
         simp only at l1 l2))
    go_ret
    exact ⟨rfl, ((HF1.out.trans F4 (fun _ _ e => e)).trans (F6.then_below b8) (fun _ _ e => e)).below (fun _ _ e => e)⟩
end Go.Proofs.Ytbfbgopbelmghaa

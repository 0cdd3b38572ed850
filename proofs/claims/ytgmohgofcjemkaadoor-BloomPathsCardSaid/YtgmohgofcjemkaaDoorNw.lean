/- What is proved: what the laws' works and large tell; a filter has its keys, plainly. Conditions: the list's cells are there. -/
import Derived.Test.YtgmohgofcjemkaaDoorNu
namespace Go.Proofs.YtgmohgofcjemkaaDoor
open Go.RowKit Go.Shelf Go.Sort
set_option linter.unusedVariables false

theorem plL_lt {key : List UInt8} {M j : Nat} (hM : 0 < M) (h : j ∈ plL key M) : j < M := by
  unfold plL plT at h
  obtain ⟨i, _, rfl⟩ := List.mem_map.1 h
  exact (plI_nat _ _ _ _ hM).2
theorem ones_bit (j : Nat) (h : j < 8) : bitB [255] j = true := by
  rw [bitB_test, show j / 8 = 0 from by omega, show j % 8 = j from by omega]
  show (255 : Nat).testBit j = true
  rw [show (255 : Nat) = 2 ^ 8 - 1 from rfl, Nat.testBit_two_pow_sub_one]
  simpa using h
theorem mkF_len (keys : List (List UInt8)) : 0 < (mkF keys).length ∧ (mkF keys).length ≤ 251 := by
  unfold mkF
  split
  · decide
  · rw [fltB_len]; unfold szK; split <;> omega
/-- A filter has each key that it was made of. -/
theorem mkF_has {keys : List (List UInt8)} {x : List UInt8} (h : x ∈ keys) : hasB (mkF keys) x = true := by
  unfold hasB
  rw [Bool.or_eq_true]
  right
  rw [List.all_eq_true]
  intro j hj
  have hl := mkF_len keys
  have hlt := plL_lt (by omega) hj
  unfold mkF at hj hlt ⊢
  split at hj
  · rename_i h200
    rw [if_pos h200] at hlt ⊢
    exact ones_bit j (by simpa using hlt)
  · rename_i h200
    rw [if_neg h200] at hlt ⊢
    rw [fltB_len] at hj hlt
    rw [fltB_bit _ _ _ hlt]
    unfold stK
    rw [List.any_eq_true]
    exact ⟨x, ((unl_ris keys).2 x).2 h, by simpa using hj⟩
theorem mkF_rev (keys : List (List UInt8)) : mkF keys.reverse = mkF keys := by
  unfold mkF
  rw [unl_same (m := keys) (fun x => List.mem_reverse)]

set_option maxHeartbeats 1600000 in
set_option maxRecDepth 100000 in
theorem works16_any (w : World) : Calls Tryd.prog 5 #[] w fun e w' => e = .returned (.bool true) ∧ Fr (fun _ => False) w w' := by
  have h0 : hashI 1 [] = 1364076727 := by kernel_rfl
  have HH : Hid (∀ w, Calls Tryd.prog 13 #[.int .u32 1, .string (ByteArray.mk #[])] w fun e w' => e = .returned (.int .u32 1364076727) ∧ w = w') := Lib.hid (fun w => by rw [← h0]; exact Hash_any 1 (by decide) (by decide) [] (by simp) w)
  have HMk := Lib.hid (Make_any (some ⟨w.heap.size, 0, none⟩) 1 [[97]] (by simp) (by intro p hp; simp at hp; subst hp; simp))
  have HHs : Hid (∀ A c w, Lies w A (bytesV (mkF [[97]])) → Calls Tryd.prog 12 #[.slice A (mkF [[97]]).length c, .string (ByteArray.mk #[97])] w fun e w' => e = .returned (.bool true) ∧ Fr (fun _ => False) w w') := Lib.hid (fun A c w h => by
    have := Has_any A c (mkF [[97]]) [97] (by have := (mkF_len [[97]]).2; omega) (by simp) w h
    rwa [mkF_has (by simp)] at this)
  have HL1 := Lib.hid (show Lies (w.alloc (.cells #[.string (ByteArray.mk #[97])] 9)) (some ⟨w.heap.size, 0, none⟩) (strM [[97]]) from Lies.of_whole (Whole.new w 9 _))
  obtain ⟨F, hF⟩ : ∃ F, mkF [[97]] = F := ⟨_, rfl⟩
  rw [hF] at HMk HHs
  clear h0 hF
  go_enter Tryd.func5, Tryd.ntmps5
  go_wp2_with (first
    | (go_at_call 13; refine (HH.out _).mono ?_; rintro e w1 ⟨rfl, rfl⟩)
    | (go_at_call 9; refine (HMk.out _ HL1.out).mono ?_; rintro e w2 ⟨v, rfl, ho⟩
       obtain ⟨A, c, rfl, _, hli⟩ := ho.slice
       have HF2 := Lib.hid ho.2
       have HX := Lib.hid (HHs.out A c w2 hli)
       clear ho hli)
    | (go_at_call 12; refine HX.out.mono ?_; rintro e w3 ⟨rfl, hf3⟩; have HF3 := Lib.hid hf3; clear hf3))
  go_ret
  exact ⟨rfl, (((Fr.refl (fun _ => False) w).alloc _).trans HF2.out (fun _ _ e => e)).trans HF3.out (fun _ _ e => e)⟩

/-- Keys are not more, nor longer, than the laws go. -/
def Fit16 (l : List (List UInt8)) : Prop := l.length ≤ 260 ∧ ∀ p ∈ l, p.length ≤ 200
instance (l : List (List UInt8)) : Decidable (Fit16 l) := by unfold Fit16; infer_instance
set_option maxHeartbeats 1600000 in
set_option maxRecDepth 100000 in
theorem large16_any (A : Option Addr) (c : Nat) (l : List (List UInt8)) (hb : l.length ≤ 9223372036854775807) (w : World) (h : Lies w A (strM l)) :
    Calls Tryd.prog 4 #[.slice A l.length c] w fun e w' => e = .returned (.bool (!decide (Fit16 l))) ∧ w = w' := by
  have HLs := Lib.hid (fun (h0 : 0 < l.length) => lies_nameM h (Fr.refl _ w) h0)
  have HNot : Hid (∀ k, k < l.length → 200 < (l.getD k []).length → (!decide (Fit16 l)) = true) := Lib.hid (fun k hk hx => by
    rw [Bool.not_eq_true', decide_eq_false_iff_not]
    intro hf
    have := hf.2 (l.getD k []) (by rw [List.getD_eq_getElem?_getD, List.getElem?_eq_getElem hk]; exact List.getElem_mem hk)
    omega)
  have HBig : Hid (260 < l.length → (!decide (Fit16 l)) = true) := Lib.hid (fun hx => by
    rw [Bool.not_eq_true', decide_eq_false_iff_not]
    intro hf
    have := hf.1
    omega)
  have HAll : Hid (l.length ≤ 260 → (∀ k, k < l.length → (l.getD k []).length ≤ 200) → (!decide (Fit16 l)) = false) := Lib.hid (fun hx hk => by
    rw [Bool.not_eq_false', decide_eq_true_iff]
    refine ⟨hx, fun p hp => ?_⟩
    obtain ⟨k, hk1, rfl⟩ := List.getElem_of_mem hp
    have := hk k hk1
    rwa [List.getD_eq_getElem?_getD, List.getElem?_eq_getElem hk1] at this)
  obtain ⟨V, hV⟩ : ∃ V, (!decide (Fit16 l)) = V := ⟨_, rfl⟩
  rw [hV] at HNot HBig HAll ⊢
  obtain ⟨n, hn⟩ : ∃ n, l.length = n := ⟨_, rfl⟩
  rw [hn] at HLs HNot HBig HAll hb ⊢
  clear hV hn h
  go_enter Tryd.func4, Tryd.ntmps4
  by_cases h260 : 260 < n
  · have hz : (n : Int) > 260 := by omega
    have HE := Lib.hid (HBig.out h260)
    go_wp2
    go_ret
    exact ⟨by rw [HE.out]; rfl, rfl⟩
  · have hz : ¬ (n : Int) > 260 := by omega
    go_wp2
    go_loopg [3] n (fun kx s3 wr => ∃ k : Nat, s3 = .int .i64 k ∧ k ≤ n ∧ n - k ≤ kx ∧ w = wr ∧ Hid (∀ j, j < k → (l.getD j []).length ≤ 200))
    case atStart => exact ⟨0, rfl, by omega, by omega, rfl, Lib.hid (fun j hj => by omega)⟩
    case round =>
      obtain ⟨k, rfl, hk, hkx, rfl, HJ⟩ := hrel
      by_cases hlt : k < n
      · have hltz : (k : Int) < (n : Int) := by omega
        have hk0 : (0 : Int) ≤ (k : Int) := by omega
        have wk := wrap_nat1 k (by omega)
        obtain ⟨b, o, hA, hc⟩ := HLs.out (by omega)
        subst hA
        have cx := hc k hlt
        have hsz := strB_size (l.getD k [])
        have HNk := Lib.hid (HNot.out k hlt)
        have HJk := Lib.hid (fun (hh : (l.getD k []).length ≤ 200) => show ∀ j, j < k + 1 → (l.getD j []).length ≤ 200 from fun j hj => (by omega : j < k ∨ j = k).elim (HJ.out j) (fun e => by rw [e]; exact hh))
        obtain ⟨S, hS⟩ : ∃ S, strB (l.getD k []) = S := ⟨_, rfl⟩
        obtain ⟨z, hzz⟩ : ∃ z, (l.getD k []).length = z := ⟨_, rfl⟩
        rw [hS] at cx hsz
        rw [hzz] at hsz HNk HJk
        clear hc hS hzz
        by_cases hx : 200 < z
        · have hxz : (z : Int) > 200 := by omega
          have HE := Lib.hid (HNk.out hx)
          go_wp2
          go_ret
          exact ⟨by rw [HE.out]; rfl, rfl⟩
        · have hxz : ¬ (z : Int) > 200 := by omega
          have HJ2 := Lib.hid (HJk.out (by omega))
          go_wp2
          go_roundg (n - (k + 1))
          case measure => omega
          case rel => exact ⟨k + 1, by go_num, by omega, Nat.le_refl _, rfl, HJ2⟩
      · obtain rfl : k = n := by omega
        have HE := Lib.hid (HAll.out (by omega) HJ.out)
        go_wp2
        go_ret
        exact ⟨by rw [HE.out]; rfl, rfl⟩
end Go.Proofs.YtgmohgofcjemkaaDoor

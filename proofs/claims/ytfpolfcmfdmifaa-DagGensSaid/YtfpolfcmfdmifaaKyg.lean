/- What is proved: the law DagGens is true. Conditions: the graph's cells are there. -/
import Derived.Test.YtfpolfcmfdmifaaKw
import Derived.Test.YtfpolfcmfdmifaaKu
namespace Go.Proofs.Ytfpolfcmfdmifaa
open Go.RowKit Go.Shelf
set_option linter.unusedVariables false

theorem gen_len (G : List Nd) : (genL G).length = G.length := by simp [genL]
/-- A child row, as a later world holds it. -/
theorem KidR.at {w0 w w' : World} {g N : Nat} {V : Nat → Value} {K : Nat → List Nat} (h : KidR w0 w g N V K) (k : Nat) (hk : k < N) : ∃ A c, ∀ w', Fr (fun _ => False) w w' → w'.cell? ⟨g, k, none⟩ = some (.slice A (K k).length c) ∧ Lies w' A (nC (K k)) := by
  obtain ⟨A, c, hv, _, _⟩ := own_slice (h.own k hk)
  refine ⟨A, c, fun w' f => ⟨?_, ?_⟩⟩
  · rw [(h.row.fr f (fun e => e)).rcell k hk, hv]
  · have := h.own k hk
    rw [hv] at this
    exact (Lies.of_own this).fr f (fun _ _ e => e)
set_option maxHeartbeats 3200000 in
set_option maxRecDepth 100000 in
theorem dagGens_walk (A : Option Addr) (c : Nat) (G : List Nd) (W : World) (hG : GAt W A G) :
    Calls Try.prog 3 #[.slice A G.length c] W fun e w' => e = .returned (.bool true) ∧ Below W.heap.size W w' := by
  have HQc := Lib.hid (QaCheck_any A c G W hG)
  have HDc := Lib.hid (fun w (f : Fr (fun _ => False) W w) => DaCheck_any A c G w (hG.fr f))
  have HDg := Lib.hid (fun w (f : Fr (fun _ => False) W w) => DaGens_any A c G w (hG.fr f))
  have HDk := Lib.hid (fun w (f : Fr (fun _ => False) W w) => DaChildren_any A c G w (hG.fr f))
  by_cases hE : chkG G = 0
  · have hR := right_of (chk_ok hE)
    rw [hE] at HQc HDc HDg HDk
    have HQg := Lib.hid (fun w (f : Fr (fun _ => False) W w) => QaGens_any A c G hR w (hG.fr f))
    have HQk := Lib.hid (fun n w (f : Fr (fun _ => False) W w) => QaChildren_any A c G n hR w (hG.fr f))
    have HKl := Lib.hid (fun k => kids_len hR.few k G.length (Nat.le_refl _))
    have hlen := hR.len
    have hgl := gen_len G
    obtain ⟨L, hL⟩ : ∃ L, genL G = L := ⟨_, rfl⟩
    rw [hL] at HDg HQg hgl
    have HGl := Lib.hid hgl
    obtain ⟨K, hK⟩ : ∃ K, kidsF (prG G) G.length = K := ⟨_, rfl⟩
    rw [hK] at HDk HKl HQk
    have HSm := Lib.hid (fun A ca B cb w h1 h2 => same_ok A ca L B cb G.length hgl (by omega) w h1 h2)
    have HSk := Lib.hid (fun (n m : Nat) (hm : (K n).length = m) A ca B cb w h1 h2 => same_ok A ca (K n) B cb m hm (by have := HKl.out n; omega) w h1 h2)
    obtain ⟨N, hN⟩ : ∃ N, G.length = N := ⟨_, rfl⟩
    rw [hN] at HQc HDc HDg HDk HQg HQk hlen HSm HGl ⊢
    clear hE hR hG hL hgl hK hN HKl
    go_enter Try.func3, Try.ntmps3
    go_upto_region 10 with (first
      | (go_at_call 8; refine HQc.out.mono ?_; rintro e w1 ⟨rfl, b1⟩; have HF1 := Lib.hid (Fr.of_below (S := fun _ => False) b1); clear b1)
      | (go_at_call 9; refine (HDg.out _ HF1.out).mono ?_; rintro e w2 h; obtain ⟨A2, c2, rfl, hl2, f2⟩ := h.ok; rw [HGl.out]; have HL2 := Lib.hid hl2; have HF2 := Lib.hid (HF1.out.trans f2 (fun _ _ e => e)); clear h hl2 f2)
      | (go_at_call 10; refine (HDk.out _ HF2.out).mono ?_; rintro e w3 h; obtain ⟨g, V, rfl, hk⟩ := h.1 rfl; have HK3 := Lib.hid hk; have HF3 := Lib.hid (HF2.out.trans hk.old (fun _ _ e => e)); have HL3 := Lib.hid (HL2.out.fr hk.old (fun _ _ e => e)); clear h hk)
      | (go_at_call 11; refine (HDc.out _ HF3.out).mono ?_; rintro e w4 ⟨rfl, b4⟩; have HK4 := Lib.hid (HK3.out.fr (Fr.of_below (S := fun _ => False) b4)); have HF4 := Lib.hid (HF3.out.then_below b4); have HL4 := Lib.hid (HL3.out.fr (Fr.of_below (S := fun _ => False) b4) (fun _ _ e => e)); clear b4)
      | (go_at_call 14; refine (HQg.out _ HF4.out).mono ?_; rintro e w5 ⟨v5, rfl, ho⟩; obtain ⟨A5, c5, hv5, _, _, _, hl5⟩ := ho.shape; rw [HGl.out] at hv5; subst hv5; have HL5 := Lib.hid hl5; have HLc := Lib.hid (HL4.out.fr ho.2 (fun _ _ e => e)); have HK5 := Lib.hid (HK4.out.fr ho.2); have HF5 := Lib.hid (HF4.out.trans ho.2 (fun _ _ e => e)); clear ho hl5)
      | (go_at_call 13; refine (HSm.out A2 c2 A5 c5 _ HLc.out HL5.out).mono ?_; rintro e w6 ⟨rfl, f6⟩; have HF6 := Lib.hid (HF5.out.trans f6 (fun _ _ e => e)); have HK6 := Lib.hid (HK5.out.fr f6); clear f6))
    clear HQc HDc HDg HDk HQg HSm HF1 HF2 HF3 HF4 HF5 HL2 HL3 HL4 HL5 HLc HK3 HK4 HK5
    go_wp2
    go_loopg [8] N (fun kx s8 wr => ∃ k : Nat, s8 = .int .i64 k ∧ k ≤ N ∧ N - k ≤ kx ∧ Hid (Fr (fun _ => False) w6 wr))
    case atStart => exact ⟨0, rfl, by omega, by omega, Lib.hid (Fr.refl _ _)⟩
    case round =>
      obtain ⟨k, rfl, hk, hkx, HFr⟩ := hrel
      obtain ⟨wo, rfl⟩ : ∃ wo, wo = wr := ⟨wr, rfl⟩
      have wk := wrap_nat1 k (by omega)
      have HFo := Lib.hid (HF6.out.trans HFr.out (fun _ _ e => e))
      by_cases hlt : k < N
      · have hltz : (k : Int) < N := by omega
        have hk0 : (0 : Int) ≤ (k : Int) := by omega
        obtain ⟨Ak, ck, hvk⟩ := (HK6.out.fr HFr.out).at (w' := wo) k hlt
        obtain ⟨m, hm⟩ : ∃ m, (K k).length = m := ⟨_, rfl⟩
        rw [hm] at hvk
        have HVn := Lib.hid hvk
        have HMm := Lib.hid hm
        have HQ1 := Lib.hid (HQk.out k)
        have HS1 := Lib.hid (HSk.out k m hm)
        clear hvk hm
        go_upto_region 13 with fail
        have HSq := Lib.hid (show Fr (fun _ => False) wo wo.drew from (Fr.refl _ wo).drew)
        refine wp_region_held (S := fun w' => Fr (fun _ => False) wo w') (by kernel_rfl) ?_
        change wpAnyH _ _ _ _ _ _ _ _ (World.drew wo)
        obtain ⟨wc, hwc⟩ : ∃ wc, wo.drew = wc := ⟨_, rfl⟩
        rw [hwc] at HSq ⊢
        clear hwc
        (
          refine wpAnyH_takeM (i := 0) (v := .slice (some ⟨g, 0, none⟩) N N) 66 rfl rfl (by kernel_rfl) (by kernel_rfl) (by kernel_rfl) (fun _ _ _ h => h) (.inl ⟨by rfl, ?_⟩) HSq.out ?_
          · intro wq hq
            have k0 := (HVn.out wq hq).1
            go_simp
          try simp only [List.setIfInBounds_toArray, List.set_cons_succ, List.set_cons_zero])
        (
          refine wpAnyH_takeM (i := 1) (v := .int .i64 k) 67 rfl rfl (by kernel_rfl) (by kernel_rfl) (by kernel_rfl) (fun _ _ _ h => h) (.inl ⟨by rfl, ?_⟩) HSq.out ?_
          · intro wq hq
            have k0 := (HVn.out wq hq).1
            go_simp
          try simp only [List.setIfInBounds_toArray, List.set_cons_succ, List.set_cons_zero])
        (
          refine wpAnyH_takeM (i := 2) (v := .pointer (some ⟨g, k, none⟩)) 68 rfl rfl (by kernel_rfl) (by kernel_rfl) (by kernel_rfl) (fun _ _ _ h => h) (.inl ⟨by rfl, ?_⟩) HSq.out ?_
          · intro wq hq
            have k0 := (HVn.out wq hq).1
            go_simp
          try simp only [List.setIfInBounds_toArray, List.set_cons_succ, List.set_cons_zero])
        (
          refine wpAnyH_takeM (i := 3) (v := .slice Ak m ck) 69 rfl rfl (by kernel_rfl) (by kernel_rfl) (by kernel_rfl) (fun _ _ _ h => h) (.inl ⟨by rfl, ?_⟩) HSq.out ?_
          · intro wq hq
            have k0 := (HVn.out wq hq).1
            go_simp
          try simp only [List.setIfInBounds_toArray, List.set_cons_succ, List.set_cons_zero])
        (
          refine wpAnyH_takeM (i := 4) (v := .slice A N c) 70 rfl rfl (by kernel_rfl) (by kernel_rfl) (by kernel_rfl) (fun _ _ _ h => h) (.inl ⟨by rfl, ?_⟩) HSq.out ?_
          · intro wq hq
            have k0 := (HVn.out wq hq).1
            go_simp
          try simp only [List.setIfInBounds_toArray, List.set_cons_succ, List.set_cons_zero])
        (
          refine wpAnyH_takeM (i := 5) (v := .int .i64 k) 71 rfl rfl (by kernel_rfl) (by kernel_rfl) (by kernel_rfl) (fun _ _ _ h => h) (.inl ⟨by rfl, ?_⟩) HSq.out ?_
          · intro wq hq
            have k0 := (HVn.out wq hq).1
            go_simp
          try simp only [List.setIfInBounds_toArray, List.set_cons_succ, List.set_cons_zero])
        (
          try simp only [List.setIfInBounds_toArray, List.set_cons_succ, List.set_cons_zero]
          refine wpAnyH_all (rs := [6]) (by kernel_rfl) (by simp) ?_
          intro i hi
          simp only [List.mem_cons, List.not_mem_nil, or_false] at hi
          subst hi)
        refine wpOp_step rfl (fun K1 hK => ?_)
        go_simp
        go_wp2_with (go_at_call 15; refine (HQ1.out _ (HFo.out.trans HSq.out (fun _ _ e => e))).mono ?_
                     rintro e w7 ⟨v7, rfl, ho⟩
                     obtain ⟨A7, c7, hv7, _, _, _, hl7⟩ := ho.shape
                     rw [HMm.out] at hv7
                     subst hv7
                     have HL7 := Lib.hid hl7
                     have HF7 := Lib.hid (HSq.out.trans ho.2 (fun _ _ e => e))
                     clear ho hl7)
        refine ⟨HF7.out, ?_⟩
        (
          try simp only [List.setIfInBounds_toArray, List.set_cons_succ, List.set_cons_zero]
          refine wpAnyH_all (rs := [7]) (by kernel_rfl) (by simp) ?_
          intro i hi
          simp only [List.mem_cons, List.not_mem_nil, or_false] at hi
          subst hi)
        refine wpOp_step rfl (fun K1 hK => ?_)
        go_simp
        go_wp2_with (go_at_call 13; refine (HS1.out Ak ck A7 c7 _ (HVn.out _ HF7.out).2 HL7.out).mono ?_; rintro e w8 ⟨rfl, f8⟩; have HF8 := Lib.hid (HF7.out.trans f8 (fun _ _ e => e)); clear f8)
        refine ⟨HF8.out, ?_⟩
        clear HSq
        have HSq := HF8
        (
          refine wpAnyH_takeM (i := 8) (v := .bool false) 74 rfl rfl (by kernel_rfl) (by kernel_rfl) (by kernel_rfl) (fun _ _ _ h => h) (.inl ⟨by rfl, ?_⟩) HSq.out ?_
          · intro wq hq
            have k0 := (HVn.out wq hq).1
            go_simp
          try simp only [List.setIfInBounds_toArray, List.set_cons_succ, List.set_cons_zero])
        refine wpAnyH_done (by kernel_rfl) ?_ _
        go_wp2
        go_roundg (N - (k + 1))
        case measure => omega
        case rel => exact ⟨k + 1, by go_num, by omega, Nat.le_refl _, Lib.hid (HFr.out.trans HF8.out (fun _ _ e => e))⟩
      · obtain rfl : k = N := by omega
        go_wp2_with (go_at_call 12; refine (works_fr _).mono ?_; rintro e w7 ⟨rfl, f7⟩; have HF7 := Lib.hid (HFo.out.trans f7 (fun _ _ e => e)); clear f7)
        go_ret
        exact ⟨rfl, HF7.out.below (fun _ _ e => e)⟩
  · have HE := Lib.hid hE
    obtain ⟨E, hEE⟩ : ∃ E, chkG G = E := ⟨_, rfl⟩
    rw [hEE] at hE HQc HDc HDg HDk HE
    have hen : (E == 0) = false := by simpa using hE
    obtain ⟨N, hN⟩ : ∃ N, G.length = N := ⟨_, rfl⟩
    rw [hN] at HQc HDc HDg HDk ⊢
    clear hG hN hEE
    go_enter Try.func3, Try.ntmps3
    go_wp2_with (first
      | (go_at_call 8; refine HQc.out.mono ?_; rintro e w1 ⟨rfl, b1⟩; have HF1 := Lib.hid (Fr.of_below (S := fun _ => False) b1); clear b1)
      | (go_at_call 9; refine (HDg.out _ HF1.out).mono ?_; rintro e w2 h; obtain ⟨A2, c2, rfl, hl2, f2⟩ := h.bad HE.out; have HF2 := Lib.hid (HF1.out.trans f2 (fun _ _ e => e)); clear h hl2 f2)
      | (go_at_call 10; refine (HDk.out _ HF2.out).mono ?_; rintro e w3 h; obtain ⟨rfl, f3⟩ := h.2 HE.out; have HF3 := Lib.hid (HF2.out.trans f3 (fun _ _ e => e)); clear h f3)
      | (go_at_call 11; refine (HDc.out _ HF3.out).mono ?_; rintro e w4 ⟨rfl, b4⟩; have HF4 := Lib.hid (HF3.out.then_below b4); clear b4)
      | (go_at_call 12; refine (works_fr _).mono ?_; rintro e w7 ⟨rfl, f7⟩; have HF7 := Lib.hid (HF4.out.trans f7 (fun _ _ e => e)); clear f7))
    go_ret
    exact ⟨rfl, HF7.out.below (fun _ _ e => e)⟩
end Go.Proofs.Ytfpolfcmfdmifaa

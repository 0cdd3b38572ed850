/- What is proved: Check of the program and of the document. Conditions: the graph's cells are there. -/
import Derived.Test.YtfpolfcmfdmifaaKj
namespace Go.Proofs.Ytfpolfcmfdmifaa
open Go.RowKit Go.Shelf
set_option linter.unusedVariables false

set_option maxHeartbeats 1600000 in
set_option maxRecDepth 100000 in
theorem DaCheck_any (A : Option Addr) (c : Nat) (G : List Nd) (w : World) (h : GAt w A G) :
    Calls Try.prog 11 #[.slice A G.length c] w fun e w' => e = .returned (.int .i64 (chkG G)) ∧ Below w.heap.size w w' := by
  have H1 := Lib.hid (fun h => okG_many (G := G) h)
  have H2 := Lib.hid (fun n hn h => okG_bad (G := G) (n := n) hn h)
  have H3 := Lib.hid (fun h h2 => okG_ok (G := G) h h2)
  have HG := Lib.hid (fun w' (f : Fr (fun _ => False) w w') n hn => h.node f n hn)
  have HGd := Lib.hid (getD_nd G)
  obtain ⟨L, hL⟩ : ∃ L, G.length = L := ⟨_, rfl⟩
  have HL := Lib.hid hL
  obtain ⟨R, hR⟩ : ∃ R, chkG G = R := ⟨_, rfl⟩
  rw [hL] at H1 H2 H3 ⊢
  rw [hR] at H1 H2 H3 ⊢
  clear h hL hR
  by_cases h1 : 128 < L
  · have hz : (128 : Int) < (L : Int) := by omega
    have HE := Lib.hid (H1.out h1)
    go_enter Try.func11, Try.ntmps11
    go_wp2
    go_ret
    exact ⟨by rw [HE.out]; rfl, Below.refl _ _⟩
  have hz1 : ¬ (128 : Int) < (L : Int) := by omega
  have HN1 := Lib.hid h1
  clear h1
  go_enter Try.func11, Try.ntmps11
  go_wp2
  clear hz1
  go_loopg [10] L (fun kx s10 wr => ∃ k : Nat, s10 = .int .i64 k ∧ k ≤ L ∧ L - k ≤ kx ∧ Hid (Fr (fun _ => False) w wr) ∧ Hid (∀ i, i < k → okN i (G.getD i default) = true))
  case atStart => exact ⟨0, rfl, by omega, by omega, Lib.hid (Fr.refl _ _), Lib.hid (fun i hi => by omega)⟩
  case round =>
    obtain ⟨k, rfl, hk, hkx, HFr, HB⟩ := hrel
    obtain ⟨wo, rfl⟩ : ∃ wo, wo = wr := ⟨wr, rfl⟩
    by_cases hlt : k < L
    · have hltz : (k : Int) < L := by omega
      have hkG : k < G.length := by rw [HL.out]; exact hlt
      obtain ⟨b, o, hBk, ca, cb, hli, hlc⟩ := HG.out wo HFr.out k hkG
      subst hBk
      have HGk := Lib.hid (HGd.out k hkG)
      obtain ⟨d, hd⟩ : ∃ d, G[k] = d := ⟨_, rfl⟩
      rw [hd] at ca cb hli hlc HGk
      have HNode := Lib.hid (fun (w1 : World) (f : Fr (fun _ => False) wo w1) => DaisNode_any k d hlc w1 (hli.fr f (fun _ _ e => e)))
      have H2k := Lib.hid (H2.out k hlt)
      rw [HGk.out] at H2k
      obtain ⟨r, hr⟩ : ∃ r, okN k d = r := ⟨_, rfl⟩
      rw [hr] at H2k HNode
      have HR := Lib.hid hr
      obtain ⟨cells, hcl⟩ : ∃ c, (#[.slice d.A d.ps.length d.c, .int .i64 d.t] : Array Value) = c := ⟨_, rfl⟩
      obtain ⟨Ad, hAd⟩ : ∃ A, d.A = A := ⟨_, rfl⟩
      obtain ⟨pd, hpd⟩ : ∃ A, d.ps.length = A := ⟨_, rfl⟩
      obtain ⟨cd, hcd⟩ : ∃ A, d.c = A := ⟨_, rfl⟩
      obtain ⟨td, htd⟩ : ∃ A, d.t = A := ⟨_, rfl⟩
      rw [hAd, hpd, hcd] at ca HNode
      rw [htd] at cb HNode
      have cb2 : wo.cell? ⟨b, o + k * 2 + 1, none⟩ = some (.int .i64 td) := by rw [Nat.add_assoc]; exact cb
      obtain ⟨w1, hw1⟩ : ∃ w1, wo.alloc (.cells #[.slice Ad pd cd, .int .i64 td] 55) = w1 := ⟨_, rfl⟩
      have HF1 := Lib.hid (show Fr (fun _ => False) wo w1 from by subst hw1; exact (Fr.refl (fun _ => False) wo).alloc _)
      have HW1 := Lib.hid (show Whole w1 wo.heap.size 55 #[.slice Ad pd cd, .int .i64 td] from by subst hw1; exact Whole.new wo 55 _)
      have d0 : w1.cell? ⟨wo.heap.size, 0, none⟩ = some (.slice Ad pd cd) := by rw [HW1.out.cell]; rfl
      have d1 : w1.cell? ⟨wo.heap.size, 1, none⟩ = some (.int .i64 td) := by rw [HW1.out.cell]; rfl
      clear hcl hAd hpd hcd htd hr hd hli hlc hkG
      have wk := wrap_nat1 k (by have := HN1.out; omega)
      cases r
      · have HE := Lib.hid (H2k.out rfl)
        go_wp2_with (go_at_call 28; refine (HNode.out _ HF1.out).mono ?_; rintro e w2 ⟨rfl, b2⟩)
        go_ret
        exact ⟨by rw [HE.out]; rfl, ((HFr.out.trans HF1.out (fun _ _ e => e)).then_below b2).below (fun _ _ e => e)⟩
      · go_wp2_with (go_at_call 28; refine (HNode.out _ HF1.out).mono ?_; rintro e w2 ⟨rfl, b2⟩; have HF2 := Lib.hid ((HFr.out.trans HF1.out (fun _ _ e => e)).then_below b2); clear b2)
        go_roundg (L - (k + 1))
        case measure => omega
        case rel => exact ⟨k + 1, by go_num, by omega, Nat.le_refl _, HF2, Lib.hid (fun i hi => (by omega : i < k ∨ i = k).elim (HB.out i) (fun e => by rw [e, HGk.out]; exact HR.out))⟩
    · obtain rfl : k = L := by omega
      have HE := Lib.hid (H3.out HN1.out HB.out)
      go_wp2
      go_ret
      exact ⟨by rw [HE.out]; rfl, HFr.out.below (fun _ _ e => e)⟩
end Go.Proofs.Ytfpolfcmfdmifaa

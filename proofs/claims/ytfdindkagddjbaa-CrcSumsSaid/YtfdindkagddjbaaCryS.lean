/- What is proved: the walk of the law CrcSums, for every list of parts and every number. Conditions: the parts lie where they are said to lie. -/
import Derived.Test.YtfdindkagddjbaaCro
import Derived.Test.YtfdindkagddjbaaOwb
import Derived.Deep.RegionHeld3
import Derived.Deep.RegionLaw
namespace Go.Proofs.Ytfdindkagddjbaa.sums
open Go.ChangeShapes Go.WideShapes Go.ChangeAt Go.RowKit
set_option linter.unusedVariables false

set_option maxHeartbeats 1600000 in
theorem walk (A : Option Addr) (cap : Nat) (ps : List (List UInt8)) (c : BitVec 32) (x : Int) (hx : x = rI c) (w : World) (hp : Parts w A ps) (hn : ps.length ≤ 9223372036854775807) :
    Calls Try.prog 3 #[.slice A ps.length cap, .int .u32 x] w fun e w' => e = .returned (.bool true) ∧ Below w.heap.size w w' := by
  obtain ⟨i0, hi, hz0, hz1, hz2⟩ := info_parts info_u8
  have HP := Lib.hid hp
  have HX := Lib.hid hx
  clear hp hx
  go_enter Try.func3, Try.ntmps3
  go_wp2_with fail
  go_loopw [5, 6] (fun v i wr => ∃ k : Nat, k ≤ ps.length ∧ i = .int .i64 k ∧ (ps.take k).flatten.length ≤ 2000 ∧ OwnB w wr v (ps.take k).flatten) (fun _ i _ => ps.length - (intOf i).toNat)
  case atStart => exact ⟨0, by omega, rfl, by simp, World.ownsRow_nil w w.heap.size 5 1, Fr.refl _ _⟩
  case round =>
    obtain ⟨k, hk, rfl, h2000, ho⟩ := hrel
    obtain ⟨A2, c2, rfl, hc2, hl2, hb2⟩ := ho.slice
    obtain ⟨l, hl⟩ : ∃ l, (ps.take k).flatten = l := ⟨_, rfl⟩
    rw [hl] at h2000 ho hc2 hl2 ⊢
    obtain ⟨L, hL⟩ : ∃ L, l.length = L := ⟨_, rfl⟩
    have HLn := Lib.hid hL
    have HO := Lib.hid ho
    have HL2 := Lib.hid hl2
    rw [hL] at h2000 hc2 ⊢
    have hO := ho.1
    rw [hL] at hO
    have HO1 := Lib.hid hO
    clear ho hl2 hO hL
    by_cases hlt : k < ps.length
    · obtain ⟨p, hpk⟩ : ∃ p, ps[k]? = some p := ⟨_, List.getElem?_eq_getElem hlt⟩
      rcases HP.out with h0 | ⟨b, o, hA, hc⟩
      · rw [h0] at hlt
        simp at hlt
      · obtain ⟨Ai, ci, d1, d2, d3⟩ := hc k p hpk
        have c1 := HO.out.2.cell d1 (fun e => e)
        subst hA
        have hft := flatten_take_succ ps k p hpk
        rw [hl] at hft
        obtain ⟨z, hz⟩ : ∃ z, p.length = z := ⟨_, rfl⟩
        have HZn := Lib.hid hz
        have HFT := Lib.hid hft
        have HL3 := Lib.hid (d3.fr HO.out.2 (fun _ _ e => e))
        rw [hz] at c1 d2
        clear hft d1 d3 hz hc
        by_cases hbig : (2000 : Int) - L < z
        · go_wp2_with (go_at_call 7; refine (works_any _).mono ?_; rintro e w4 ⟨rfl, b4⟩)
          go_ret
          exact ⟨rfl, (HO.out.2.then_below b4).below (fun _ _ e => e)⟩
        · go_wp2_with (at_builtin; refine wpList_append_row _ rfl (.tmp 23) (.tmp 27) 24 24 rfl w.heap.size 5 i0 (.int .u8 0) 1 1 Try.underlying24 hi hz0 hz1 hz2 rfl (.slice A2 L c2) L (bytesV l) rfl HO1.out (.slice Ai z ci) z (bytesV p) rfl (Lies.srcB HL3.out HZn.out ci) (by unfold maxLen; omega) (by omega) HO.out.2.size ?_; intro v1 w1 o1 g1 at1)
          have hN : OwnB w w1 v1 (ps.take (k + 1)).flatten := by
            refine ⟨?_, fr_append HO1.out HO.out.2 g1⟩
            rw [HFT.out, List.length_append, HLn.out, HZn.out, bytesV_append]
            exact o1
          have HNw := Lib.hid hN
          have h3 : (ps.take (k + 1)).flatten.length ≤ 2000 := by rw [HFT.out, List.length_append, HLn.out, HZn.out]; omega
          have H3 := Lib.hid h3
          clear hN o1 g1 at1 h3
          go_wp2_with fail
          go_roundw
          case rel => exact ⟨k + 1, by omega, by go_num, H3.out, HNw.out⟩
          case measure => simp [intOf]; omega
    · have hke : k = ps.length := by omega
      have hfl : ps.flatten = l := by rw [← hl, hke, List.take_length]
      have HFL := Lib.hid hfl
      have hm3 : l.length ≤ 9223372036854775807 := by rw [HLn.out]; omega
      have HM3 := Lib.hid hm3
      obtain ⟨z1, hz1⟩ : ∃ z1, rI (more 0#32 l) = z1 := ⟨_, rfl⟩
      obtain ⟨z2, hz2⟩ : ∃ z2, rI (more c l) = z2 := ⟨_, rfl⟩
      have HZ1 := Lib.hid hz1
      have HZ2 := Lib.hid hz2
      clear hl hfl hm3 hz1 hz2
      go_wp2_with (first
        | (go_at_call 8; refine Calls.mono (by have h := COf_any A cap ps wr (HP.out.fr HO.out.2) hn (by rw [HFL.out]; exact HM3.out); rw [HFL.out, HZ1.out] at h; exact h) ?_; rintro e w3 ⟨rfl, b3⟩; have F3 := HO.out.2.then_below b3)
        | (go_at_call 9; refine Calls.mono (by have h := QcOf_any A2 c2 l w3 (HL2.out.fr (Fr.of_below (S := fun _ => False) b3) (fun _ _ e => e)) HM3.out; rw [HLn.out, HZ1.out] at h; exact h) ?_; rintro e w4 ⟨rfl, b4⟩; have F4 := (Fr.of_below (S := fun _ => False) b3).then_below b4)
        | (go_at_call 10; refine Calls.mono (by have h := CMore_any c x HX.out A2 c2 l w4 (HL2.out.fr F4 (fun _ _ e => e)) HM3.out; rw [HLn.out, HZ2.out] at h; exact h) ?_; rintro e w5 ⟨rfl, b5⟩; have F5 := F4.then_below b5)
        | (go_at_call 11; refine Calls.mono (by have h := QcMore_any c x HX.out A2 c2 l w5 (HL2.out.fr F5 (fun _ _ e => e)) HM3.out; rw [HLn.out, HZ2.out] at h; exact h) ?_; rintro e w6 ⟨rfl, b6⟩; have F6 := F5.then_below b6)
        | (go_at_call 7; refine (works_any _).mono ?_; rintro e w7 ⟨rfl, b7⟩; have F7 := F6.then_below b7))
      go_ret
      exact ⟨rfl, (HO.out.2.trans F7 (fun _ _ e => e)).below (fun _ _ e => e)⟩
end Go.Proofs.Ytfdindkagddjbaa.sums

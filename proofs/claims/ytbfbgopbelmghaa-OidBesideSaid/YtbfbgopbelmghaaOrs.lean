/- What is proved: how many digits tell an id from all others, by the program. Conditions: the list's cells are there. -/
import Derived.Test.YtbfbgopbelmghaaOrq
namespace Go.Proofs.Ytbfbgopbelmghaa
open Go.RowKit
set_option linter.unusedVariables false

/-- What stands after so many of the two places. -/
def uptoN (ns : List Nat) (x : Nat) (least : Int) : Nat → Nat
  | 0 => loN least
  | 1 => max (loN least) (nearN ns x ((posN ns x : Int) - 1))
  | _ => max (max (loN least) (nearN ns x ((posN ns x : Int) - 1))) (nearN ns x ((posN ns x : Int) + 1))

theorem sh_le (x y : Nat) : shN x y ≤ 64 := by
  have : shN x y ≤ (List.range 64).length := List.findIdx_le_length
  rwa [List.length_range] at this
theorem near_in (ns : List Nat) (x i : Nat) (h : i < ns.length) : nearN ns x (i : Int) = shN x (gt ns i) + 1 := by
  rw [nearN, if_pos ⟨by omega, by omega⟩, Int.toNat_natCast]
theorem near_out (ns : List Nat) (x : Nat) (z : Int) (h : ¬ (0 ≤ z ∧ z < ns.length)) : nearN ns x z = 0 := by
  rw [nearN, if_neg h]

theorem index_first (z1 z2 : Int) (w : World) : (Instr.index 71 (.agg #[.int .i64 z1, .int .i64 z2]) (.int .i64 0)).run Try.prog w = .ok (.int .i64 z1) w := by kernel_rfl
theorem index_second (z1 z2 : Int) (w : World) : (Instr.index 71 (.agg #[.int .i64 z1, .int .i64 z2]) (.int .i64 1)).run Try.prog w = .ok (.int .i64 z2) w := by kernel_rfl

set_option maxRecDepth 100000 in
set_option maxHeartbeats 3200000 in
theorem OShort_any (A : Option Addr) (cap : Nat) (ns : List Nat) (x : Nat) (least : Int) (h0 : -9223372036854775808 ≤ least) (h1 : least ≤ 9223372036854775807) (hb : ∀ n ∈ ns, n < big) (hx : x < big) (hn : ns.length ≤ 1000) (w : World) (h : Lies w A (flatI ns)) :
    Calls Try.prog 31 #[.slice A ns.length cap, .agg (idC (dgt x)), .int .i64 least] w fun e w' => e = .returned (.int .i64 (shortN ns x least)) ∧ Below w.heap.size w w' := by
  obtain ⟨w1, hw1⟩ : ∃ w1, w.alloc (.cells (idC (dgt x)) 23) = w1 := ⟨_, rfl⟩
  have hF : Fr (fun _ => False) w w1 := by subst hw1; exact (Fr.refl _ w).alloc _
  have hX : Whole w1 w.heap.size 23 (idC (dgt x)) := by subst hw1; exact Whole.new w 23 _
  have hl1 := h.fr hF (fun _ _ e => e)
  have HL := Lib.hid hl1
  have HB := Lib.hid hb
  have HF := Lib.hid hF
  have HX := Lib.hid hX
  have HXB := Lib.hid hx
  have CF := Lib.hid (fun w' (f : Fr (fun _ => False) w1 w') => OFind_any A cap ns x hb hx hn w' (hl1.fr f (fun _ _ e => e)))
  obtain ⟨L, hL⟩ : ∃ L, ns.length = L := ⟨_, rfl⟩
  have HLn := Lib.hid hL
  obtain ⟨cx, hcx⟩ : ∃ c, idC (dgt x) = c := ⟨_, rfl⟩
  have HCX := Lib.hid hcx
  obtain ⟨T32, hT32⟩ : ∃ T : TypeId, T = 23 := ⟨_, rfl⟩
  obtain ⟨n32, hn32⟩ : ∃ n : Nat, n = 32 := ⟨_, rfl⟩
  have ag32 : ∀ w, (isAgg T32).run Try.prog w = .ok true w := by rw [hT32]; exact fun _ => by kernel_rfl
  have sz32 : ∀ w, (sizeOf T32).run Try.prog w = .ok n32 w := by rw [hT32, hn32]; exact fun _ => by kernel_rfl
  have HN32 := Lib.hid hn32
  have lx : (loadCellsFrom ⟨w.heap.size, 0, none⟩ 0 n32 #[]).run Try.prog w1 = .ok (idC (dgt x)) w1 := load_later hX (by rw [idC_size]; exact hn32) (Fr.refl _ _) ⟨w1, Fr.refl _ _⟩
  rw [hL] at hn CF ⊢
  rw [hcx] at hw1 CF lx ⊢
  clear h hb hL hn32 hF hX hl1 hx hcx
  by_cases hh : fHas ns x = true
  · have hr : risB ns = true := by rw [fHas, Bool.and_eq_true] at hh; exact hh.1
    have hhas : hasN ns x = true := by rw [fHas, Bool.and_eq_true] at hh; exact hh.2
    have HSH := Lib.hid (short_near ns x least HB.out HXB.out hr hhas)
    have hpl := (of_decide_eq_true hhas).1
    rw [hh, show fAt ns x = posN ns x by rw [fAt, if_pos hr]] at CF
    have HUP := Lib.hid (show uptoN ns x least 0 = loN least from rfl)
    obtain ⟨p, hp⟩ : ∃ p, posN ns x = p := ⟨_, rfl⟩
    rw [hp] at CF hpl
    rw [HLn.out] at hpl
    have HPP := Lib.hid hp
    have wk1 := wrap_nat1 p (by omega)
    have wkm : IntKind.i64.wrap ((p : Int) - 1) = (p : Int) - 1 := by rw [IntKind.wrap_i64]; omega
    clear hh hr hhas hp
    go_enter Try.func31, Try.ntmps31
    rw [show Op.load 23 (.tmp 4) = Op.load T32 (.tmp 4) by rw [hT32], show Op.load 23 (.tmp 43) = Op.load T32 (.tmp 43) by rw [hT32]]
    clear hT32
    go_wp2_with (go_at_call 23; refine (CF.out w1 (Fr.refl _ _)).mono ?_; rintro e w2 ⟨rfl, b2⟩
                 have HF2 := Lib.hid ((Fr.refl (fun _ => False) w1).then_below b2))
    have hix1 := index_first
    have hix2 := index_second
    have hlo := lo_le least
    obtain ⟨z1, hz1⟩ : ∃ z : Int, (p : Int) - 1 = z := ⟨_, rfl⟩
    obtain ⟨z2, hz2⟩ : ∃ z : Int, (p : Int) + 1 = z := ⟨_, rfl⟩
    obtain ⟨z3, hz3⟩ : ∃ z : Int, min (max least 0) 64 = z := ⟨_, rfl⟩
    obtain ⟨m0, hm0⟩ : ∃ m, loN least = m := ⟨_, rfl⟩
    obtain ⟨m1, hm1⟩ : ∃ m, max m0 (nearN ns x z1) = m := ⟨_, rfl⟩
    obtain ⟨mm2, hm2⟩ : ∃ m, max m1 (nearN ns x z2) = m := ⟨_, rfl⟩
    have hz3' : z3 = m0 := by rw [← hm0, ← hz3]; unfold loN; omega
    have HR : Hid (shortN ns x least = mm2) := Lib.hid (by rw [HSH.out, HPP.out, hz1, hz2, hm0, hm1, hm2])
    have HM1 := Lib.hid hm1
    have HM2 := Lib.hid hm2
    rw [hz1, hz2, hz3, hz3']
    clear hw1 b2 lx wk1 wkm hz1 hz2 hz3 hz3' hm0 hm1 hm2 hlo hpl HSH HUP
    go_loopw [9, 28] (fun n k wr => ((k = .int .i64 0 ∧ n = .int .i64 (m0 : Nat)) ∨ (k = .int .i64 1 ∧ n = .int .i64 (m1 : Nat)) ∨ (k = .int .i64 2 ∧ n = .int .i64 (mm2 : Nat))) ∧ Fr (fun _ => False) w1 wr) (fun _ k _ => 3 - (intOf k).toNat)
    case atStart => exact ⟨.inl ⟨rfl, rfl⟩, HF2.out⟩
    case round =>
      obtain ⟨h | h | h, hf⟩ := hrel
      · obtain ⟨rfl, rfl⟩ := h
        have HFr := Lib.hid hf
        obtain ⟨z, hz⟩ : ∃ z, z = z1 := ⟨_, rfl⟩
        obtain ⟨m, hm⟩ : ∃ z, z = m0 := ⟨_, rfl⟩
        obtain ⟨m2, hm2⟩ : ∃ z, z = m1 := ⟨_, rfl⟩
        have HNX : Hid (max m (nearN ns x z) = m2) := Lib.hid (by rw [hz, hm, hm2]; exact HM1.out)
        have HM := Lib.hid hm2
        rw [← hz, ← hm]
        clear hz hm hm2 hf
        (
          by_cases hin : 0 ≤ z ∧ z < L
          · obtain ⟨i, hi⟩ : ∃ i : Nat, z = i := ⟨z.toNat, by omega⟩
            rw [hi] at hin HNX ⊢
            have hiL : i < L := by omega
            obtain ⟨b, o, hA⟩ := HL.out.some_of (by rw [HLn.out]; omega)
            first | subst hA | (injection hA with hA; injection hA with hA1 hA2 hA3; subst hA1; subst hA2)
            have l1 : ∀ q : Later wr, (loadCellsFrom ⟨b, o + i * 32, none⟩ 0 n32 #[]).run Try.prog q.w' = .ok (idC (dgt (gt ns i))) q.w' := fun q => by rw [HN32.out]; exact load_at HL.out (gt_some ns i (by rw [HLn.out]; exact hiL)) (HFr.out.trans q.fr (fun _ _ e => e))
            have l2 : ∀ q : Later wr, (loadCellsFrom ⟨w.heap.size, 0, none⟩ 0 n32 #[]).run Try.prog q.w' = .ok cx q.w' := fun q => by rw [← HCX.out]; exact load_later HX.out (by rw [idC_size]; exact HN32.out) HFr.out q
            have cc := fun w => Oshared_any x (gt ns i) HXB.out (HB.out _ (gt_mem ns i (by rw [HLn.out]; exact hiL))) w
            have hs64 := sh_le x (gt ns i)
            have HNR := Lib.hid (near_in ns x i (by rw [HLn.out]; exact hiL))
            obtain ⟨s, hs⟩ : ∃ s, shN x (gt ns i) = s := ⟨_, rfl⟩
            obtain ⟨ca, hca⟩ : ∃ c, idC (dgt (gt ns i)) = c := ⟨_, rfl⟩
            rw [hca] at l1 cc
            rw [hs, HCX.out] at cc
            rw [hs] at hs64 HNR
            have CC := Lib.hid cc
            have hi0 : (i : Int) < L := by omega
            have hd0 : decide ((i : Int) < L) = true := decide_eq_true hi0
            have wi := wrap_nat i (by omega)
            have ws1 := wrap_nat1 s (by omega)
            clear hca hs cc hin hi
            go_wp2_with fail
            refine wp_region_later (w0 := wr) (Fr.refl _ _) (by kernel_rfl) (by kernel_rfl) ?_
            repeat (quiet_step ((go_at_call 44; refine Calls.later_of (CC.out _))))
            refine wpQuiet_nil ?_
            intro _ hw'
            obtain ⟨q, hw''⟩ := hw'
            subst hw''
            have HFn := Lib.hid (HFr.out.trans q.fr (fun _ _ e => e))
            have HEQ : Hid (max (m : Int) ((s : Int) + 1) = (m2 : Nat)) := Lib.hid (by have h1 := HNX.out; have h2 := HNR.out; omega)
            go_wp2_with fail
            go_roundw
            case rel => (exact ⟨.inr (.inl ⟨rfl, by rw [HEQ.out, HM.out]⟩), HFn.out⟩)
            case measure => simp [intOf]
          · have HEQ : Hid ((m : Int) = (m2 : Nat)) := Lib.hid (by have h1 := HNX.out; have h2 := near_out ns x z (by rw [HLn.out]; exact hin); omega)
            have HFn := HFr
            by_cases hz0 : 0 ≤ z
            · have hzL : ¬ z < L := fun h => hin ⟨hz0, h⟩
              have hd0 : decide (z < (L : Int)) = false := decide_eq_false hzL
              have hd1 : decide (0 ≤ z) = true := decide_eq_true hz0
              go_wp2_with fail
              go_roundw
              case rel => (exact ⟨.inr (.inl ⟨rfl, by rw [HEQ.out, HM.out]⟩), HFn.out⟩)
              case measure => simp [intOf]
            · have hd1 : decide (0 ≤ z) = false := decide_eq_false hz0
              go_wp2_with fail
              go_roundw
              case rel => (exact ⟨.inr (.inl ⟨rfl, by rw [HEQ.out, HM.out]⟩), HFn.out⟩)
              case measure => simp [intOf])
      · obtain ⟨rfl, rfl⟩ := h
        have HFr := Lib.hid hf
        obtain ⟨z, hz⟩ : ∃ z, z = z2 := ⟨_, rfl⟩
        obtain ⟨m, hm⟩ : ∃ z, z = m1 := ⟨_, rfl⟩
        obtain ⟨m2, hm2⟩ : ∃ z, z = mm2 := ⟨_, rfl⟩
        have HNX : Hid (max m (nearN ns x z) = m2) := Lib.hid (by rw [hz, hm, hm2]; exact HM2.out)
        have HM := Lib.hid hm2
        rw [← hz, ← hm]
        clear hz hm hm2 hf
        (
          by_cases hin : 0 ≤ z ∧ z < L
          · obtain ⟨i, hi⟩ : ∃ i : Nat, z = i := ⟨z.toNat, by omega⟩
            rw [hi] at hin HNX ⊢
            have hiL : i < L := by omega
            obtain ⟨b, o, hA⟩ := HL.out.some_of (by rw [HLn.out]; omega)
            first | subst hA | (injection hA with hA; injection hA with hA1 hA2 hA3; subst hA1; subst hA2)
            have l1 : ∀ q : Later wr, (loadCellsFrom ⟨b, o + i * 32, none⟩ 0 n32 #[]).run Try.prog q.w' = .ok (idC (dgt (gt ns i))) q.w' := fun q => by rw [HN32.out]; exact load_at HL.out (gt_some ns i (by rw [HLn.out]; exact hiL)) (HFr.out.trans q.fr (fun _ _ e => e))
            have l2 : ∀ q : Later wr, (loadCellsFrom ⟨w.heap.size, 0, none⟩ 0 n32 #[]).run Try.prog q.w' = .ok cx q.w' := fun q => by rw [← HCX.out]; exact load_later HX.out (by rw [idC_size]; exact HN32.out) HFr.out q
            have cc := fun w => Oshared_any x (gt ns i) HXB.out (HB.out _ (gt_mem ns i (by rw [HLn.out]; exact hiL))) w
            have hs64 := sh_le x (gt ns i)
            have HNR := Lib.hid (near_in ns x i (by rw [HLn.out]; exact hiL))
            obtain ⟨s, hs⟩ : ∃ s, shN x (gt ns i) = s := ⟨_, rfl⟩
            obtain ⟨ca, hca⟩ : ∃ c, idC (dgt (gt ns i)) = c := ⟨_, rfl⟩
            rw [hca] at l1 cc
            rw [hs, HCX.out] at cc
            rw [hs] at hs64 HNR
            have CC := Lib.hid cc
            have hi0 : (i : Int) < L := by omega
            have hd0 : decide ((i : Int) < L) = true := decide_eq_true hi0
            have wi := wrap_nat i (by omega)
            have ws1 := wrap_nat1 s (by omega)
            clear hca hs cc hin hi
            go_wp2_with fail
            refine wp_region_later (w0 := wr) (Fr.refl _ _) (by kernel_rfl) (by kernel_rfl) ?_
            repeat (quiet_step ((go_at_call 44; refine Calls.later_of (CC.out _))))
            refine wpQuiet_nil ?_
            intro _ hw'
            obtain ⟨q, hw''⟩ := hw'
            subst hw''
            have HFn := Lib.hid (HFr.out.trans q.fr (fun _ _ e => e))
            have HEQ : Hid (max (m : Int) ((s : Int) + 1) = (m2 : Nat)) := Lib.hid (by have h1 := HNX.out; have h2 := HNR.out; omega)
            go_wp2_with fail
            go_roundw
            case rel => (exact ⟨.inr (.inr ⟨rfl, by rw [HEQ.out, HM.out]⟩), HFn.out⟩)
            case measure => simp [intOf]
          · have HEQ : Hid ((m : Int) = (m2 : Nat)) := Lib.hid (by have h1 := HNX.out; have h2 := near_out ns x z (by rw [HLn.out]; exact hin); omega)
            have HFn := HFr
            by_cases hz0 : 0 ≤ z
            · have hzL : ¬ z < L := fun h => hin ⟨hz0, h⟩
              have hd0 : decide (z < (L : Int)) = false := decide_eq_false hzL
              have hd1 : decide (0 ≤ z) = true := decide_eq_true hz0
              go_wp2_with fail
              go_roundw
              case rel => (exact ⟨.inr (.inr ⟨rfl, by rw [HEQ.out, HM.out]⟩), HFn.out⟩)
              case measure => simp [intOf]
            · have hd1 : decide (0 ≤ z) = false := decide_eq_false hz0
              go_wp2_with fail
              go_roundw
              case rel => (exact ⟨.inr (.inr ⟨rfl, by rw [HEQ.out, HM.out]⟩), HFn.out⟩)
              case measure => simp [intOf])
      · obtain ⟨rfl, rfl⟩ := h
        have HFr := Lib.hid hf
        clear hf
        go_wp2_with fail
        go_ret
        exact ⟨by rw [HR.out]; rfl, (HF.out.trans HFr.out (fun _ _ e => e)).below (fun _ _ e => e)⟩
  · have hh' : fHas ns x = false := by simpa using hh
    rw [hh'] at CF
    have HZ : shortN ns x least = 0 := by rw [shortN, if_neg hh]
    rw [HZ]
    clear hh hh' HZ
    go_enter Try.func31, Try.ntmps31
    rw [show Op.load 23 (.tmp 4) = Op.load T32 (.tmp 4) by rw [hT32]]
    clear hT32
    go_wp2_with (go_at_call 23; refine (CF.out w1 (Fr.refl _ _)).mono ?_; rintro e w2 ⟨rfl, b2⟩
                 have HF2 := Lib.hid ((Fr.refl (fun _ => False) w1).then_below b2))
    go_ret
    exact ⟨rfl, (HF.out.trans HF2.out (fun _ _ e => e)).below (fun _ _ e => e)⟩
end Go.Proofs.Ytbfbgopbelmghaa

/- What is proved: how many digits tell an id from all others, by the document. Conditions: the list's cells are there. -/
import Derived.Test.YtbfbgopbelmghaaOrt
namespace Go.Proofs.Ytbfbgopbelmghaa
open Go.RowKit
set_option linter.unusedVariables false

set_option maxRecDepth 100000 in
set_option maxHeartbeats 6400000 in
theorem QShort_any (A : Option Addr) (cap : Nat) (ns : List Nat) (x : Nat) (least : Int) (h0 : -9223372036854775808 ≤ least) (h1 : least ≤ 9223372036854775807) (hb : ∀ n ∈ ns, n < big) (hx : x < big) (hn : ns.length ≤ 1000) (w : World) (h : Lies w A (flatI ns)) :
    Calls Try.prog 32 #[.slice A ns.length cap, .agg (idC (dgt x)), .int .i64 least] w fun e w' => e = .returned (.int .i64 (shortN ns x least)) ∧ Below w.heap.size w w' := by
  obtain ⟨w1, hw1⟩ : ∃ w1, w.alloc (.cells (idC (dgt x)) 23) = w1 := ⟨_, rfl⟩
  have hF : Fr (fun _ => False) w w1 := by subst hw1; exact (Fr.refl _ w).alloc _
  have hX : Whole w1 w.heap.size 23 (idC (dgt x)) := by subst hw1; exact Whole.new w 23 _
  have hl1 := h.fr hF (fun _ _ e => e)
  have HL := Lib.hid hl1
  have HB := Lib.hid hb
  have HF := Lib.hid hF
  have HX := Lib.hid hX
  have HXB := Lib.hid hx
  have CF := Lib.hid (fun w' (f : Fr (fun _ => False) w1 w') => QFind_any A cap ns x hb hx hn w' (hl1.fr f (fun _ _ e => e)))
  have CD := Lib.hid (fun w' => QDigits_any (dgt x) (dgt_lt x) w')
  obtain ⟨L, hL⟩ : ∃ L, ns.length = L := ⟨_, rfl⟩
  have HLn := Lib.hid hL
  obtain ⟨cx, hcx⟩ : ∃ c, idC (dgt x) = c := ⟨_, rfl⟩
  have HCX := Lib.hid hcx
  obtain ⟨T32, hT32⟩ : ∃ T : TypeId, T = 23 := ⟨_, rfl⟩
  obtain ⟨n32, hn32⟩ : ∃ n : Nat, n = 32 := ⟨_, rfl⟩
  have ag32 : ∀ w, (isAgg T32).run Try.prog w = .ok true w := by rw [hT32]; exact fun _ => by kernel_rfl
  have sz32 : ∀ w, (sizeOf T32).run Try.prog w = .ok n32 w := by rw [hT32, hn32]; exact fun _ => by kernel_rfl
  have HN32 := Lib.hid hn32
  have lx : (loadCellsFrom ⟨w.heap.size, 0, none⟩ 0 n32 #[]).run Try.prog w1 = .ok (idC (dgt x)) w1 := load_later hX (by rw [idC_size]; exact hn32) (Fr.refl _ _) ⟨w1, Fr.refl _ _⟩
  have HLD := Lib.hid (fun w' (f : Fr (fun _ => False) w1 w') => (load_later hX (by rw [idC_size]; exact hn32) f ⟨w', Fr.refl _ _⟩ : (loadCellsFrom ⟨w.heap.size, 0, none⟩ 0 n32 #[]).run Try.prog w' = .ok (idC (dgt x)) w'))
  rw [hL] at hn CF ⊢
  rw [hcx] at hw1 CF CD lx HLD ⊢
  clear h hb hL hn32 hF hX hl1 hx hcx
  by_cases hh : fHas ns x = true
  · rw [hh] at CF
    have HH := Lib.hid hh
    obtain ⟨p, hp⟩ : ∃ p, fAt ns x = p := ⟨_, rfl⟩
    rw [hp] at CF
    clear hh hp
    by_cases hneg : least < 0
    · have hd0 : decide (least < 0) = true := decide_eq_true hneg
      obtain ⟨v, hv⟩ : ∃ v : Nat, (v : Int) = 0 := ⟨0, rfl⟩
      have HV := Lib.hid hv
      have HLO : Hid (loN least = min v 64) := Lib.hid (by unfold loN; omega)
      clear hv
      go_enter Try.func32, Try.ntmps32
      rw [show Op.load 23 (.tmp 4) = Op.load T32 (.tmp 4) by rw [hT32], show Op.load 23 (.tmp 41) = Op.load T32 (.tmp 41) by rw [hT32], show Op.load 23 (.tmp 46) = Op.load T32 (.tmp 46) by rw [hT32]]
      clear hT32
      go_wp2_with (first
        | (go_at_call 35; refine (CD.out w2).mono ?_; rintro e w3 ⟨Ax, c3, rfl, hc3, hld, b3⟩
           obtain ⟨gb, ob, rfl, hcell⟩ := hld.at
           have HC := Lib.hid hcell
           have HF3 := Lib.hid (HF2.out.then_below b3)
           clear hld b3 hcell)
        | (go_at_call 24; refine (CF.out w1 (Fr.refl _ _)).mono ?_; rintro e w2 ⟨rfl, b2⟩
           have HF2 := Lib.hid ((Fr.refl (fun _ => False) w1).then_below b2)
           have l2 := HLD.out w2 HF2.out))
      (
        go_loopw [10] (fun i wr => ∃ n : Nat, v ≤ n ∧ (n ≤ 64 ∨ n = v) ∧ i = .int .i64 n ∧ Hid (∀ k, v ≤ k → k < n → aloneB ns x k = false) ∧ Fr (fun _ => False) w3 wr) (fun i _ => 65 - (intOf i).toNat)
        case atStart => exact ⟨v, by omega, by omega, by first | rfl | rw [HV.out], Lib.hid (fun k h1 h2 => by omega), Fr.refl _ _⟩
        case round =>
          obtain ⟨n, hvn, hn64, rfl, hz, hf⟩ := hrel
          have HFn := Lib.hid hf
          by_cases hlt : n < 64
          · obtain ⟨wo, hwo⟩ : ∃ wo, wr = wo := ⟨_, rfl⟩
            rw [hwo] at HFn ⊢
            clear hf hwo
            have hn0 : (n : Int) < 64 := by omega
            have wn1 := wrap_nat1 n (by omega)
            go_wp2_with fail
            go_loopw [11, 12] (fun al i wr => ∃ k : Nat, k ≤ L ∧ i = .int .i64 k ∧ al = .bool (aloneB (ns.take k) x n) ∧ Fr (fun _ => False) w3 wr) (fun _ i _ => L - (intOf i).toNat)
            case atStart => exact ⟨0, by omega, rfl, rfl, HFn.out⟩
            case round =>
              obtain ⟨k, hk, rfl, rfl, hf⟩ := hrel
              have HFk := Lib.hid hf
              obtain ⟨al, hal⟩ : ∃ a, aloneB (ns.take k) x n = a := ⟨_, rfl⟩
              have HAL := Lib.hid hal
              by_cases hkl : k < L
              · obtain ⟨b, o, hA⟩ := HL.out.some_of (by rw [HLn.out]; omega)
                first | subst hA | (injection hA with hA; injection hA with hA1 hA2 hA3; subst hA1; subst hA2)
                have hyb := HB.out _ (gt_mem ns k (by rw [HLn.out]; exact hkl))
                have HGS := Lib.hid (gt_some ns k (by rw [HLn.out]; exact hkl))
                have HST := Lib.hid (alone_take ns x n k (by rw [HLn.out]; exact hkl))
                rw [hal] at HST ⊢
                obtain ⟨y, hy⟩ : ∃ y, gt ns k = y := ⟨_, rfl⟩
                rw [hy] at hyb HGS HST
                have HYB := Lib.hid hyb
                have cd := fun w' => QDigits_any (dgt y) (dgt_lt y) w'
                have hey := fun w => eq_nums y x hyb HXB.out w
                have HS0 := Lib.hid (sameTo_zero x y HXB.out hyb)
                have HS1 := Lib.hid (fun j hj h => sameTo_succ x y j HXB.out hyb hj h)
                obtain ⟨wp, hwp⟩ : ∃ wp, wr = wp := ⟨_, rfl⟩
                rw [hwp] at HFk ⊢
                have l1 : (loadCellsFrom ⟨b, o + k * 32, none⟩ 0 n32 #[]).run Try.prog wp = .ok (idC (dgt y)) wp := by rw [HN32.out]; exact load_at HL.out HGS.out (HF3.out.trans HFk.out (fun _ _ e => e))
                have HL1 := Lib.hid (fun w' (f : Fr (fun _ => False) w1 w') => (by rw [HN32.out]; exact load_at HL.out HGS.out f : (loadCellsFrom ⟨b, o + k * 32, none⟩ 0 n32 #[]).run Try.prog w' = .ok (idC (dgt y)) w'))
                obtain ⟨cy, hcy⟩ : ∃ c, idC (dgt y) = c := ⟨_, rfl⟩
                obtain ⟨e0, he0⟩ : ∃ e, (y == x) = e := ⟨_, rfl⟩
                rw [hcy] at l1 cd hey HL1
                rw [HCX.out, he0] at hey
                have HE0 := Lib.hid he0
                have CDY := Lib.hid cd
                have hk0 : (k : Int) < L := by omega
                have wk := wrap_nat k (by omega)
                have wk1 := wrap_nat1 k (by omega)
                clear hyb hcy cd hf hwp hy he0 hal
                go_wp2_with (go_at_call 35; refine (CDY.out wp).mono ?_; rintro e w4 ⟨Ay, c4, rfl, hc4, hld4, b4⟩
                             obtain ⟨yb, oy, rfl, hcell4⟩ := hld4.at
                             have HC4 := Lib.hid hcell4
                             have HF4 := Lib.hid (HFk.out.then_below b4)
                             clear hld4 b4 hcell4)
                have HF4' := Lib.hid (HF3.out.trans HF4.out (fun _ _ e => e))
                have l3 : ∀ q : Later w4, (loadCellsFrom ⟨b, o + k * 32, none⟩ 0 n32 #[]).run Try.prog q.w' = .ok cy q.w' := fun q => HL1.out _ (HF4'.out.trans q.fr (fun _ _ e => e))
                have l4 : ∀ q : Later w4, (loadCellsFrom ⟨w.heap.size, 0, none⟩ 0 n32 #[]).run Try.prog q.w' = .ok cx q.w' := fun q => HLD.out _ (HF4'.out.trans q.fr (fun _ _ e => e))
                clear l1
                refine wp_region_later (w0 := w4) (Fr.refl _ _) (by kernel_rfl) (by kernel_rfl) ?_
                repeat (quiet_step (fail))
                refine wpQuiet_nil ?_
                intro _ hw'
                obtain ⟨q, hw''⟩ := hw'
                subst hw''
                have HF5 := Lib.hid (HF4.out.trans q.fr (fun _ _ e => e))
                have HC5 := Lib.hid (fun j (hj : j < 64) => q.fr.cell (HC4.out j hj) (fun e => e))
                have HC3 := Lib.hid (fun j (hj : j < 64) => HF5.out.cell (HC.out j hj) (fun e => e))
                obtain ⟨w5, hw5⟩ : ∃ w5, q.w' = w5 := ⟨_, rfl⟩
                rw [hw5] at HF5 HC5 HC3 ⊢
                clear hw5 l3 l4 hey
                go_wp2_with fail
                go_loopw [14, 15] (fun sm i wr => ∃ j : Nat, j ≤ n ∧ i = .int .i64 j ∧ sm = .bool (sameTo x y j) ∧ Fr (fun _ => False) w5 wr) (fun _ i _ => n - (intOf i).toNat)
                case atStart => exact ⟨0, by omega, rfl, by rw [HS0.out, HE0.out], Fr.refl _ _⟩
                case round =>
                  obtain ⟨j, hj, rfl, rfl, hf⟩ := hrel
                  obtain ⟨sm, hsm⟩ : ∃ s, sameTo x y j = s := ⟨_, rfl⟩
                  have HSM := Lib.hid hsm
                  have HFj := Lib.hid hf
                  rw [hsm]
                  by_cases hjn : j < n
                  · have hj0 : (j : Int) < n := by omega
                    have hdj : decide ((j : Int) < n) = true := decide_eq_true hj0
                    have wj1 := wrap_nat1 j (by omega)
                    cases sm
                    · have HEX := Lib.hid (sameTo_mono x y j n (by omega) (by omega) hsm)
                      clear hsm hf
                      cases al <;> (
                        go_wp2_with fail
                        go_roundw
                        case rel => exact ⟨k + 1, by omega, by go_num, by rw [HST.out, HEX.out]; rfl, HF5.out.trans HFj.out (fun _ _ e => e)⟩
                        case measure => simp [intOf]; omega)
                    · have HNX := Lib.hid (HS1.out j (by omega) hsm)
                      obtain ⟨ya, hya⟩ : ∃ z : Int, ((dgt x j : Nat) : Int) = z := ⟨_, rfl⟩
                      obtain ⟨yz, hyz⟩ : ∃ z : Int, ((dgt y j : Nat) : Int) = z := ⟨_, rfl⟩
                      have c1 : ∀ q : Later wr, q.w'.cell? ⟨gb, ob + j, none⟩ = some (.int .i64 ya) := fun q => by rw [← hya]; exact (hf.trans q.fr (fun _ _ e => e)).cell (HC3.out j (by omega)) (fun e => e)
                      have c2 : ∀ q : Later wr, q.w'.cell? ⟨yb, oy + j, none⟩ = some (.int .i64 yz) := fun q => by rw [← hyz]; exact (hf.trans q.fr (fun _ _ e => e)).cell (HC5.out j (by omega)) (fun e => e)
                      have HY := Lib.hid hya
                      have HZ := Lib.hid hyz
                      have hj64 : (j : Int) < 64 := by omega
                      obtain ⟨e1, he1⟩ : ∃ e, (ya == yz) = e := ⟨_, rfl⟩
                      have HE1 : Hid (sameTo x y (j + 1) = e1) := Lib.hid (by
                        rw [HNX.out, ← he1, ← hya, ← hyz, Bool.eq_iff_iff, decide_eq_true_eq, beq_iff_eq]
                        omega)
                      clear hya hyz hf hsm
                      go_wp2_with fail
                      refine wp_region_later (w0 := wr) (Fr.refl _ _) (by kernel_rfl) (by kernel_rfl) ?_
                      repeat (quiet_step (fail))
                      refine wpQuiet_nil ?_
                      intro _ hw'
                      obtain ⟨q, hw''⟩ := hw'
                      subst hw''
                      go_wp2_with fail
                      go_roundw
                      case rel => exact ⟨j + 1, by omega, by go_num, by rw [HE1.out], HFj.out.trans q.fr (fun _ _ e => e)⟩
                      case measure => simp [intOf]; omega
                  · obtain rfl : j = n := by omega
                    have HEX := Lib.hid hsm
                    have hj0 : ¬ ((j : Int) < j) := by omega
                    clear hsm hf
                    cases al <;> cases sm <;> (
                      go_wp2_with fail
                      go_roundw
                      case rel => exact ⟨k + 1, by omega, by go_num, by rw [HST.out, HEX.out]; rfl, HF5.out.trans HFj.out (fun _ _ e => e)⟩
                      case measure => simp [intOf]; omega)
              · obtain rfl : k = L := by omega
                have HAA : Hid (aloneB ns x n = al) := Lib.hid (by
                  have := HAL.out
                  rwa [List.take_of_length_le (by rw [HLn.out]; exact Nat.le_refl _)] at this)
                rw [hal]
                clear hal hf
                cases al
                · have HZN := Lib.hid (fun j (h1 : v ≤ j) (h2 : j < n + 1) => (by omega : j < n ∨ j = n).elim (hz.out j h1) (fun e => e ▸ HAA.out))
                  go_wp2_with fail
                  go_roundw
                  case rel => exact ⟨n + 1, by omega, by omega, by go_num, HZN, HFk.out⟩
                  case measure => simp [intOf]; omega
                · have HR := Lib.hid (short_unique ns x least n HH.out (by have := HLO.out; omega) (by omega) (fun j h1 h2 => hz.out j (by have := HLO.out; omega) h2) (fun _ => HAA.out))
                  go_wp2_with fail
                  go_ret
                  exact ⟨by rw [HR.out]; rfl, (HF.out.trans (HF3.out.trans HFk.out (fun _ _ e => e)) (fun _ _ e => e)).below (fun _ _ e => e)⟩
          · have hn0 : ¬ ((n : Int) < 64) := by omega
            have HR := Lib.hid (short_unique ns x least 64 HH.out (lo_le least) (by omega) (fun j h1 h2 => hz.out j (by have := HLO.out; omega) (by omega)) (fun h => by omega))
            clear hf
            go_wp2_with fail
            go_ret
            exact ⟨by rw [HR.out]; rfl, (HF.out.trans (HF3.out.trans HFn.out (fun _ _ e => e)) (fun _ _ e => e)).below (fun _ _ e => e)⟩)
    · obtain ⟨v, rfl⟩ : ∃ v : Nat, least = v := ⟨least.toNat, by omega⟩
      have hd0 : decide ((v : Int) < 0) = false := decide_eq_false hneg
      have HV := Lib.hid (rfl : (v : Int) = v)
      have HLO : Hid (loN (v : Int) = min v 64) := Lib.hid (by unfold loN; omega)
      go_enter Try.func32, Try.ntmps32
      rw [show Op.load 23 (.tmp 4) = Op.load T32 (.tmp 4) by rw [hT32], show Op.load 23 (.tmp 41) = Op.load T32 (.tmp 41) by rw [hT32], show Op.load 23 (.tmp 46) = Op.load T32 (.tmp 46) by rw [hT32]]
      clear hT32
      go_wp2_with (first
        | (go_at_call 35; refine (CD.out w2).mono ?_; rintro e w3 ⟨Ax, c3, rfl, hc3, hld, b3⟩
           obtain ⟨gb, ob, rfl, hcell⟩ := hld.at
           have HC := Lib.hid hcell
           have HF3 := Lib.hid (HF2.out.then_below b3)
           clear hld b3 hcell)
        | (go_at_call 24; refine (CF.out w1 (Fr.refl _ _)).mono ?_; rintro e w2 ⟨rfl, b2⟩
           have HF2 := Lib.hid ((Fr.refl (fun _ => False) w1).then_below b2)
           have l2 := HLD.out w2 HF2.out))
      (
        go_loopw [10] (fun i wr => ∃ n : Nat, v ≤ n ∧ (n ≤ 64 ∨ n = v) ∧ i = .int .i64 n ∧ Hid (∀ k, v ≤ k → k < n → aloneB ns x k = false) ∧ Fr (fun _ => False) w3 wr) (fun i _ => 65 - (intOf i).toNat)
        case atStart => exact ⟨v, by omega, by omega, by first | rfl | rw [HV.out], Lib.hid (fun k h1 h2 => by omega), Fr.refl _ _⟩
        case round =>
          obtain ⟨n, hvn, hn64, rfl, hz, hf⟩ := hrel
          have HFn := Lib.hid hf
          by_cases hlt : n < 64
          · obtain ⟨wo, hwo⟩ : ∃ wo, wr = wo := ⟨_, rfl⟩
            rw [hwo] at HFn ⊢
            clear hf hwo
            have hn0 : (n : Int) < 64 := by omega
            have wn1 := wrap_nat1 n (by omega)
            go_wp2_with fail
            go_loopw [11, 12] (fun al i wr => ∃ k : Nat, k ≤ L ∧ i = .int .i64 k ∧ al = .bool (aloneB (ns.take k) x n) ∧ Fr (fun _ => False) w3 wr) (fun _ i _ => L - (intOf i).toNat)
            case atStart => exact ⟨0, by omega, rfl, rfl, HFn.out⟩
            case round =>
              obtain ⟨k, hk, rfl, rfl, hf⟩ := hrel
              have HFk := Lib.hid hf
              obtain ⟨al, hal⟩ : ∃ a, aloneB (ns.take k) x n = a := ⟨_, rfl⟩
              have HAL := Lib.hid hal
              by_cases hkl : k < L
              · obtain ⟨b, o, hA⟩ := HL.out.some_of (by rw [HLn.out]; omega)
                first | subst hA | (injection hA with hA; injection hA with hA1 hA2 hA3; subst hA1; subst hA2)
                have hyb := HB.out _ (gt_mem ns k (by rw [HLn.out]; exact hkl))
                have HGS := Lib.hid (gt_some ns k (by rw [HLn.out]; exact hkl))
                have HST := Lib.hid (alone_take ns x n k (by rw [HLn.out]; exact hkl))
                rw [hal] at HST ⊢
                obtain ⟨y, hy⟩ : ∃ y, gt ns k = y := ⟨_, rfl⟩
                rw [hy] at hyb HGS HST
                have HYB := Lib.hid hyb
                have cd := fun w' => QDigits_any (dgt y) (dgt_lt y) w'
                have hey := fun w => eq_nums y x hyb HXB.out w
                have HS0 := Lib.hid (sameTo_zero x y HXB.out hyb)
                have HS1 := Lib.hid (fun j hj h => sameTo_succ x y j HXB.out hyb hj h)
                obtain ⟨wp, hwp⟩ : ∃ wp, wr = wp := ⟨_, rfl⟩
                rw [hwp] at HFk ⊢
                have l1 : (loadCellsFrom ⟨b, o + k * 32, none⟩ 0 n32 #[]).run Try.prog wp = .ok (idC (dgt y)) wp := by rw [HN32.out]; exact load_at HL.out HGS.out (HF3.out.trans HFk.out (fun _ _ e => e))
                have HL1 := Lib.hid (fun w' (f : Fr (fun _ => False) w1 w') => (by rw [HN32.out]; exact load_at HL.out HGS.out f : (loadCellsFrom ⟨b, o + k * 32, none⟩ 0 n32 #[]).run Try.prog w' = .ok (idC (dgt y)) w'))
                obtain ⟨cy, hcy⟩ : ∃ c, idC (dgt y) = c := ⟨_, rfl⟩
                obtain ⟨e0, he0⟩ : ∃ e, (y == x) = e := ⟨_, rfl⟩
                rw [hcy] at l1 cd hey HL1
                rw [HCX.out, he0] at hey
                have HE0 := Lib.hid he0
                have CDY := Lib.hid cd
                have hk0 : (k : Int) < L := by omega
                have wk := wrap_nat k (by omega)
                have wk1 := wrap_nat1 k (by omega)
                clear hyb hcy cd hf hwp hy he0 hal
                go_wp2_with (go_at_call 35; refine (CDY.out wp).mono ?_; rintro e w4 ⟨Ay, c4, rfl, hc4, hld4, b4⟩
                             obtain ⟨yb, oy, rfl, hcell4⟩ := hld4.at
                             have HC4 := Lib.hid hcell4
                             have HF4 := Lib.hid (HFk.out.then_below b4)
                             clear hld4 b4 hcell4)
                have HF4' := Lib.hid (HF3.out.trans HF4.out (fun _ _ e => e))
                have l3 : ∀ q : Later w4, (loadCellsFrom ⟨b, o + k * 32, none⟩ 0 n32 #[]).run Try.prog q.w' = .ok cy q.w' := fun q => HL1.out _ (HF4'.out.trans q.fr (fun _ _ e => e))
                have l4 : ∀ q : Later w4, (loadCellsFrom ⟨w.heap.size, 0, none⟩ 0 n32 #[]).run Try.prog q.w' = .ok cx q.w' := fun q => HLD.out _ (HF4'.out.trans q.fr (fun _ _ e => e))
                clear l1
                refine wp_region_later (w0 := w4) (Fr.refl _ _) (by kernel_rfl) (by kernel_rfl) ?_
                repeat (quiet_step (fail))
                refine wpQuiet_nil ?_
                intro _ hw'
                obtain ⟨q, hw''⟩ := hw'
                subst hw''
                have HF5 := Lib.hid (HF4.out.trans q.fr (fun _ _ e => e))
                have HC5 := Lib.hid (fun j (hj : j < 64) => q.fr.cell (HC4.out j hj) (fun e => e))
                have HC3 := Lib.hid (fun j (hj : j < 64) => HF5.out.cell (HC.out j hj) (fun e => e))
                obtain ⟨w5, hw5⟩ : ∃ w5, q.w' = w5 := ⟨_, rfl⟩
                rw [hw5] at HF5 HC5 HC3 ⊢
                clear hw5 l3 l4 hey
                go_wp2_with fail
                go_loopw [14, 15] (fun sm i wr => ∃ j : Nat, j ≤ n ∧ i = .int .i64 j ∧ sm = .bool (sameTo x y j) ∧ Fr (fun _ => False) w5 wr) (fun _ i _ => n - (intOf i).toNat)
                case atStart => exact ⟨0, by omega, rfl, by rw [HS0.out, HE0.out], Fr.refl _ _⟩
                case round =>
                  obtain ⟨j, hj, rfl, rfl, hf⟩ := hrel
                  obtain ⟨sm, hsm⟩ : ∃ s, sameTo x y j = s := ⟨_, rfl⟩
                  have HSM := Lib.hid hsm
                  have HFj := Lib.hid hf
                  rw [hsm]
                  by_cases hjn : j < n
                  · have hj0 : (j : Int) < n := by omega
                    have hdj : decide ((j : Int) < n) = true := decide_eq_true hj0
                    have wj1 := wrap_nat1 j (by omega)
                    cases sm
                    · have HEX := Lib.hid (sameTo_mono x y j n (by omega) (by omega) hsm)
                      clear hsm hf
                      cases al <;> (
                        go_wp2_with fail
                        go_roundw
                        case rel => exact ⟨k + 1, by omega, by go_num, by rw [HST.out, HEX.out]; rfl, HF5.out.trans HFj.out (fun _ _ e => e)⟩
                        case measure => simp [intOf]; omega)
                    · have HNX := Lib.hid (HS1.out j (by omega) hsm)
                      obtain ⟨ya, hya⟩ : ∃ z : Int, ((dgt x j : Nat) : Int) = z := ⟨_, rfl⟩
                      obtain ⟨yz, hyz⟩ : ∃ z : Int, ((dgt y j : Nat) : Int) = z := ⟨_, rfl⟩
                      have c1 : ∀ q : Later wr, q.w'.cell? ⟨gb, ob + j, none⟩ = some (.int .i64 ya) := fun q => by rw [← hya]; exact (hf.trans q.fr (fun _ _ e => e)).cell (HC3.out j (by omega)) (fun e => e)
                      have c2 : ∀ q : Later wr, q.w'.cell? ⟨yb, oy + j, none⟩ = some (.int .i64 yz) := fun q => by rw [← hyz]; exact (hf.trans q.fr (fun _ _ e => e)).cell (HC5.out j (by omega)) (fun e => e)
                      have HY := Lib.hid hya
                      have HZ := Lib.hid hyz
                      have hj64 : (j : Int) < 64 := by omega
                      obtain ⟨e1, he1⟩ : ∃ e, (ya == yz) = e := ⟨_, rfl⟩
                      have HE1 : Hid (sameTo x y (j + 1) = e1) := Lib.hid (by
                        rw [HNX.out, ← he1, ← hya, ← hyz, Bool.eq_iff_iff, decide_eq_true_eq, beq_iff_eq]
                        omega)
                      clear hya hyz hf hsm
                      go_wp2_with fail
                      refine wp_region_later (w0 := wr) (Fr.refl _ _) (by kernel_rfl) (by kernel_rfl) ?_
                      repeat (quiet_step (fail))
                      refine wpQuiet_nil ?_
                      intro _ hw'
                      obtain ⟨q, hw''⟩ := hw'
                      subst hw''
                      go_wp2_with fail
                      go_roundw
                      case rel => exact ⟨j + 1, by omega, by go_num, by rw [HE1.out], HFj.out.trans q.fr (fun _ _ e => e)⟩
                      case measure => simp [intOf]; omega
                  · obtain rfl : j = n := by omega
                    have HEX := Lib.hid hsm
                    have hj0 : ¬ ((j : Int) < j) := by omega
                    clear hsm hf
                    cases al <;> cases sm <;> (
                      go_wp2_with fail
                      go_roundw
                      case rel => exact ⟨k + 1, by omega, by go_num, by rw [HST.out, HEX.out]; rfl, HF5.out.trans HFj.out (fun _ _ e => e)⟩
                      case measure => simp [intOf]; omega)
              · obtain rfl : k = L := by omega
                have HAA : Hid (aloneB ns x n = al) := Lib.hid (by
                  have := HAL.out
                  rwa [List.take_of_length_le (by rw [HLn.out]; exact Nat.le_refl _)] at this)
                rw [hal]
                clear hal hf
                cases al
                · have HZN := Lib.hid (fun j (h1 : v ≤ j) (h2 : j < n + 1) => (by omega : j < n ∨ j = n).elim (hz.out j h1) (fun e => e ▸ HAA.out))
                  go_wp2_with fail
                  go_roundw
                  case rel => exact ⟨n + 1, by omega, by omega, by go_num, HZN, HFk.out⟩
                  case measure => simp [intOf]; omega
                · have HR := Lib.hid (short_unique ns x (v : Int) n HH.out (by have := HLO.out; omega) (by omega) (fun j h1 h2 => hz.out j (by have := HLO.out; omega) h2) (fun _ => HAA.out))
                  go_wp2_with fail
                  go_ret
                  exact ⟨by rw [HR.out]; rfl, (HF.out.trans (HF3.out.trans HFk.out (fun _ _ e => e)) (fun _ _ e => e)).below (fun _ _ e => e)⟩
          · have hn0 : ¬ ((n : Int) < 64) := by omega
            have HR := Lib.hid (short_unique ns x (v : Int) 64 HH.out (lo_le (v : Int)) (by omega) (fun j h1 h2 => hz.out j (by have := HLO.out; omega) (by omega)) (fun h => by omega))
            clear hf
            go_wp2_with fail
            go_ret
            exact ⟨by rw [HR.out]; rfl, (HF.out.trans (HF3.out.trans HFn.out (fun _ _ e => e)) (fun _ _ e => e)).below (fun _ _ e => e)⟩)
  · have hh' : fHas ns x = false := by simpa using hh
    rw [hh'] at CF
    rw [short_no ns x least hh']
    clear hh hh'
    go_enter Try.func32, Try.ntmps32
    rw [show Op.load 23 (.tmp 4) = Op.load T32 (.tmp 4) by rw [hT32]]
    clear hT32
    go_wp2_with (go_at_call 24; refine (CF.out w1 (Fr.refl _ _)).mono ?_; rintro e w2 ⟨rfl, b2⟩
                 have HF2 := Lib.hid ((Fr.refl (fun _ => False) w1).then_below b2))
    go_ret
    exact ⟨rfl, (HF.out.trans HF2.out (fun _ _ e => e)).below (fun _ _ e => e)⟩
end Go.Proofs.Ytbfbgopbelmghaa

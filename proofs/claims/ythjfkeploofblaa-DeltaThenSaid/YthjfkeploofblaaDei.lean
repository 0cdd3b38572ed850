/- What is proved: with how many like bytes two texts begin, by the program and by the document. Conditions: the bytes are there. -/
import Derived.Test.YthjfkeploofblaaDb
import Derived.Test.YthjfkeploofblaaDba
import Derived.Test.YthjfkeploofblaaDeg
import Derived.Test.YthjfkeploofblaaDeb
import Derived.Test.YthjfkeploofblaaDas
import Derived.Deep.QuietTactic
import Derived.BigQuiet
namespace Go.Proofs.Ythjfkeploofblaa
open Go.RowKit
set_option linter.unusedVariables false

theorem Lies.byteAt {w : World} {A : Option Addr} {l : List UInt8} (h : Lies w A (bytesV l)) {j : Nat} {c : UInt8} (hj : l[j]? = some c) : ∃ b o, A = some ⟨b, o, none⟩ ∧ w.cell? ⟨b, o + j, none⟩ = some (.int .u8 c.toNat) := by
  rcases h with h | ⟨b, o, rfl, hc⟩
  · have : l = [] := List.map_eq_nil_iff.1 h
    subst this
    simp at hj
  · exact ⟨b, o, rfl, hc j (byteV c) (by rw [bytesV, List.getElem?_map, hj]; rfl)⟩

set_option maxHeartbeats 3200000 in
set_option maxRecDepth 100000 in
theorem Dshared_any (A B : Option Addr) (c d : Nat) (xs ys : List UInt8) (h1 : xs.length ≤ 1000000) (h2 : ys.length ≤ 1000000) (w : World) (ha : Lies w A (bytesV xs)) (hb : Lies w B (bytesV ys)) :
    Calls Try.prog 61 #[.slice A xs.length c, .slice B ys.length d] w (Ans w (.int .i64 (lcp xs ys))) := by
  unfold Ans
  have HA := Lib.hid ha
  have HB := Lib.hid hb
  obtain ⟨X, hX⟩ : ∃ X, xs.length = X := ⟨_, rfl⟩
  obtain ⟨Y, hY⟩ : ∃ Y, ys.length = Y := ⟨_, rfl⟩
  have HX := Lib.hid hX
  have HY := Lib.hid hY
  rw [hX, hY]
  rw [hX] at h1
  rw [hY] at h2
  obtain ⟨R, hR⟩ : ∃ R : Int, ((lcp xs ys : Nat) : Int) = R := ⟨_, rfl⟩
  have HR := Lib.hid hR
  rw [hR]
  clear ha hb hX hY hR
  rcases (by omega : X < Y ∨ X = Y ∨ Y < X) with hxy | hxy | hxy
  · have hxy2 : (X : Int) < Y := by omega
    (
      go_enter Try.func61, Try.ntmps61
      go_wp2_with fail
      go_loopw [13] (fun i wr => ∃ (k : Nat), k ≤ X ∧ i = .int .i64 k ∧ Hid (∀ j, j < k → ∃ e, xs[j]? = some e ∧ ys[j]? = some e) ∧ Hid (Fr (fun _ => False) w wr)) (fun i _ => X - (intOf i).toNat)
      case atStart => exact ⟨0, by omega, rfl, Lib.hid (fun j hj => by omega), Lib.hid (Fr.refl _ _)⟩
      case round =>
        obtain ⟨k, hk, rfl, HI, HF⟩ := hrel
        have hk1 : (0 : Int) ≤ k := by omega
        by_cases hlt : k < X
        · have hkx : (k : Int) < X := by omega
          have hky : (k : Int) < Y := by omega
          obtain ⟨u, hu⟩ : ∃ u, xs[k]? = some u := ⟨xs[k]'(by rw [HX.out]; omega), List.getElem?_eq_getElem (by rw [HX.out]; omega)⟩
          obtain ⟨v, hv⟩ : ∃ v, ys[k]? = some v := ⟨ys[k]'(by rw [HY.out]; omega), List.getElem?_eq_getElem (by rw [HY.out]; omega)⟩
          obtain ⟨ab, ao, hAe, hca⟩ := (HA.out.fr HF.out (fun _ _ e => e)).byteAt hu
          obtain ⟨bb, bo, hBe, hcb⟩ := (HB.out.fr HF.out (fun _ _ e => e)).byteAt hv
          subst hAe
          subst hBe
          have HU := Lib.hid hu
          have HV := Lib.hid hv
          obtain ⟨un, hun⟩ : ∃ un : Int, (u.toNat : Int) = un := ⟨_, rfl⟩
          obtain ⟨vn, hvn⟩ : ∃ vn : Int, (v.toNat : Int) = vn := ⟨_, rfl⟩
          rw [hun] at hca
          rw [hvn] at hcb
          have HUV : Hid (un = vn ↔ u = v) := Lib.hid (by rw [← hun, ← hvn]; exact ⟨fun e => UInt8.toNat_inj.1 (by omega), fun e => by rw [e]⟩)
          have q1 : ∀ q : Later wr, q.w'.cell? ⟨ab, ao + k, none⟩ = some (.int .u8 un) := fun q => q.fr.cell hca (fun e => e)
          have q2 : ∀ q : Later wr, q.w'.cell? ⟨bb, bo + k, none⟩ = some (.int .u8 vn) := fun q => q.fr.cell hcb (fun e => e)
          clear hu hv hun hvn hca hcb
          have hlk : (k : Int) < X := by omega
          by_cases huv : un = vn
          · have HS : Hid (∀ j, j < k + 1 → ∃ e, xs[j]? = some e ∧ ys[j]? = some e) := Lib.hid (fun j hj => by
              rcases (by omega : j < k ∨ j = k) with h | rfl
              · exact HI.out j h
              · exact ⟨u, HU.out, by rw [HV.out, HUV.out.1 huv]⟩)
            subst huv
            go_wp2_with fail
            refine wp_region_later (w0 := wr) (Fr.refl _ _) (by kernel_rfl) (by kernel_rfl) ?_
            iterate 9 quiet_step (fail)
            refine wpQuiet_nil ?_
            intro _ hw'
            obtain ⟨q, hw''⟩ := hw'
            subst hw''
            go_wp2_with fail
            go_roundw
            case rel => exact ⟨k + 1, by omega, by go_num, HS, Lib.hid (HF.out.trans q.fr (fun _ _ e => e))⟩
            case measure => simp [intOf]; omega
          · have hne : (un != vn) = true := by simpa using huv
            have HE : Hid (R = k) := Lib.hid (by
              rw [← HR.out, lcp_is xs ys k HI.out]
              right; right
              rw [HU.out, HV.out]
              exact fun e => huv (HUV.out.2 (Option.some.inj e)))
            go_wp2_with fail
            refine wp_region_later (w0 := wr) (Fr.refl _ _) (by kernel_rfl) (by kernel_rfl) ?_
            iterate 9 quiet_step (fail)
            refine wpQuiet_nil ?_
            intro _ hw'
            obtain ⟨q, hw''⟩ := hw'
            subst hw''
            go_wp2_with fail
            go_ret
            exact ⟨by rw [HE.out]; rfl, (HF.out.trans q.fr (fun _ _ e => e)).below (fun _ _ e => e)⟩
        · obtain rfl : k = X := by omega
          have HE : Hid (R = ((k : Nat) : Int)) := Lib.hid (by
            have h1 := HX.out
            have h2 := HY.out
            rw [← HR.out, lcp_is xs ys k HI.out]
            first
              | (left; rw [List.getElem?_eq_none]; omega)
              | (right; left; rw [List.getElem?_eq_none]; omega))
          go_wp2_with fail
          go_ret
          exact ⟨by rw [HE.out]; rfl, HF.out.below (fun _ _ e => e)⟩)
  · have hxy2 : ¬ (X : Int) < Y := by omega
    have hxy3 : ¬ (Y : Int) < X := by omega
    have hxy4 : (X : Int) ≤ Y := by omega
    have hxy5 : (Y : Int) ≤ X := by omega
    (
      go_enter Try.func61, Try.ntmps61
      go_wp2_with fail
      go_loopw [13] (fun i wr => ∃ (k : Nat), k ≤ Y ∧ i = .int .i64 k ∧ Hid (∀ j, j < k → ∃ e, xs[j]? = some e ∧ ys[j]? = some e) ∧ Hid (Fr (fun _ => False) w wr)) (fun i _ => Y - (intOf i).toNat)
      case atStart => exact ⟨0, by omega, rfl, Lib.hid (fun j hj => by omega), Lib.hid (Fr.refl _ _)⟩
      case round =>
        obtain ⟨k, hk, rfl, HI, HF⟩ := hrel
        have hk1 : (0 : Int) ≤ k := by omega
        by_cases hlt : k < Y
        · have hkx : (k : Int) < X := by omega
          have hky : (k : Int) < Y := by omega
          obtain ⟨u, hu⟩ : ∃ u, xs[k]? = some u := ⟨xs[k]'(by rw [HX.out]; omega), List.getElem?_eq_getElem (by rw [HX.out]; omega)⟩
          obtain ⟨v, hv⟩ : ∃ v, ys[k]? = some v := ⟨ys[k]'(by rw [HY.out]; omega), List.getElem?_eq_getElem (by rw [HY.out]; omega)⟩
          obtain ⟨ab, ao, hAe, hca⟩ := (HA.out.fr HF.out (fun _ _ e => e)).byteAt hu
          obtain ⟨bb, bo, hBe, hcb⟩ := (HB.out.fr HF.out (fun _ _ e => e)).byteAt hv
          subst hAe
          subst hBe
          have HU := Lib.hid hu
          have HV := Lib.hid hv
          obtain ⟨un, hun⟩ : ∃ un : Int, (u.toNat : Int) = un := ⟨_, rfl⟩
          obtain ⟨vn, hvn⟩ : ∃ vn : Int, (v.toNat : Int) = vn := ⟨_, rfl⟩
          rw [hun] at hca
          rw [hvn] at hcb
          have HUV : Hid (un = vn ↔ u = v) := Lib.hid (by rw [← hun, ← hvn]; exact ⟨fun e => UInt8.toNat_inj.1 (by omega), fun e => by rw [e]⟩)
          have q1 : ∀ q : Later wr, q.w'.cell? ⟨ab, ao + k, none⟩ = some (.int .u8 un) := fun q => q.fr.cell hca (fun e => e)
          have q2 : ∀ q : Later wr, q.w'.cell? ⟨bb, bo + k, none⟩ = some (.int .u8 vn) := fun q => q.fr.cell hcb (fun e => e)
          clear hu hv hun hvn hca hcb
          have hlk : (k : Int) < Y := by omega
          by_cases huv : un = vn
          · have HS : Hid (∀ j, j < k + 1 → ∃ e, xs[j]? = some e ∧ ys[j]? = some e) := Lib.hid (fun j hj => by
              rcases (by omega : j < k ∨ j = k) with h | rfl
              · exact HI.out j h
              · exact ⟨u, HU.out, by rw [HV.out, HUV.out.1 huv]⟩)
            subst huv
            go_wp2_with fail
            refine wp_region_later (w0 := wr) (Fr.refl _ _) (by kernel_rfl) (by kernel_rfl) ?_
            iterate 9 quiet_step (fail)
            refine wpQuiet_nil ?_
            intro _ hw'
            obtain ⟨q, hw''⟩ := hw'
            subst hw''
            go_wp2_with fail
            go_roundw
            case rel => exact ⟨k + 1, by omega, by go_num, HS, Lib.hid (HF.out.trans q.fr (fun _ _ e => e))⟩
            case measure => simp [intOf]; omega
          · have hne : (un != vn) = true := by simpa using huv
            have HE : Hid (R = k) := Lib.hid (by
              rw [← HR.out, lcp_is xs ys k HI.out]
              right; right
              rw [HU.out, HV.out]
              exact fun e => huv (HUV.out.2 (Option.some.inj e)))
            go_wp2_with fail
            refine wp_region_later (w0 := wr) (Fr.refl _ _) (by kernel_rfl) (by kernel_rfl) ?_
            iterate 9 quiet_step (fail)
            refine wpQuiet_nil ?_
            intro _ hw'
            obtain ⟨q, hw''⟩ := hw'
            subst hw''
            go_wp2_with fail
            go_ret
            exact ⟨by rw [HE.out]; rfl, (HF.out.trans q.fr (fun _ _ e => e)).below (fun _ _ e => e)⟩
        · obtain rfl : k = Y := by omega
          have HE : Hid (R = ((k : Nat) : Int)) := Lib.hid (by
            have h1 := HX.out
            have h2 := HY.out
            rw [← HR.out, lcp_is xs ys k HI.out]
            first
              | (left; rw [List.getElem?_eq_none]; omega)
              | (right; left; rw [List.getElem?_eq_none]; omega))
          go_wp2_with fail
          go_ret
          exact ⟨by rw [HE.out]; rfl, HF.out.below (fun _ _ e => e)⟩)
  · have hxy2 : (Y : Int) < X := by omega
    (
      go_enter Try.func61, Try.ntmps61
      go_wp2_with fail
      go_loopw [13] (fun i wr => ∃ (k : Nat), k ≤ Y ∧ i = .int .i64 k ∧ Hid (∀ j, j < k → ∃ e, xs[j]? = some e ∧ ys[j]? = some e) ∧ Hid (Fr (fun _ => False) w wr)) (fun i _ => Y - (intOf i).toNat)
      case atStart => exact ⟨0, by omega, rfl, Lib.hid (fun j hj => by omega), Lib.hid (Fr.refl _ _)⟩
      case round =>
        obtain ⟨k, hk, rfl, HI, HF⟩ := hrel
        have hk1 : (0 : Int) ≤ k := by omega
        by_cases hlt : k < Y
        · have hkx : (k : Int) < X := by omega
          have hky : (k : Int) < Y := by omega
          obtain ⟨u, hu⟩ : ∃ u, xs[k]? = some u := ⟨xs[k]'(by rw [HX.out]; omega), List.getElem?_eq_getElem (by rw [HX.out]; omega)⟩
          obtain ⟨v, hv⟩ : ∃ v, ys[k]? = some v := ⟨ys[k]'(by rw [HY.out]; omega), List.getElem?_eq_getElem (by rw [HY.out]; omega)⟩
          obtain ⟨ab, ao, hAe, hca⟩ := (HA.out.fr HF.out (fun _ _ e => e)).byteAt hu
          obtain ⟨bb, bo, hBe, hcb⟩ := (HB.out.fr HF.out (fun _ _ e => e)).byteAt hv
          subst hAe
          subst hBe
          have HU := Lib.hid hu
          have HV := Lib.hid hv
          obtain ⟨un, hun⟩ : ∃ un : Int, (u.toNat : Int) = un := ⟨_, rfl⟩
          obtain ⟨vn, hvn⟩ : ∃ vn : Int, (v.toNat : Int) = vn := ⟨_, rfl⟩
          rw [hun] at hca
          rw [hvn] at hcb
          have HUV : Hid (un = vn ↔ u = v) := Lib.hid (by rw [← hun, ← hvn]; exact ⟨fun e => UInt8.toNat_inj.1 (by omega), fun e => by rw [e]⟩)
          have q1 : ∀ q : Later wr, q.w'.cell? ⟨ab, ao + k, none⟩ = some (.int .u8 un) := fun q => q.fr.cell hca (fun e => e)
          have q2 : ∀ q : Later wr, q.w'.cell? ⟨bb, bo + k, none⟩ = some (.int .u8 vn) := fun q => q.fr.cell hcb (fun e => e)
          clear hu hv hun hvn hca hcb
          have hlk : (k : Int) < Y := by omega
          by_cases huv : un = vn
          · have HS : Hid (∀ j, j < k + 1 → ∃ e, xs[j]? = some e ∧ ys[j]? = some e) := Lib.hid (fun j hj => by
              rcases (by omega : j < k ∨ j = k) with h | rfl
              · exact HI.out j h
              · exact ⟨u, HU.out, by rw [HV.out, HUV.out.1 huv]⟩)
            subst huv
            go_wp2_with fail
            refine wp_region_later (w0 := wr) (Fr.refl _ _) (by kernel_rfl) (by kernel_rfl) ?_
            iterate 9 quiet_step (fail)
            refine wpQuiet_nil ?_
            intro _ hw'
            obtain ⟨q, hw''⟩ := hw'
            subst hw''
            go_wp2_with fail
            go_roundw
            case rel => exact ⟨k + 1, by omega, by go_num, HS, Lib.hid (HF.out.trans q.fr (fun _ _ e => e))⟩
            case measure => simp [intOf]; omega
          · have hne : (un != vn) = true := by simpa using huv
            have HE : Hid (R = k) := Lib.hid (by
              rw [← HR.out, lcp_is xs ys k HI.out]
              right; right
              rw [HU.out, HV.out]
              exact fun e => huv (HUV.out.2 (Option.some.inj e)))
            go_wp2_with fail
            refine wp_region_later (w0 := wr) (Fr.refl _ _) (by kernel_rfl) (by kernel_rfl) ?_
            iterate 9 quiet_step (fail)
            refine wpQuiet_nil ?_
            intro _ hw'
            obtain ⟨q, hw''⟩ := hw'
            subst hw''
            go_wp2_with fail
            go_ret
            exact ⟨by rw [HE.out]; rfl, (HF.out.trans q.fr (fun _ _ e => e)).below (fun _ _ e => e)⟩
        · obtain rfl : k = Y := by omega
          have HE : Hid (R = ((k : Nat) : Int)) := Lib.hid (by
            have h1 := HX.out
            have h2 := HY.out
            rw [← HR.out, lcp_is xs ys k HI.out]
            first
              | (left; rw [List.getElem?_eq_none]; omega)
              | (right; left; rw [List.getElem?_eq_none]; omega))
          go_wp2_with fail
          go_ret
          exact ⟨by rw [HE.out]; rfl, HF.out.below (fun _ _ e => e)⟩)

set_option maxHeartbeats 3200000 in
set_option maxRecDepth 100000 in
theorem QDbegins_any (A B : Option Addr) (c d : Nat) (xs ys : List UInt8) (i k : Nat) (h1 : xs.length ≤ 1000000) (h2 : ys.length ≤ 1000000) (hi : i ≤ xs.length) (hk : k ≤ ys.length) (w : World) (ha : Lies w A (bytesV xs)) (hb : Lies w B (bytesV ys)) :
    Calls Try.prog 48 #[.slice A xs.length c, .int .i64 i, .slice B ys.length d, .int .i64 k] w (Ans w (.int .i64 (lcp (xs.drop i) (ys.drop k)))) := by
  unfold Ans
  have HA := Lib.hid ha
  have HB := Lib.hid hb
  obtain ⟨X, hX⟩ : ∃ X, xs.length = X := ⟨_, rfl⟩
  obtain ⟨Y, hY⟩ : ∃ Y, ys.length = Y := ⟨_, rfl⟩
  have HX := Lib.hid hX
  have HY := Lib.hid hY
  rw [hX, hY]
  rw [hX] at h1 hi
  rw [hY] at h2 hk
  obtain ⟨R, hR⟩ : ∃ R : Int, ((lcp (xs.drop i) (ys.drop k) : Nat) : Int) = R := ⟨_, rfl⟩
  have HR := Lib.hid hR
  rw [hR]
  have hi0 : (0 : Int) ≤ i := by omega
  have hk0 : (0 : Int) ≤ k := by omega
  clear ha hb hX hY hR
  go_enter Try.func48, Try.ntmps48
  go_wp2_with fail
  go_loopw [9] (fun v wr => ∃ (n : Nat), n ≤ X ∧ i + n ≤ X ∧ k + n ≤ Y ∧ v = .int .i64 n ∧ Hid (∀ j, j < n → ∃ e, (xs.drop i)[j]? = some e ∧ (ys.drop k)[j]? = some e) ∧ Hid (Fr (fun _ => False) w wr)) (fun v _ => X - (intOf v).toNat)
  case atStart => exact ⟨0, by omega, by omega, by omega, rfl, Lib.hid (fun j hj => by omega), Lib.hid (Fr.refl _ _)⟩
  case round =>
    obtain ⟨n, hn, hin, hkn, rfl, HI, HF⟩ := hrel
    have hn0 : (0 : Int) ≤ n := by omega
    have wx : IntKind.i64.wrap ((i : Int) + n) = (i : Int) + n := by rw [IntKind.wrap_i64]; omega
    have wy : IntKind.i64.wrap ((k : Int) + n) = (k : Int) + n := by rw [IntKind.wrap_i64]; omega
    by_cases hlx : (i : Int) + n < X
    · have dlx : decide ((i : Int) + n < X) = true := by simpa using hlx
      by_cases hly : (k : Int) + n < Y
      · have dly : decide ((k : Int) + n < Y) = true := by simpa using hly
        have wz0 : ((i : Int) + n).toNat = i + n := by omega
        have wz1 : ((k : Int) + n).toNat = k + n := by omega
        have wz2 : (0 : Int) ≤ (i : Int) + n := by omega
        have wz3 : (0 : Int) ≤ (k : Int) + n := by omega
        obtain ⟨u, hu⟩ : ∃ u, xs[i + n]? = some u := ⟨xs[i + n]'(by rw [HX.out]; omega), List.getElem?_eq_getElem (by rw [HX.out]; omega)⟩
        obtain ⟨v, hv⟩ : ∃ v, ys[k + n]? = some v := ⟨ys[k + n]'(by rw [HY.out]; omega), List.getElem?_eq_getElem (by rw [HY.out]; omega)⟩
        obtain ⟨ab, ao, hAe, hca⟩ := (HA.out.fr HF.out (fun _ _ e => e)).byteAt hu
        obtain ⟨bb, bo, hBe, hcb⟩ := (HB.out.fr HF.out (fun _ _ e => e)).byteAt hv
        subst hAe
        subst hBe
        have HU := Lib.hid (show (xs.drop i)[n]? = some u by rw [List.getElem?_drop]; exact hu)
        have HV := Lib.hid (show (ys.drop k)[n]? = some v by rw [List.getElem?_drop]; exact hv)
        obtain ⟨un, hun⟩ : ∃ un : Int, (u.toNat : Int) = un := ⟨_, rfl⟩
        obtain ⟨vn, hvn⟩ : ∃ vn : Int, (v.toNat : Int) = vn := ⟨_, rfl⟩
        rw [hun] at hca
        rw [hvn] at hcb
        have HUV : Hid (un = vn ↔ u = v) := Lib.hid (by rw [← hun, ← hvn]; exact ⟨fun e => UInt8.toNat_inj.1 (by omega), fun e => by rw [e]⟩)
        clear hu hv hun hvn
        by_cases huv : un = vn
        · have HS : Hid (∀ j, j < n + 1 → ∃ e, (xs.drop i)[j]? = some e ∧ (ys.drop k)[j]? = some e) := Lib.hid (fun j hj => by
            rcases (by omega : j < n ∨ j = n) with h | rfl
            · exact HI.out j h
            · exact ⟨u, HU.out, by rw [HV.out, HUV.out.1 huv]⟩)
          subst huv
          go_wp2_with fail
          go_quiet (fail)
          go_wp2
          go_roundw
          case rel => exact ⟨n + 1, by omega, by omega, by omega, by go_num, HS, Lib.hid (HF.out.drewN nq)⟩
          case measure => simp [intOf]; omega
        · have hne : (un == vn) = false := by simpa using huv
          have HE : Hid (R = n) := Lib.hid (by
            rw [← HR.out, lcp_is (xs.drop i) (ys.drop k) n HI.out]
            right; right
            rw [HU.out, HV.out]
            exact fun e => huv (HUV.out.2 (Option.some.inj e)))
          (
            go_wp2_with fail
            go_quiet (fail)
            go_wp2
            go_ret
            exact ⟨by rw [HE.out]; rfl, (HF.out.drewN nq).below (fun _ _ e => e)⟩)
      · have dly : decide ((k : Int) + n < Y) = false := by simp only [decide_eq_false_iff_not]; exact hly
        have HE : Hid (R = n) := Lib.hid (by
          have h2 := HY.out
          rw [← HR.out, lcp_is (xs.drop i) (ys.drop k) n HI.out]
          right; left; rw [List.getElem?_eq_none]; rw [List.length_drop]; omega)
        (
          go_wp2_with fail
          go_quiet (fail)
          go_wp2
          go_ret
          exact ⟨by rw [HE.out]; rfl, (HF.out.drewN nq).below (fun _ _ e => e)⟩)
    · have dlx : decide ((i : Int) + n < X) = false := by simp only [decide_eq_false_iff_not]; exact hlx
      have HE : Hid (R = n) := Lib.hid (by
        have h2 := HX.out
        rw [← HR.out, lcp_is (xs.drop i) (ys.drop k) n HI.out]
        left; rw [List.getElem?_eq_none]; rw [List.length_drop]; omega)
      (
        go_wp2_with fail
        go_quiet (fail)
        go_wp2
        go_ret
        exact ⟨by rw [HE.out]; rfl, (HF.out.drewN nq).below (fun _ _ e => e)⟩)
end Go.Proofs.Ythjfkeploofblaa

/- What is proved: decimal digits and numbers, by the program and by the document. Conditions: the library's table lies as its text lays it (where the program writes digits). -/
import Derived.Test.YtppddpbacpeadaaDoorRva
namespace Go.Proofs.YtppddpbacpeadaaDoor
open Go.RowKit Go.Sort Go.Shelf
set_option linter.unusedVariables false

theorem GItoa_any (n : Nat) (h1 : n ≤ 9223372036854775807) (w : World) (ht : Tab10 w) : Calls Tryd.prog 37 #[.int .i64 n] w fun e w' => e = .returned (.string (strB (Lib.decDigits n))) ∧ Below w.heap.size w w' := by
  have h := Any.strconv_Itoa itoaL (n : Int) (by omega) (by omega) w ht
  refine h.mono ?_
  rintro e w' ⟨rfl, k, os, rfl⟩
  refine ⟨?_, grow_below w k os⟩
  rw [show Lib.itoa (n : Int) = Lib.decDigits n by rw [Lib.itoa, if_neg (by omega), Int.toNat_natCast]]
  rfl

set_option maxHeartbeats 1000000 in
set_option maxRecDepth 100000 in
theorem VDigits_any (n : Int) (h1 : n ≤ 9223372036854775807) (w : World) (ht : Tab10 w) : Calls Tryd.prog 15 #[.int .i64 n] w fun e w' => e = .returned (.string (strB (digS n))) ∧ Below w.heap.size w w' := by
  by_cases h0 : n < 0
  · have hd : strB (digS n) = ByteArray.mk #[] := by rw [digS, if_pos h0]; rfl
    rw [hd]
    go_enter Tryd.func15, Tryd.ntmps15
    go_wp2_with fail
    go_ret
    exact ⟨rfl, (Fr.refl (fun _ => False) w).below (fun _ _ e => e)⟩
  · obtain ⟨m, rfl⟩ : ∃ m : Nat, n = m := ⟨n.toNat, by omega⟩
    have hd : digS (m : Int) = Lib.decDigits m := by rw [digS, if_neg h0, Int.toNat_natCast]
    rw [hd]
    have hc := Lib.hid (GItoa_any m (by omega) w ht)
    obtain ⟨S, hS⟩ : ∃ S, strB (Lib.decDigits m) = S := ⟨_, rfl⟩
    rw [hS] at hc ⊢
    clear hS hd ht
    go_enter Tryd.func15, Tryd.ntmps15
    go_wp2_with (go_at_call 37; refine hc.out.mono ?_; rintro e w' ⟨rfl, bb⟩)
    go_ret
    exact ⟨rfl, bb⟩

set_option maxHeartbeats 1600000 in
set_option maxRecDepth 100000 in
theorem QvDigits_any (n : Int) (h1 : n ≤ 9223372036854775807) (w : World) : Calls Tryd.prog 16 #[.int .i64 n] w fun e w' => e = .returned (.string (strB (digS n))) ∧ Below w.heap.size w w' := by
  by_cases h0 : n < 0
  · have hd : strB (digS n) = ByteArray.mk #[] := by rw [digS, if_pos h0]; rfl
    rw [hd]
    go_enter Tryd.func16, Tryd.ntmps16
    go_wp2_with fail
    go_ret
    exact ⟨rfl, (Fr.refl (fun _ => False) w).below (fun _ _ e => e)⟩
  · obtain ⟨N, rfl⟩ : ∃ m : Nat, n = m := ⟨n.toNat, by omega⟩
    have hd : digS (N : Int) = Lib.decDigits N := by rw [digS, if_neg h0, Int.toNat_natCast]
    rw [hd]
    clear hd
    have hlen : (Lib.decDigits N).length ≤ 21 := by
      have := Lib.itoa_length_le (N : Int) (by omega) h1
      rwa [show Lib.itoa (N : Int) = Lib.decDigits N by rw [Lib.itoa, if_neg (by omega), Int.toNat_natCast]] at this
    go_enter Tryd.func16, Tryd.ntmps16
    go_wp2_with fail
    go_loopg [0, 3] (2 * N + 1) (fun kx s0 s3 wr => ∃ (m : Nat) (acc : List UInt8), s0 = .int .i64 m ∧ s3 = .string (strB acc) ∧ m ≤ N ∧ (acc = [] → 2 * m + 1 ≤ kx) ∧ 2 * m ≤ kx ∧ acc.length ≤ 21 ∧ Fr (fun _ => False) w wr ∧ Hid (Lib.decDigits N = if m = 0 ∧ acc ≠ [] then acc else Lib.decDigits m ++ acc))
    case atStart => exact ⟨N, [], rfl, rfl, Nat.le_refl _, fun _ => Nat.le_refl _, by omega, by simp, Fr.refl _ w, Lib.hid (by simp)⟩
    case round =>
      obtain ⟨m, acc, rfl, rfl, hm, hk1, hk2, hal, hf, HD⟩ := hrel
      obtain ⟨wo, rfl⟩ : ∃ wo, wo = wr := ⟨wr, rfl⟩
      have HFr := Lib.hid hf
      clear hf
      by_cases hgo : 0 < m ∨ acc = []
      · have HS := Lib.hid (dec_step N m acc HD.out hgo)
        have hal2 : (UInt8.ofNat (48 + m % 10) :: acc).length ≤ 21 := by
          have := HS.out
          split at this
          · rw [← this]; exact hlen
          · have e := congrArg List.length this
            rw [List.length_append] at e
            omega
        obtain ⟨q, hq⟩ : ∃ q, m / 10 = q := ⟨_, rfl⟩
        obtain ⟨r, hr⟩ : ∃ r, m % 10 = r := ⟨_, rfl⟩
        have hr10 : r < 10 := by omega
        have hqm : 10 * q + r = m := by omega
        have ht1 : (m : Int).tmod 10 = (r : Int) := by rw [Int.tmod_eq_emod_of_nonneg (by omega)]; omega
        have ht2 : (m : Int).tdiv 10 = (q : Int) := by rw [Int.tdiv_eq_ediv_of_nonneg (by omega)]; omega
        rw [hq, hr] at HS
        rw [hr] at hal2
        have w1 : IntKind.i64.wrap (48 + (r : Int)) = 48 + (r : Int) := by rw [IntKind.wrap_i64]; omega
        have w2 : IntKind.u8.wrap (48 + (r : Int)) = 48 + (r : Int) := by rw [IntKind.wrap_u8]; omega
        have w3 : IntKind.i64.wrap (r : Int) = (r : Int) := by rw [IntKind.wrap_i64]; omega
        have w4 : IntKind.i64.wrap (q : Int) = (q : Int) := by rw [IntKind.wrap_i64]; omega
        have hz : (10 : Int) ≠ 0 := by decide
        have cv : (convert 27 9 (.slice (some ⟨wo.heap.size, 0, none⟩) 1 1)).run Tryd.prog (wo.alloc (.cells #[.int .u8 (48 + (r : Int))] 5)) = .ok (.string (strB [UInt8.ofNat (48 + r)])) (wo.alloc (.cells #[.int .u8 (48 + (r : Int))] 5)) := by
          have hb : ((UInt8.ofNat (48 + r)).toNat : Int) = 48 + (r : Int) := by rw [UInt8.toNat_ofNat']; omega
          have := Ids.run_convert_lies (P := Tryd.prog) (w := wo.alloc (.cells #[.int .u8 (48 + (r : Int))] 5)) 27 9 5 Tryd.underlying27 Tryd.underlying5 Tryd.underlying9 (A := some ⟨wo.heap.size, 0, none⟩) (xs := [UInt8.ofNat (48 + r)]) (.inr ⟨wo.heap.size, 0, rfl, fun j u hu => by
            rw [Nat.zero_add, (Whole.new wo 5 _).cell]
            rw [← hb]
            simpa [bytesV, byteV] using hu⟩) 1
          exact this
        have hadd := fun w => add_str (P := Tryd.prog) [UInt8.ofNat (48 + r)] acc (by simp; omega) w
        have hlen0 := strB_list acc
        have hemp : (strB acc).toList = [] ↔ acc = [] := by rw [strB_list]
        have HA : Hid ([UInt8.ofNat (48 + r)] ++ acc ≠ []) := Lib.hid (by simp)
        obtain ⟨S1, hS1⟩ : ∃ S, strB [UInt8.ofNat (48 + r)] = S := ⟨_, rfl⟩
        obtain ⟨S2, hS2⟩ : ∃ S, strB ([UInt8.ofNat (48 + r)] ++ acc) = S := ⟨_, rfl⟩
        have HS2 := Lib.hid hS2
        rw [hS1] at cv hadd
        rw [hS2] at hadd
        by_cases ha : acc = []
        · subst ha
          have hk := hk1 rfl
          obtain ⟨S, hS⟩ : ∃ S, strB ([] : List UInt8) = S := ⟨_, rfl⟩
          rw [hS] at hadd hlen0
          have hS0 : S.toList = [] := hlen0
          rw [hS]
          clear hS hS1 hS2 hq hr hgo HD hlen0 hemp hk1
          by_cases hm0 : 0 < m
          · have hmz : (0 : Int) < (m : Int) := by omega
            go_wp2_with fail
            go_roundg (2 * m)
            case measure => omega
            case rel => exact ⟨q, [UInt8.ofNat (48 + r)] ++ [], rfl, HS2.out ▸ rfl, by omega, fun e => absurd e HA.out, by omega, hal2, HFr.out.alloc _, HS⟩
          · have hmz : ¬ (0 : Int) < (m : Int) := by omega
            go_wp2_with fail
            go_roundg (2 * m)
            case measure => omega
            case rel => exact ⟨q, [UInt8.ofNat (48 + r)] ++ [], rfl, HS2.out ▸ rfl, by omega, fun e => absurd e HA.out, by omega, hal2, HFr.out.alloc _, HS⟩
        · have hm0 : 0 < m := hgo.resolve_right ha
          have hmz : (0 : Int) < (m : Int) := by omega
          obtain ⟨S, hS⟩ : ∃ S, strB acc = S := ⟨_, rfl⟩
          rw [hS] at hadd hlen0 ⊢
          clear hS hS1 hS2 hq hr hgo HD hlen0 hemp hk1
          go_wp2_with fail
          go_roundg (2 * m - 1)
          case measure => omega
          case rel => exact ⟨q, [UInt8.ofNat (48 + r)] ++ acc, rfl, HS2.out ▸ rfl, by omega, fun e => absurd e HA.out, by omega, hal2, HFr.out.alloc _, HS⟩
      · obtain ⟨hm0, ha⟩ : m = 0 ∧ acc ≠ [] := by
          constructor
          · omega
          · exact fun e => hgo (.inr e)
        subst hm0
        have HE : Hid (strB (Lib.decDigits N) = strB acc) := Lib.hid (by rw [HD.out, if_pos ⟨rfl, ha⟩])
        have hlen0 := strB_list acc
        obtain ⟨S, hS⟩ : ∃ S, strB acc = S := ⟨_, rfl⟩
        rw [hS] at HE hlen0 ⊢
        have e3 : acc.isEmpty = false := by simpa using ha
        clear hS hgo HD hk1
        go_wp2_with fail
        go_ret
        exact ⟨by rw [HE.out]; rfl, HFr.out.below (fun _ _ e => e)⟩
end Go.Proofs.YtppddpbacpeadaaDoor

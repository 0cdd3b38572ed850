/- What is proved: the bits of a key, handed out one after another. Conditions: the filter is not empty, of at most ten million bytes. -/
import Derived.Test.YtgmohgofcjemkaaDoorNo
import Derived.Test.YtgmohgofcjemkaaDoorNb
import Derived.Test.YtgmohgofcjemkaaDoorNg
namespace Go.Proofs.YtgmohgofcjemkaaDoor
open Go.RowKit Go.Shelf
set_option linter.unusedVariables false

theorem Places_any (A : Option Addr) (n c : Nat) (S : ByteArray) (w : World) : Calls Tryd.prog 19 #[.slice A n c, .string S] w fun e w' => e = .returned (.func (.func 32) #[] #[.pointer (some ⟨w.heap.size + 1, 0, none⟩), .pointer (some ⟨w.heap.size, 0, none⟩)]) ∧ w' = (w.alloc (.cells #[.slice A n c] 27)).alloc (.cells #[.string S] 9) := by
  go_enter Tryd.func19, Tryd.ntmps19
  go_wp2
  go_ret
  exact ⟨rfl, rfl⟩

/-- What the rounds over a key's bits lean on. -/
structure PlRd (bk bf : Nat) (A : Option Addr) (n c : Nat) (S : ByteArray) (W : World) : Prop where
  key : W.cell? ⟨bk, 0, none⟩ = some (.string S)
  flt : W.cell? ⟨bf, 0, none⟩ = some (.slice A n c)
theorem hash_range (seed : Int) (l : List UInt8) : 0 ≤ hashI seed l ∧ hashI seed l < 4294967296 := xor_range _ _
theorem step_mod (x y : Int) (k : Nat) : ((x + (k : Int) * y) % 4294967296 + y) % 4294967296 = (x + ((k + 1 : Nat) : Int) * y) % 4294967296 := by
  have e : ((k + 1 : Nat) : Int) * y = (k : Int) * y + y := by rw [Int.natCast_add, Int.add_mul]; simp
  rw [e]
  obtain ⟨z, hz⟩ : ∃ z, (k : Int) * y = z := ⟨_, rfl⟩
  rw [hz]
  omega

set_option maxHeartbeats 3200000 in
set_option maxRecDepth 100000 in
theorem Places1_any (l bk bf : Nat) (A : Option Addr) (n c : Nat) (key : List UInt8) (hk : key.length ≤ 4611686018427387904) (hn0 : 0 < n) (hn : n ≤ 100000000) (W : World) (J Jx : Nat → World → Prop) (h0 : ∀ W', Fr (fun _ => False) W W' → J 0 W') (hRd : ∀ k W', J k W' → PlRd bk bf A n c (strB key) W')
    (hY : ∀ k W', J k W' → k < 7 → YieldAt Fence.wide 0 Tryd.prog l #[.int .u64 (plI (hsA key) (hsB key) (8 * n) k : Nat)] W' fun e W2 => (e = .returned (.bool true) ∧ J (k + 1) W2) ∨ (e = .returned (.bool false) ∧ Jx (k + 1) W2)) :
    Calls Tryd.prog 32 #[.func (.yield l) #[] #[], .pointer (some ⟨bk, 0, none⟩), .pointer (some ⟨bf, 0, none⟩)] W fun e W' => (∃ v, e = .returned v) ∧ (J 7 W' ∨ ∃ k, k ≤ 7 ∧ Jx k W') := by
  have HA := Lib.hid (fun w => (show Calls Tryd.prog 13 #[.int .u32 691726191, .string (strB key)] w (fun e w' => e = .returned (.int .u32 (hsA key)) ∧ w = w') from Hash_any 691726191 (by decide) (by decide) key hk w))
  have HB := Lib.hid (fun w => (show Calls Tryd.prog 13 #[.int .u32 2120511020, .string (strB key)] w (fun e w' => e = .returned (.int .u32 (hsB key)) ∧ w = w') from Hash_any 2120511020 (by decide) (by decide) key hk w))
  have HRa : Hid (0 ≤ hsA key ∧ hsA key < 4294967296) := Lib.hid (hash_range _ _)
  obtain ⟨S, hS⟩ : ∃ S, strB key = S := ⟨_, rfl⟩
  obtain ⟨a, ha⟩ : ∃ a, hsA key = a := ⟨_, rfl⟩
  obtain ⟨b, hb⟩ : ∃ b, hsB key = b := ⟨_, rfl⟩
  rw [hS, ha] at HA
  rw [hS, hb] at HB
  rw [ha] at HRa
  rw [hS] at hRd
  rw [ha, hb] at hY
  have HY := Lib.hid hY
  have HRd := Lib.hid hRd
  have H0 := Lib.hid h0
  have HSt := Lib.hid (step_mod a b)
  have HPz := Lib.hid (fun k => plI_nat a b (8 * n) k (by omega))
  have c0 := (hRd 0 W (h0 W (Fr.refl _ _))).key
  clear hY hRd h0 hS ha hb hk
  go_enter Tryd.func32, Tryd.ntmps32
  have cq : ∀ q : Later W, q.w'.cell? ⟨bk, 0, none⟩ = some (.string S) := fun q => q.fr.cell c0 (fun e => e)
  clear c0
  go_upto_region 0 with fail
  refine wp_region_later (w0 := W) (Fr.refl _ _) (by kernel_rfl) (by kernel_rfl) ?_
  quiet_step (fail)
  quiet_step (first
    | (go_at_call 13; refine Calls.later_of_same (HA.out _)))
  quiet_step (fail)
  quiet_step (first
    | (go_at_call 13; refine Calls.later_of_same (HB.out _)))
  repeat (quiet_step (fail))
  refine wpQuiet_nil ?_
  intro _ hw'
  obtain ⟨q, hw''⟩ := hw'
  subst hw''
  have HFq := Lib.hid q.fr
  obtain ⟨wq, hwq⟩ : ∃ wq, q.w' = wq := ⟨_, rfl⟩
  rw [hwq] at HFq
  rw [hwq]
  clear hwq cq
  have HA0 := Lib.hid (show a = (a + ((0 : Nat) : Int) * b) % 4294967296 from by have := HRa.out; rw [show ((0 : Nat) : Int) * b = 0 from by simp]; omega)
  go_wp2
  go_loopg [4, 10] 7 (fun kx s4 s10 wr => ∃ k : Nat, s4 = .int .u32 ((a + (k : Int) * b) % 4294967296) ∧ s10 = .int .i64 k ∧ k ≤ 7 ∧ 7 - k ≤ kx ∧ Hid (J k wr))
  case atStart => exact ⟨0, by rw [← HA0.out], rfl, by omega, by omega, Lib.hid (H0.out _ HFq.out)⟩
  case round =>
    obtain ⟨k, rfl, rfl, hk, hkx, HJ⟩ := hrel
    obtain ⟨wo, rfl⟩ : ∃ wo, wo = wr := ⟨wr, rfl⟩
    by_cases hlt : k < 7
    · have HRw := HRd.out k wo HJ.out
      have cb := HRw.flt
      have hyy := HY.out k wo HJ.out hlt
      have hz7 : (k : Int) < 7 := by omega
      have hpz := (HPz.out k).1
      obtain ⟨P, hP⟩ : ∃ P, plI a b (8 * n) k = P := ⟨_, rfl⟩
      rw [hP] at hyy hpz
      have HSk := Lib.hid (HSt.out k)
      obtain ⟨z, hz⟩ : ∃ z, (a + (k : Int) * b) % 4294967296 = z := ⟨_, rfl⟩
      rw [hz] at hpz HSk ⊢
      have hz0 : 0 ≤ z ∧ z < 4294967296 := by rw [← hz]; omega
      have w1 : IntKind.u64.wrap z = z := by rw [IntKind.wrap_u64]; omega
      have w2 : IntKind.u64.wrap (n : Int) = (n : Int) := by rw [IntKind.wrap_u64]; omega
      have w3 : IntKind.u64.wrap (8 * (n : Int)) = 8 * (n : Int) := by rw [IntKind.wrap_u64]; omega
      have w4 : ¬ (8 * (n : Int) = 0) := by omega
      have HN := Lib.hid hn0
      have w5 : z.tmod (8 * (n : Int)) = (P : Int) := by
        rw [Int.tmod_eq_emod_of_nonneg hz0.1]
        rw [show ((8 * n : Nat) : Int) = 8 * (n : Int) from by omega] at hpz
        exact hpz
      have w6 : IntKind.u64.wrap (P : Int) = (P : Int) := by
        have := (HPz.out k).2
        rw [hP] at this
        rw [IntKind.wrap_u64]; omega
      obtain ⟨fn, tm, asg, bdy, hy, hR⟩ := hyy
      have HRR := Lib.hid hR
      clear hR hP hz hpz HRw hn0
      go_upto_region 3 with fail
      refine (wpIn_wide (n := 0)).1 ?_
      refine wpIn_region_lit ?_
      (
        refine wpListIn_plain rfl (fun K hK => ?_)
        go_simp
        refine hK _ _ ?_
        clear hK K)
      (
        refine wpListIn_plain rfl (fun K hK => ?_)
        go_simp
        refine hK _ _ ?_
        clear hK K)
      (
        refine wpListIn_plain rfl (fun K hK => ?_)
        go_simp
        refine hK _ _ ?_
        clear hK K)
      (
        refine wpListIn_plain rfl (fun K hK => ?_)
        go_simp
        refine hK _ _ ?_
        clear hK K)
      (
        refine wpListIn_plain rfl (fun K hK => ?_)
        go_simp
        refine hK _ _ ?_
        clear hK K)
      (
        refine wpListIn_plain rfl (fun K hK => ?_)
        go_simp
        refine hK _ _ ?_
        clear hK K)
      (
        refine wpListIn_plain rfl (fun K hK => ?_)
        go_simp
        refine hK _ _ ?_
        clear hK K)
      (
        refine wpListIn_plain rfl (fun K hK => ?_)
        go_simp
        refine hK _ _ ?_
        clear hK K)
      refine wpListIn_plain rfl (fun K hK => ?_)
      go_simp
      refine ⟨rfl, HRR.out.mono ?_⟩
      rintro e W2 (⟨rfl, hJ2⟩ | ⟨rfl, hJ2⟩)
      · have HJ2 := Lib.hid hJ2
        refine hK _ _ ?_
        clear hK K hy hJ2 HRR
        (
          refine wpListIn_plain rfl (fun K hK => ?_)
          go_simp
          refine hK _ _ ?_
          clear hK K)
        refine wpListIn_nil ?_
        go_wp2
        go_roundg (7 - (k + 1))
        case measure => omega
        case rel => exact ⟨k + 1, by rw [← HSk.out], by go_num, by omega, Nat.le_refl _, HJ2⟩
      · have HJ2 := Lib.hid hJ2
        refine hK _ _ ?_
        clear hK K hy hJ2 HRR
        (
          refine wpListIn_plain rfl (fun K hK => ?_)
          go_simp
          refine hK _ _ ?_
          clear hK K)
        refine wpListIn_nil ?_
        go_wp2
        refine bodyPost_ret (results_none rfl _ _ _) rfl ?_
        exact ⟨⟨_, rfl⟩, .inr ⟨k + 1, by omega, HJ2.out⟩⟩
    · obtain rfl : k = 7 := by omega
      go_wp2
      go_end0
      exact ⟨⟨_, rfl⟩, .inl HJ.out⟩
end Go.Proofs.YtgmohgofcjemkaaDoor

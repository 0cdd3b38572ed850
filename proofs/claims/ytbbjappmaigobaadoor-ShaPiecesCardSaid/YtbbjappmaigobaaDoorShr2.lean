/- What is proved: the document's own Pad. Conditions: none. -/
import Derived.Test.YtbbjappmaigobaaDoorShp
namespace Go.Proofs.YtbbjappmaigobaaDoor
open Go.RowKit
set_option linter.unusedVariables false

theorem src_one (w : World) (c : Int) : Src Tryd.prog 1 24 (.slice (some ⟨w.heap.size, 0, none⟩) 1 1) 1 [.int .u8 c] (w.alloc (.cells #[.int .u8 c] 5)) :=
  Src.ofSlice _ Tryd.underlying24 ⟨w.heap.size, 0, none⟩ 1 1 [.int .u8 c] rfl (by intro j u hj; match j, hj with | 0, hj => simp at hj; subst hj; simp [Addr.add]) (by intro u hu; simp at hu; subst hu; rfl)
theorem own_lit (w : World) (c : Int) : (w.alloc (.cells #[.int .u8 c] 5)).ownsRow w.heap.size 5 1 (.slice (some ⟨w.heap.size, 0, none⟩) 1 1) 1 [.int .u8 c] :=
  World.ownsRow_lit w #[.int .u8 c] 1 (Nat.le_refl _) (by unfold maxLen; decide) rfl

theorem own_weaken {w : World} {base base' : Nat} {e : TypeId} {size n : Nat} {v : Value} {xs : List Value} (h : w.ownsRow base e size v n xs) (hb : base' ≤ base) : w.ownsRow base' e size v n xs := by
  refine ⟨h.1, ?_⟩
  rcases h.2 with h0 | ⟨g, cap, cur, hv, hb2, r⟩
  · exact .inl h0
  · exact .inr ⟨g, cap, cur, hv, Nat.le_trans hb hb2, r⟩
theorem Lies.srcB {w : World} {A : Option Addr} {l : List UInt8} {n : Nat} (h : Lies w A (bytesV l)) (hn : l.length = n) (c : Nat) : Src Tryd.prog 1 24 (.slice A n c) n (bytesV l) w := by
  have := Lies.src (P := Tryd.prog) (tx := 24) (e' := 5) h Tryd.underlying24 (bytesV_one _) c
  rwa [bytesV_length, hn] at this
/-- A row of bytes that is the call's own. -/
def OwnB (w0 w : World) (v : Value) (l : List UInt8) : Prop := w.ownsRow w0.heap.size 5 1 v l.length (bytesV l) ∧ Fr (fun _ => False) w0 w
theorem OwnB.slice {w0 w : World} {v : Value} {l : List UInt8} (h : OwnB w0 w v l) : ∃ A c, v = .slice A l.length c ∧ l.length ≤ c ∧ Lies w A (bytesV l) ∧ ∀ ad, A = some ad → w0.heap.size ≤ ad.block ∧ ad.block < w.heap.size := by
  obtain ⟨A, c, hv, hc, _⟩ := own_slice h.1
  subst hv
  exact ⟨A, c, rfl, hc, Lies.of_own h.1, fun ad e => by subst e; exact World.ownsRow.lt h.1 ad.block rfl⟩
theorem OwnB.fr {w0 w w' : World} {v : Value} {l : List UInt8} (h : OwnB w0 w v l) (f : Fr (fun _ => False) w w') : OwnB w0 w' v l := ⟨own_fr h.1 f (fun _ _ e => e), h.2.trans f (fun _ _ e => e)⟩
/-- What an append leaves of the rest. -/
theorem fr_append {w0 w w' : World} {v : Value} {n : Nat} {xs : List Value} {e : TypeId} {size : Nat} (h : w.ownsRow w0.heap.size e size v n xs) (f : Fr (fun _ => False) w0 w) (hg : w.grownBy w' v.ownBlock) : Fr (fun _ => False) w0 w' :=
  f.grown hg (fun k hk hlt => absurd hlt (by have := (World.ownsRow.lt h k hk).1; omega))

def QPadPost (n : Nat) (w : World) (e : Ending) (w' : World) : Prop := ∃ v, e = .returned v ∧ OwnB w w' v (padB n)

theorem noughts_test (n j : Nat) (h : j ≤ noughts n) : (n % 64 + (j + 1) + 8) % 64 = 0 ↔ j = noughts n := by
  unfold noughts at *
  omega

set_option maxHeartbeats 1600000 in
theorem QPad_any (n : Nat) (hn : n < 18446744073709551616) (w : World) : Calls Tryd.prog 14 #[.int .u64 n] w (QPadPost n w) := by
  obtain ⟨i0, hi, hz0, hz1, hz2⟩ := info_parts info_u8
  obtain ⟨N, hN⟩ : ∃ N : Int, (n : Int) = N := ⟨_, rfl⟩
  rw [hN]
  obtain ⟨r, hr⟩ : ∃ r, n % 64 = r := ⟨_, rfl⟩
  obtain ⟨q, hq⟩ : ∃ q, noughts n = q := ⟨_, rfl⟩
  have hr64 : r < 64 := by rw [← hr]; exact Nat.mod_lt _ (by decide)
  have hq64 : q < 64 := by rw [← hq]; exact noughts_lt n
  have e0 : N % 64 = (r : Int) := by rw [← hN, ← hr]; omega
  have hN0 : 0 ≤ N := by omega
  obtain ⟨M, hM⟩ : ∃ M, 8 * n % 18446744073709551616 = M := ⟨_, rfl⟩
  obtain ⟨m, hm⟩ : ∃ m : Int, (M : Int) = m := ⟨_, rfl⟩
  have e2 : IntKind.u64.wrap (N * 8) = m := by rw [IntKind.wrap_u64, ← hN, ← hm, ← hM]; omega
  have hm0 : 0 ≤ m := by omega
  have hm1 : m < 18446744073709551616 := by omega
  have HT := Lib.hid (noughts_test n)
  rw [hr, hq] at HT
  have HP := Lib.hid (show padB n = (128 :: List.replicate q 0) ++ tailB M 8 by unfold padB; rw [hq, hM]; rfl)
  have HM := Lib.hid hm
  clear hN hr hq hM hm
  go_enter Tryd.func14, Tryd.ntmps14
  go_wp2_with fail
  go_loopw [3] (fun v wr => ∃ j : Nat, j ≤ q ∧ OwnB w wr v (128 :: List.replicate j 0)) (fun v _ => match v with | .slice _ n _ => q + 1 - n | _ => 0)
  case atStart => exact ⟨0, Nat.zero_le _, own_lit w 128, (Fr.refl _ w).alloc _⟩
  case round =>
    obtain ⟨j, hj, ho⟩ := hrel
    have ht := HT.out j hj
    obtain ⟨A, c, rfl, hc, hl, hb⟩ := ho.slice
    have hlen : (128 :: List.replicate j (0 : UInt8)).length = j + 1 := by simp
    have HO := Lib.hid ho
    have hO1 := ho.1
    rw [hlen] at hc hO1 ⊢
    have HO1 := Lib.hid hO1
    clear hO1
    clear ho hl hb
    by_cases hlt : j < q
    · have t0 : ((r : Int) + (j + 1) + 8) % 64 ≠ 0 := by omega
      go_wp2_with (at_builtin; refine wpList_append_row _ rfl (.tmp 17) (.tmp 18) 24 24 rfl w.heap.size 5 i0 (.int .u8 0) 1 1 Tryd.underlying24 hi hz0 hz1 hz2 rfl _ (j + 1) (bytesV (128 :: List.replicate j 0)) rfl (own_fr (S := fun _ => False) HO1.out ((Fr.refl _ wr).alloc _) (fun _ _ e => e)) _ 1 [.int .u8 0] rfl (src_one wr _) (by unfold maxLen; omega) (by omega) (by have := HO.out.2.size; simp; omega) ?_; intro v1 w1 o1 g1 at1)
      have hN : OwnB w w1 v1 (128 :: List.replicate (j + 1) 0) := by
        refine ⟨?_, fr_append (own_fr (S := fun _ => False) HO1.out ((Fr.refl _ wr).alloc _) (fun _ _ e => e)) (HO.out.2.alloc _) g1⟩
        have e1 : (128 :: List.replicate (j + 1) (0 : UInt8)) = (128 :: List.replicate j 0) ++ [0] := by rw [List.replicate_succ']; rfl
        rw [e1, bytesV_append, List.length_append, hlen]
        exact o1
      obtain ⟨A1, c1, rfl, hc1, -, -⟩ := hN.slice
      have HN := Lib.hid hN
      clear hN o1 g1 at1
      go_wp2_with fail
      go_roundw
      case rel => exact ⟨j + 1, by omega, HN.out⟩
      case measure => simp; omega
    · have hjq : j = q := by omega
      subst hjq
      have t0 : ((r : Int) + (j + 1) + 8) % 64 = 0 := by omega
      go_wp2_with fail
      obtain ⟨w5, rfl⟩ : ∃ w5, w5 = wr := ⟨_, rfl⟩
      go_loopw [4, 5, 6] (fun b v i wr2 => ∃ k : Nat, k ≤ 8 ∧ i = .int .i64 k ∧ b = .int .u64 ((M / 256 ^ k : Nat) : Int) ∧ OwnB w5 wr2 v (tailB M k)) (fun _ _ i _ => 8 - (intOf i).toNat)
      case atStart => exact ⟨0, by omega, rfl, by rw [Nat.pow_zero, Nat.div_one, HM.out], World.ownsRow_nil _ _ _ _, Fr.refl _ _⟩
      case round =>
        obtain ⟨k, hk, rfl, rfl, ho⟩ := hrel
        obtain ⟨A2, c2, rfl, hc2, hl2, hb2⟩ := ho.slice
        have hlen2 := tailB_length M k
        have HO2 := Lib.hid ho
        have HL2 := Lib.hid hl2
        rw [hlen2] at hc2 ⊢
        obtain ⟨Bn, hBn⟩ : ∃ Bn, M / 256 ^ k = Bn := ⟨_, rfl⟩
        have hBM : Bn ≤ M := by rw [← hBn]; exact Nat.div_le_self _ _
        have hd : Bn / 256 = M / 256 ^ (k + 1) := by rw [← hBn, Nat.pow_succ, Nat.div_div_eq_div_mul]
        have hB2 : UInt8.ofNat (M / 256 ^ k % 256) = UInt8.ofNat (Bn % 256) := by rw [hBn]
        have HMM := HM.out
        rw [hBn]
        obtain ⟨B, hB⟩ : ∃ B : Int, (Bn : Int) = B := ⟨_, rfl⟩
        have hB0 : 0 ≤ B := by omega
        have hB1 : B < 18446744073709551616 := by omega
        rw [hB]
        have hm256 : B % 256 = ((Bn % 256 : Nat) : Int) := by rw [← hB]; omega
        have hd256 : B / 256 = ((M / 256 ^ (k + 1) : Nat) : Int) := by rw [← hB, ← hd]; omega
        have HB := Lib.hid hm256
        have HD := Lib.hid hd256
        have HU := Lib.hid hB2
        have hw5 := HO2.out.2.size
        clear ho hl2 hb2 hm256 hd256 hB hBn hBM hd hB2 HMM
        by_cases hlt2 : k < 8
        · go_wp2_with (at_builtin; refine wpList_append_row _ rfl (.tmp 29) (.tmp 30) 24 24 rfl w5.heap.size 5 i0 (.int .u8 0) 1 1 Tryd.underlying24 hi hz0 hz1 hz2 rfl _ 1 _ rfl (own_weaken (own_lit wr _) hw5) _ k (bytesV (tailB M k)) rfl (Lies.srcB (HL2.out.fr (S := fun _ => False) ((Fr.refl _ _).alloc _) (fun _ _ e => e)) hlen2 c2) (by unfold maxLen; omega) (by omega) (by simp; omega) ?_; intro v1 w1 o1 g1 at1)
          have hN : OwnB w5 w1 v1 (tailB M (k + 1)) := by
            refine ⟨?_, fr_append (own_weaken (own_lit wr _) hw5) (HO2.out.2.alloc _) g1⟩
            rw [tailB_length, tailB, HU.out]
            have e1 : bytesV (UInt8.ofNat (Bn % 256) :: tailB M k) = [.int .u8 (B % 256)] ++ bytesV (tailB M k) := by
              rw [HB.out]
              show byteV _ :: _ = _
              unfold byteV
              rw [UInt8.toNat_ofNat_of_lt' (by show _ < 256; omega)]
              rfl
            rw [e1, Nat.add_comm k 1]
            exact o1
          have HN := Lib.hid hN
          clear hN o1 g1 at1
          go_wp2_with fail
          go_roundw
          case rel => exact ⟨k + 1, by omega, by go_num, by rw [HD.out], HN.out⟩
          case measure => simp [intOf]; omega
        · have hk8 : k = 8 := by omega
          subst hk8
          have ho1 := own_fr (S := fun _ => False) HO1.out HO2.out.2 (fun _ _ e => e)
          have HO3 := Lib.hid ho1
          clear ho1
          go_wp2_with (at_builtin; refine wpList_append_row _ rfl (.tmp 34) (.tmp 35) 24 24 rfl w.heap.size 5 i0 (.int .u8 0) 1 1 Tryd.underlying24 hi hz0 hz1 hz2 rfl _ (j + 1) _ rfl HO3.out _ 8 (bytesV (tailB M 8)) rfl (Lies.srcB HL2.out hlen2 c2) (by unfold maxLen; omega) (by omega) (by have := HO.out.2.size; omega) ?_; intro v1 w1 o1 g1 at1)
          have F5 := fr_append HO3.out (HO.out.2.trans HO2.out.2 (fun _ _ e => e)) g1
          have HO4 := Lib.hid o1
          clear o1 g1 at1
          go_ret
          refine ⟨v1, rfl, ?_, F5⟩
          rw [HP.out, bytesV_append, List.length_append, hlen, hlen2]
          exact HO4.out
end Go.Proofs.YtbbjappmaigobaaDoor

/- What is proved: what the walks of this seat need of layers below, merged out of the texts Shr2 Shf (of each just what is needed). Conditions: each theorem names its own. -/
import Derived.LoopN
import Derived.Test.YtgbhdjncccmabaaGreatDoorDba
import Derived.Test.YtgbhdjncccmabaaGreatDoorBpc
import Derived.Test.YtgbhdjncccmabaaGreatDoorBq
import Derived.Test.YtgbhdjncccmabaaGreatDoorBr
set_option maxRecDepth 100000
/- What is proved: the document's own Pad. Conditions: none. -/
namespace Go.Proofs.YtgbhdjncccmabaaGreatDoor
open Go.RowKit
set_option linter.unusedVariables false
theorem src_oneS (w : World) (c : Int) : Src Tryz.prog 1 28 (.slice (some ⟨w.heap.size, 0, none⟩) 1 1) 1 [.int .u8 c] (w.alloc (.cells #[.int .u8 c] 5)) :=
  Src.ofSlice _ Tryz.underlying28 ⟨w.heap.size, 0, none⟩ 1 1 [.int .u8 c] rfl (by intro j u hj; match j, hj with | 0, hj => simp at hj; subst hj; simp [Addr.add]) (by intro u hu; simp at hu; subst hu; rfl)
theorem own_lit (w : World) (c : Int) : (w.alloc (.cells #[.int .u8 c] 5)).ownsRow w.heap.size 5 1 (.slice (some ⟨w.heap.size, 0, none⟩) 1 1) 1 [.int .u8 c] :=
  World.ownsRow_lit w #[.int .u8 c] 1 (Nat.le_refl _) (by unfold maxLen; decide) rfl
theorem Lies.srcBS {w : World} {A : Option Addr} {l : List UInt8} {n : Nat} (h : Lies w A (bytesV l)) (hn : l.length = n) (c : Nat) : Src Tryz.prog 1 28 (.slice A n c) n (bytesV l) w := by
  have := Lies.src (P := Tryz.prog) (tx := 28) (e' := 5) h Tryz.underlying28 (bytesV_one _) c
  rwa [bytesV_length, hn] at this
/-- A row of bytes that is the call's own. -/
def OwnBS (w0 w : World) (v : Value) (l : List UInt8) : Prop := w.ownsRow w0.heap.size 5 1 v l.length (bytesV l) ∧ Fr (fun _ => False) w0 w
theorem OwnBS.slice {w0 w : World} {v : Value} {l : List UInt8} (h : OwnBS w0 w v l) : ∃ A c, v = .slice A l.length c ∧ l.length ≤ c ∧ Lies w A (bytesV l) ∧ ∀ ad, A = some ad → w0.heap.size ≤ ad.block ∧ ad.block < w.heap.size := by
  obtain ⟨A, c, hv, hc, _⟩ := own_slice h.1
  subst hv
  exact ⟨A, c, rfl, hc, Lies.of_own h.1, fun ad e => by subst e; exact World.ownsRow.lt h.1 ad.block rfl⟩
theorem OwnBS.fr {w0 w w' : World} {v : Value} {l : List UInt8} (h : OwnBS w0 w v l) (f : Fr (fun _ => False) w w') : OwnBS w0 w' v l := ⟨own_fr h.1 f (fun _ _ e => e), h.2.trans f (fun _ _ e => e)⟩
/-- What an append leaves of the rest. -/
theorem fr_appendS {w0 w w' : World} {v : Value} {n : Nat} {xs : List Value} {e : TypeId} {size : Nat} (h : w.ownsRow w0.heap.size e size v n xs) (f : Fr (fun _ => False) w0 w) (hg : w.grownBy w' v.ownBlock) : Fr (fun _ => False) w0 w' :=
  f.grown hg (fun k hk hlt => absurd hlt (by have := (World.ownsRow.lt h k hk).1; omega))
def QPadPost (n : Nat) (w : World) (e : Ending) (w' : World) : Prop := ∃ v, e = .returned v ∧ OwnBS w w' v (padB n)
theorem noughts_test (n j : Nat) (h : j ≤ noughts n) : (n % 64 + (j + 1) + 8) % 64 = 0 ↔ j = noughts n := by
  unfold noughts at *
  omega
set_option maxHeartbeats 1600000 in
theorem QPad_any (n : Nat) (hn : n < 18446744073709551616) (w : World) : Calls Tryz.prog 52 #[.int .u64 n] w (QPadPost n w) := by
  obtain ⟨i0, hi, hz0, hz1, hz2⟩ := info_partsS info_u8S
  obtain ⟨N, hN⟩ : ∃ N : Int, (n : Int) = N := ⟨_, rfl⟩
  rw [hN]
  obtain ⟨r, hr⟩ : ∃ r, n % 64 = r := ⟨_, rfl⟩
  obtain ⟨q, hq⟩ : ∃ q, noughts n = q := ⟨_, rfl⟩
  have hr64 : r < 64 := by rw [← hr]; exact Nat.mod_lt _ (by decide)
  have hq64 : q < 64 := by rw [← hq]; exact noughts_lt n
  have e0 : N % 64 = (r : Int) := by rw [← hN, ← hr]; omega
  have hN0 : 0 ≤ N := by omega
  obtain ⟨M, hM⟩ : ∃ M, 8 * n % 18446744073709551616 = M := ⟨_, rfl⟩
  obtain ⟨m, hm⟩ : ∃ m : Int, (M : Int) = m := ⟨_, rfl⟩
  have e2 : IntKind.u64.wrap (N * 8) = m := by rw [IntKind.wrap_u64, ← hN, ← hm, ← hM]; omega
  have hm0 : 0 ≤ m := by omega
  have hm1 : m < 18446744073709551616 := by omega
  have HT := Lib.hid (noughts_test n)
  rw [hr, hq] at HT
  have HP := Lib.hid (show padB n = (128 :: List.replicate q 0) ++ tailB M 8 by unfold padB; rw [hq, hM]; rfl)
  have HM := Lib.hid hm
  clear hN hr hq hM hm
  go_enter Tryz.func52, Tryz.ntmps52
  go_wp2_with fail
  go_loopw [3] (fun v wr => ∃ j : Nat, j ≤ q ∧ OwnBS w wr v (128 :: List.replicate j 0)) (fun v _ => match v with | .slice _ n _ => q + 1 - n | _ => 0)
  case atStart => exact ⟨0, Nat.zero_le _, own_lit w 128, (Fr.refl _ w).alloc _⟩
  case round =>
    obtain ⟨j, hj, ho⟩ := hrel
    have ht := HT.out j hj
    obtain ⟨A, c, rfl, hc, hl, hb⟩ := ho.slice
    have hlen : (128 :: List.replicate j (0 : UInt8)).length = j + 1 := by simp
    have HO := Lib.hid ho
    have hO1 := ho.1
    rw [hlen] at hc hO1 ⊢
    have HO1 := Lib.hid hO1
    clear hO1
    clear ho hl hb
    by_cases hlt : j < q
    · have t0 : ((r : Int) + (j + 1) + 8) % 64 ≠ 0 := by omega
      go_wp2_with (at_builtin; refine wpList_append_row _ rfl (.tmp 17) (.tmp 18) 28 28 rfl w.heap.size 5 i0 (.int .u8 0) 1 1 Tryz.underlying28 hi hz0 hz1 hz2 rfl _ (j + 1) (bytesV (128 :: List.replicate j 0)) rfl (own_fr (S := fun _ => False) HO1.out ((Fr.refl _ wr).alloc _) (fun _ _ e => e)) _ 1 [.int .u8 0] rfl (src_oneS wr _) (by unfold maxLen; omega) (by omega) (by have := HO.out.2.size; simp; omega) ?_; intro v1 w1 o1 g1 at1)
      have hN : OwnBS w w1 v1 (128 :: List.replicate (j + 1) 0) := by
        refine ⟨?_, fr_appendS (own_fr (S := fun _ => False) HO1.out ((Fr.refl _ wr).alloc _) (fun _ _ e => e)) (HO.out.2.alloc _) g1⟩
        have e1 : (128 :: List.replicate (j + 1) (0 : UInt8)) = (128 :: List.replicate j 0) ++ [0] := by rw [List.replicate_succ']; rfl
        rw [e1, bytesV_append, List.length_append, hlen]
        exact o1
      obtain ⟨A1, c1, rfl, hc1, -, -⟩ := hN.slice
      have HN := Lib.hid hN
      clear hN o1 g1 at1
      go_wp2_with fail
      go_roundw
      case rel => exact ⟨j + 1, by omega, HN.out⟩
      case measure => simp; omega
    · have hjq : j = q := by omega
      subst hjq
      have t0 : ((r : Int) + (j + 1) + 8) % 64 = 0 := by omega
      go_wp2_with fail
      obtain ⟨w5, rfl⟩ : ∃ w5, w5 = wr := ⟨_, rfl⟩
      go_loopw [4, 5, 6] (fun b v i wr2 => ∃ k : Nat, k ≤ 8 ∧ i = .int .i64 k ∧ b = .int .u64 ((M / 256 ^ k : Nat) : Int) ∧ OwnBS w5 wr2 v (tailB M k)) (fun _ _ i _ => 8 - (intOf i).toNat)
      case atStart => exact ⟨0, by omega, rfl, by rw [Nat.pow_zero, Nat.div_one, HM.out], World.ownsRow_nil _ _ _ _, Fr.refl _ _⟩
      case round =>
        obtain ⟨k, hk, rfl, rfl, ho⟩ := hrel
        obtain ⟨A2, c2, rfl, hc2, hl2, hb2⟩ := ho.slice
        have hlen2 := tailB_length M k
        have HO2 := Lib.hid ho
        have HL2 := Lib.hid hl2
        rw [hlen2] at hc2 ⊢
        obtain ⟨Bn, hBn⟩ : ∃ Bn, M / 256 ^ k = Bn := ⟨_, rfl⟩
        have hBM : Bn ≤ M := by rw [← hBn]; exact Nat.div_le_self _ _
        have hd : Bn / 256 = M / 256 ^ (k + 1) := by rw [← hBn, Nat.pow_succ, Nat.div_div_eq_div_mul]
        have hB2 : UInt8.ofNat (M / 256 ^ k % 256) = UInt8.ofNat (Bn % 256) := by rw [hBn]
        have HMM := HM.out
        rw [hBn]
        obtain ⟨B, hB⟩ : ∃ B : Int, (Bn : Int) = B := ⟨_, rfl⟩
        have hB0 : 0 ≤ B := by omega
        have hB1 : B < 18446744073709551616 := by omega
        rw [hB]
        have hm256 : B % 256 = ((Bn % 256 : Nat) : Int) := by rw [← hB]; omega
        have hd256 : B / 256 = ((M / 256 ^ (k + 1) : Nat) : Int) := by rw [← hB, ← hd]; omega
        have HB := Lib.hid hm256
        have HD := Lib.hid hd256
        have HU := Lib.hid hB2
        have hw5 := HO2.out.2.size
        clear ho hl2 hb2 hm256 hd256 hB hBn hBM hd hB2 HMM
        by_cases hlt2 : k < 8
        · go_wp2_with (at_builtin; refine wpList_append_row _ rfl (.tmp 29) (.tmp 30) 28 28 rfl w5.heap.size 5 i0 (.int .u8 0) 1 1 Tryz.underlying28 hi hz0 hz1 hz2 rfl _ 1 _ rfl (own_weaken (own_lit wr _) hw5) _ k (bytesV (tailB M k)) rfl (Lies.srcBS (HL2.out.fr (S := fun _ => False) ((Fr.refl _ _).alloc _) (fun _ _ e => e)) hlen2 c2) (by unfold maxLen; omega) (by omega) (by simp; omega) ?_; intro v1 w1 o1 g1 at1)
          have hN : OwnBS w5 w1 v1 (tailB M (k + 1)) := by
            refine ⟨?_, fr_appendS (own_weaken (own_lit wr _) hw5) (HO2.out.2.alloc _) g1⟩
            rw [tailB_length, tailB, HU.out]
            have e1 : bytesV (UInt8.ofNat (Bn % 256) :: tailB M k) = [.int .u8 (B % 256)] ++ bytesV (tailB M k) := by
              rw [HB.out]
              show byteV _ :: _ = _
              unfold byteV
              rw [UInt8.toNat_ofNat_of_lt' (by show _ < 256; omega)]
              rfl
            rw [e1, Nat.add_comm k 1]
            exact o1
          have HN := Lib.hid hN
          clear hN o1 g1 at1
          go_wp2_with fail
          go_roundw
          case rel => exact ⟨k + 1, by omega, by go_num, by rw [HD.out], HN.out⟩
          case measure => simp [intOf]; omega
        · have hk8 : k = 8 := by omega
          subst hk8
          have ho1 := own_fr (S := fun _ => False) HO1.out HO2.out.2 (fun _ _ e => e)
          have HO3 := Lib.hid ho1
          clear ho1
          go_wp2_with (at_builtin; refine wpList_append_row _ rfl (.tmp 34) (.tmp 35) 28 28 rfl w.heap.size 5 i0 (.int .u8 0) 1 1 Tryz.underlying28 hi hz0 hz1 hz2 rfl _ (j + 1) _ rfl HO3.out _ 8 (bytesV (tailB M 8)) rfl (Lies.srcBS HL2.out hlen2 c2) (by unfold maxLen; omega) (by omega) (by have := HO.out.2.size; omega) ?_; intro v1 w1 o1 g1 at1)
          have F5 := fr_appendS HO3.out (HO.out.2.trans HO2.out.2 (fun _ _ e => e)) g1
          have HO4 := Lib.hid o1
          clear o1 g1 at1
          go_ret
          refine ⟨v1, rfl, ?_, F5⟩
          rw [HP.out, bytesV_append, List.length_append, hlen, hlen2]
          exact HO4.out
end Go.Proofs.YtgbhdjncccmabaaGreatDoor
/- What is proved: the document's own sum of a text (Of). Conditions: the text's bytes lie where they are said to lie; at most 2^46 bytes. -/
namespace Go.Proofs.YtgbhdjncccmabaaGreatDoor
open Go.RowKit
set_option linter.unusedVariables false
/-- An array of 32 bytes. -/
def arrF (f : Nat → Int) : Array Value := ((List.range 32).map (fun i => Value.int .u8 (f i))).toArray
theorem arrF_get (f : Nat → Int) (i : Nat) (h : i < 32) : (arrF f)[i]? = some (.int .u8 (f i)) := by
  simp only [arrF, List.getElem?_toArray]
  rw [List.getElem?_map, List.getElem?_range h]
  rfl
theorem arrF_set (f : Nat → Int) (p : Nat) (x : Int) (h : p < 32) : (arrF f).setIfInBounds p (.int .u8 x) = arrF (fun i => if i = p then x else f i) := by
  apply Array.ext_getElem?
  intro i
  rw [Array.getElem?_setIfInBounds]
  by_cases hi : i < 32
  · rw [arrF_get _ i hi]
    by_cases hp : p = i
    · subst hp
      rw [if_pos rfl, if_pos (by simp [arrF]; exact h), arrF_get _ p h, if_pos rfl]
    · rw [if_neg hp, arrF_get _ i hi, if_neg (fun e => hp e.symm)]
  · have e1 : (arrF (fun i => if i = p then x else f i))[i]? = none := Array.getElem?_eq_none (by simp [arrF]; omega)
    have e2 : (arrF f)[i]? = none := Array.getElem?_eq_none (by simp [arrF]; omega)
    rw [if_neg (by omega), e1, e2]
theorem arrF_done (f : Nat → Int) (s : S8) (h : ∀ i, i < 32 → f i = idN s i) : arrF f = idCS s 32 := by
  apply Array.toList_inj.1
  simp only [arrF, idCS, Nat.sub_self, List.replicate_zero, List.append_nil]
  exact List.map_congr_left (fun i hi => by rw [h i (List.mem_range.1 hi)])
theorem idN_0 (s : S8) (k : Nat) : idN s (4 * k) = s.nums.getD k 0 / 16777216 % 256 := by
  unfold idN
  rw [show 4 * k / 4 = k by omega, show 4 * k % 4 = 0 by omega]
  rfl
theorem idN_1 (s : S8) (k : Nat) : idN s (4 * k + 1) = s.nums.getD k 0 / 65536 % 256 := by
  unfold idN
  rw [show (4 * k + 1) / 4 = k by omega, show (4 * k + 1) % 4 = 1 by omega]
  rfl
theorem idN_2 (s : S8) (k : Nat) : idN s (4 * k + 2) = s.nums.getD k 0 / 256 % 256 := by
  unfold idN
  rw [show (4 * k + 2) / 4 = k by omega, show (4 * k + 2) % 4 = 2 by omega]
  rfl
theorem idN_3 (s : S8) (k : Nat) : idN s (4 * k + 3) = s.nums.getD k 0 % 256 := by
  unfold idN
  rw [show (4 * k + 3) / 4 = k by omega, show (4 * k + 3) % 4 = 3 by omega]
  show _ / 1 % 256 = _
  rw [Int.ediv_one]
theorem blockAt_length (l : List UInt8) (k : Nat) (h : 64 * (k + 1) ≤ l.length) : (blockAt l k).length = 64 := by
  unfold blockAt
  rw [List.length_take, List.length_drop]
  omega
theorem blockAt_byte (l : List UInt8) (k i : Nat) (hi : i < 64) : byteI (blockAt l k) i = byteI l (64 * k + i) := by
  unfold byteI blockAt
  rw [List.getD_eq_getElem?_getD, List.getElem?_take, if_pos hi, List.getElem?_drop, ← List.getD_eq_getElem?_getD]
set_option maxHeartbeats 3200000 in
theorem QOf_any (A : Option Addr) (cap : Nat) (bs : List UInt8) (w : World) (hl : Lies w A (bytesV bs)) (hm : bs.length ≤ 70368744177664) :
    Calls Tryz.prog 32 #[.slice A bs.length cap] w fun e w' => e = .returned (.agg (sumV bs)) ∧ Below w.heap.size w w' := by
  obtain ⟨i0, hi, hz0, hz1, hz2⟩ := info_partsS info_u8S
  obtain ⟨w1, hw1⟩ : ∃ w1, w.alloc (.cells zero32 24) = w1 := ⟨_, rfl⟩
  have hF : Fr (fun _ => False) w w1 := by subst hw1; exact (Fr.refl _ w).alloc _
  have hZ : Whole w1 w.heap.size 24 zero32 := by subst hw1; exact Whole.new w 24 zero32
  unfold zero32 at hw1
  simp [List.replicate] at hw1
  have hl1 := hl.fr hF (fun _ _ e => e)
  obtain ⟨n, hn⟩ : ∃ n, bs.length = n := ⟨_, rfl⟩
  have hpl := padB_length n
  have hnl := noughts_lt n
  obtain ⟨pl, hpe⟩ : ∃ pl, (padB n).length = pl := ⟨_, rfl⟩
  have hpl72 : pl ≤ 72 := by omega
  obtain ⟨all, hall⟩ : ∃ all, bs ++ padB n = all := ⟨_, rfl⟩
  have hsum : sumV bs = idCS (stN all (all.length / 64)) 32 := by unfold sumV stOf; rw [hn, hall]
  have hlen : all.length % 64 = 0 := by rw [← hall, List.length_append, hn]; exact padB_whole n
  have hlenm : all.length ≤ 70368744177664 + 72 := by rw [← hall, List.length_append, hn, hpe]; omega
  have hln : all.length = n + pl := by rw [← hall, List.length_append, hn, hpe]
  have hbv : bytesV all = bytesV bs ++ bytesV (padB n) := by rw [← hall, bytesV_append]
  obtain ⟨L, hL⟩ : ∃ L, all.length = L := ⟨_, rfl⟩
  rw [hL] at hlen hlenm hsum hln
  have HLen := Lib.hid hL
  have HLn := Lib.hid hln
  have HBV := Lib.hid hbv
  have HSum := Lib.hid hsum
  have HN := Lib.hid hn
  have HPE := Lib.hid hpe
  rw [hn] at hm ⊢
  have HF := Lib.hid hF
  have HZ := Lib.hid hZ
  have HL1 := Lib.hid hl1
  clear hF hZ hl hl1 hn hpl hnl hpe hsum hln hbv hL hall
  go_enter Tryz.func32, Tryz.ntmps32
  go_wp2_with (first
    | (go_at_call 52; refine (QPad_any n (by omega) _).mono ?_; rintro e w3 ⟨v3, rfl, o3⟩; obtain ⟨A3, c3, rfl, hc3, hl3, hb3⟩ := o3.slice; rw [HPE.out]; have hO3 := own_fr (S := fun _ => False) ob2.1 o3.2 (fun _ _ e => e); rw [HN.out] at hO3)
    | (at_builtin; refine wpList_append_row _ rfl (.tmp 10) (.tmp 11) 28 28 rfl w1.heap.size 5 i0 (.int .u8 0) 1 1 Tryz.underlying28 hi hz0 hz1 hz2 rfl (.slice none 0 0) 0 [] rfl (World.ownsRow_nil w1 w1.heap.size 5 1) (.slice A n cap) n (bytesV bs) rfl (Lies.srcBS HL1.out HN.out cap) (by unfold maxLen; omega) (by omega) (Nat.le_refl _) ?_
       intro v2 w2 o2 g2 at2
       have ob2 : OwnBS w1 w2 v2 bs := ⟨by rw [HN.out]; rw [Nat.zero_add, List.nil_append] at o2; exact o2, fr_appendS (World.ownsRow_nil w1 w1.heap.size 5 1) (Fr.refl _ w1) g2⟩
       obtain ⟨A2, c2, rfl, hc2, hl2, hb2⟩ := ob2.slice
       rw [HN.out])
    | (at_builtin; refine wpList_append_row _ rfl (.tmp 13) (.tmp 17) 28 28 rfl w1.heap.size 5 i0 (.int .u8 0) 1 1 Tryz.underlying28 hi hz0 hz1 hz2 rfl (.slice A2 n c2) n (bytesV bs) rfl hO3 (.slice A3 pl c3) pl (bytesV (padB n)) rfl (Lies.srcBS hl3 HPE.out c3) (by unfold maxLen; omega) (by omega) (by have := ob2.2.size; have := o3.2.size; omega) ?_
       intro v4 w4 o4 g4 at4
       have ob4 : OwnBS w1 w4 v4 all := ⟨by rw [HLen.out, HLn.out, HBV.out]; exact o4, fr_appendS hO3 (ob2.2.trans o3.2 (fun _ _ e => e)) g4⟩
       obtain ⟨A4, c4, rfl, hc4, hl4, hb4⟩ := ob4.slice
       rw [HLen.out] at hc4 ⊢)
    | (go_at_call 53; refine (QStart_any _).mono ?_; rintro e w5 ⟨rfl, b5⟩)
    | (refine wpList_store_at rfl 111 _ _ rfl w5.heap.size 0 111 _ S8.start.vals rfl rfl (Whole.new w5 111 S8.zero.vals) (show 0 + 8 ≤ 8 from Nat.le_refl 8) size8 (S8.one _) ?_; intro w6 hw6 hf6; replace hw6 := S8.laid hw6))
  have F6 : Fr (fun _ => False) w1 w6 := (ob4.2.then_below b5).alloc _ |>.trans hf6 (fun i hi e => by have := (ob4.2.then_below b5).size; omega)
  have F46 : Fr (fun _ => False) w4 w6 := ((Fr.refl (fun _ => False) w4).then_below b5).alloc _ |>.trans hf6 (fun i hi e => by have := b5.size; omega)
  have hl6 := hl4.fr F46 (fun _ _ e => e)
  have hbw : w5.heap.size < w6.heap.size := hw6.lt
  have HL6 := Lib.hid hl6
  have HB4 := Lib.hid (show ∀ ad, A4 = some ad → ad.block ≠ w5.heap.size from fun ad had e => by have := (hb4 ad had).2; have := b5.size; omega)
  have HW6 := Lib.hid hw6
  have HF6 := Lib.hid F6
  have HW5 := Lib.hid (show w.heap.size < w5.heap.size by have := (ob4.2.then_below b5).size; have := HZ.out.lt; omega)
  clear hl6 hw6 F6 F46 hO3 ob4 hl4 hb4 o3 hl3 hb3 hc3 ob2 o2 g2 at2 hl2 hb2 hc2 o4 g4 at4 b5 hf6 hw1
  go_wp2_with fail
  go_loopw [5] (fun i wr => ∃ k : Nat, 64 * k ≤ L ∧ i = .int .i64 ((64 * k : Nat) : Int) ∧ Whole wr w5.heap.size 111 (stN all k).vals ∧ Fr (fun j => j = w5.heap.size) w6 wr) (fun i _ => L + 1 - (intOf i).toNat)
  case atStart => exact ⟨0, by omega, rfl, HW6.out, Fr.refl _ _⟩
  case round =>
    obtain ⟨k, hk, rfl, hw, hf⟩ := hrel
    obtain ⟨p, hp⟩ : ∃ p, 64 * k = p := ⟨_, rfl⟩
    rw [hp] at hk ⊢
    by_cases hlt : p + 64 ≤ L
    · obtain ⟨c0, c1, c2, c3, c4', c5, c6, c7⟩ := S8.cells hw
      have hpc : (p : Int) + 64 ≤ c4 := by omega
      have hp0 : (0 : Int) ≤ (p : Int) + 64 := by omega
      have hwr : IntKind.i64.wrap ((p : Int) + 64) = (p : Int) + 64 := by simp only [IntKind.wrap_i64]; omega
      have hpp : (p : Int) ≤ (p : Int) + 64 := by omega
      have htn : ((p : Int) + 64).toNat = p + 64 := by omega
      have hsub : p + 64 - p = 64 := by omega
      have hne : ¬ c4 = p := by omega
      have hfr := HF6.out
      have hbound := hlen
      rcases HL6.out with h0 | ⟨bk, off, rfl, hc⟩
      · have : (bytesV all).length = L := by rw [bytesV_length, HLen.out]
        rw [h0] at this
        simp at this
        omega
      · have HC := Lib.hid hc
        have HW := Lib.hid hw
        have HFR := Lib.hid hf
        clear hc hw hf
        go_wp2_with fail
        go_region_law (first
          | (go_simp; go_at_call 54
             have hFd := (HFR.out).drew
             refine (QBlock_any (stN all k) bk (off + p) (c4 - p) (blockAt all k) wr.drew (blockAt_length all k (by rw [HLen.out]; omega)) (fun i hi => by
               rw [blockAt_byte all k i hi, hp, Nat.add_assoc]
               exact hFd.cell (HC.out (p + i) _ (by rw [bytesV, List.getElem?_map, List.getElem?_eq_getElem (by rw [HLen.out]; omega)]; simp [byteV, byteI, List.getD_eq_getElem?_getD, List.getElem?_eq_getElem (show p + i < all.length by rw [HLen.out]; omega)])) (show ¬ bk = w5.heap.size from HB4.out ⟨bk, off, none⟩ rfl))).mono ?_
             rintro e w7 ⟨rfl, b7⟩
             have hW7 := (Whole.fr (Whole.fr HW.out ((Fr.refl (fun _ => False) wr).drew) (fun e => e)) (Fr.of_below (S := fun _ => False) b7) (fun e => e))
             obtain ⟨w8, hst, hw8, hf8⟩ := run_storeCells_whole (P := Tryz.prog) (o := 0) (blk (stN all k) (blockAt all k)).vals hW7 (by rw [S8.size, S8.size]; decide) (S8.one _)
             have hs8 := S8.size (blk (stN all k) (blockAt all k))))
        replace hw8 := S8.laid hw8
        have hF8 := (HFR.out.drew.trans (Fr.of_below (S := fun _ => False) b7) (fun _ _ e => e.elim)).trans hf8 (fun _ _ e => e)
        have HW8 := Lib.hid hw8
        have HF8 := Lib.hid hF8
        clear hw8 hF8 hst hs8 c0 c1 c2 c3 c4' c5 c6 c7 b7 hf8 hW7
        go_wp2_with fail
        go_roundw
        case rel => exact ⟨k + 1, by omega, by rw [show 64 * (k + 1) = p + 64 by omega]; go_num, HW8.out, HF8.out⟩
        case measure => simp [intOf]; omega
    · have hpL : p = L := by omega
      subst hpL
      have hkL : p / 64 = k := by omega
      have hsum := HSum.out
      rw [hkL] at hsum
      have HS2 := Lib.hid hsum
      have HW := Lib.hid hw
      have HFR := Lib.hid hf
      clear hw hf hsum
      obtain ⟨s, hs⟩ : ∃ s, stN all k = s := ⟨_, rfl⟩
      have hok : s.ok := by rw [← hs]; exact stN_ok all k
      rw [hs] at HW HS2
      clear hs
      obtain ⟨w9, rfl⟩ : ∃ w9, w9 = wr := ⟨_, rfl⟩
      have hwlt := HFR.out.size
      obtain ⟨wa, hwa⟩ : ∃ wa, w9.alloc (.cells zero32 24) = wa := ⟨_, rfl⟩
      have hG : Whole wa w9.heap.size 24 (arrF (fun _ => 0)) := by subst hwa; exact Whole.new w9 24 zero32
      have hFa : Fr (fun _ => False) w9 wa := by subst hwa; exact (Fr.refl _ w9).alloc _
      have HG := Lib.hid hG
      have HWa := Lib.hid (Whole.fr HW.out hFa (fun e => e))
      have HFa := Lib.hid ((HFR.out).trans hFa (fun _ _ e => e.elim))
      unfold zero32 at hwa
      simp [List.replicate] at hwa
      clear hG hFa
      go_wp2_with fail
      clear hwa
      go_loopw [7] (fun i wr => ∃ (t : Nat) (f : Nat → Int), t ≤ 8 ∧ i = .int .i64 t ∧ (∀ i, i < 4 * t → f i = idN s i) ∧ Whole wr w9.heap.size 24 (arrF f) ∧ Whole wr w5.heap.size 111 s.vals ∧ Fr (fun j => j = w5.heap.size) w6 wr) (fun i _ => 8 - (intOf i).toNat)
      case atStart => exact ⟨0, fun _ => 0, by omega, rfl, fun i hi => by omega, HG.out, HWa.out, HFa.out⟩
      case round =>
        clear HG HWa HFa
        obtain ⟨t, f, ht, rfl, hf, hg, hs, hfr2⟩ := hrel
        by_cases hlt2 : t < 8
        · obtain ⟨x, hx⟩ : ∃ x, s.nums.getD t 0 = x := ⟨_, rfl⟩
          obtain ⟨hx0, hx1⟩ := S8.ok_get hok t
          rw [hx] at hx0 hx1
          have cx : wr.cell? ⟨w5.heap.size, t, none⟩ = some (.int .u32 x) := by
            rw [hs.cell, ← hx]
            show (s.nums.map num).toArray[t]? = _
            rw [List.getElem?_toArray, List.getElem?_map, List.getD_eq_getElem?_getD, List.getElem?_eq_getElem (show t < s.nums.length from hlt2)]
            rfl
          have i0' := idN_0 s t
          have i1' := idN_1 s t
          have i2' := idN_2 s t
          have i3' := idN_3 s t
          rw [hx] at i0' i1' i2' i3'
          rw [show x / 16777216 = x / 256 / 256 / 256 by omega] at i0'
          rw [show x / 65536 = x / 256 / 256 by omega] at i1'
          have g0 := hg.cell (4 * t)
          have g1 := hg.cell (4 * t + 1)
          have g2 := hg.cell (4 * t + 2)
          have g3 := hg.cell (4 * t + 3)
          rw [arrF_get _ _ (by omega)] at g0 g1 g2 g3
          have k0 := hg.frozen (4 * t)
          have k1 := hg.frozen (4 * t + 1)
          have k2 := hg.frozen (4 * t + 2)
          have k3 := hg.frozen (4 * t + 3)
          have hdone : ∀ i, i < 4 * (t + 1) → (fun i => if i = 4 * t then x / 256 / 256 / 256 % 256 else (fun i => if i = 4 * t + 1 then x / 256 / 256 % 256 else (fun i => if i = 4 * t + 2 then x / 256 % 256 else (fun i => if i = 4 * t + 3 then x % 256 else f i) i) i) i) i = idN s i := by
            intro i hi
            simp only []
            split
            · subst_vars; exact i0'.symm
            · split
              · subst_vars; exact i1'.symm
              · split
                · subst_vars; exact i2'.symm
                · split
                  · subst_vars; exact i3'.symm
                  · exact hf i (by omega)
          have hW := (((hg.set (4 * t + 3) (.int .u8 (x % 256))).set (4 * t + 2) (.int .u8 (x / 256 % 256))).set (4 * t + 1) (.int .u8 (x / 256 / 256 % 256))).set (4 * t) (.int .u8 (x / 256 / 256 / 256 % 256))
          rw [arrF_set _ _ _ (by omega), arrF_set _ _ _ (by omega), arrF_set _ _ _ (by omega), arrF_set _ _ _ (by omega)] at hW
          have HWn := Lib.hid hW
          have HDn := Lib.hid hdone
          have HSn := Lib.hid hs
          have HFn := Lib.hid hfr2
          clear hW hdone hs hfr2 hg hf i0' i1' i2' i3'
          go_wp2_with fail
          refine wp_loop_rounds 5 ?_
          rw [rounds_succ]
          go_wp2_with fail
          rw [rounds_succ]
          go_wp2_with fail
          rw [rounds_succ]
          go_wp2_with fail
          rw [rounds_succ]
          go_wp2_with fail
          rw [rounds_succ]
          go_wp2_with fail
          go_roundw
          case rel => exact ⟨t + 1, _, by omega, by go_num, HDn.out, HWn.out, Whole.fr HSn.out (((((Fr.refl (fun j => j = w9.heap.size) wr).setCell (p := ⟨w9.heap.size, 4 * t + 3, none⟩) (fun _ => rfl) _).setCell (p := ⟨w9.heap.size, 4 * t + 2, none⟩) (fun _ => rfl) _).setCell (p := ⟨w9.heap.size, 4 * t + 1, none⟩) (fun _ => rfl) _).setCell (p := ⟨w9.heap.size, 4 * t, none⟩) (fun _ => rfl) _) (by omega),
            (((HFn.out.setCell (p := ⟨w9.heap.size, 4 * t + 3, none⟩) (fun e => absurd e (by show ¬ w9.heap.size < w6.heap.size; omega)) _).setCell (p := ⟨w9.heap.size, 4 * t + 2, none⟩) (fun e => absurd e (by show ¬ w9.heap.size < w6.heap.size; omega)) _).setCell (p := ⟨w9.heap.size, 4 * t + 1, none⟩) (fun e => absurd e (by show ¬ w9.heap.size < w6.heap.size; omega)) _).setCell (p := ⟨w9.heap.size, 4 * t, none⟩) (fun e => absurd e (by show ¬ w9.heap.size < w6.heap.size; omega)) _⟩
          case measure => simp [intOf]; omega
        · obtain rfl : t = 8 := by omega
          have hZs := HS2.out
          have hdn := arrF_done f s (fun i hi => hf i (by omega))
          rw [hdn] at hg
          have hz := Whole.fr (HZ.out) (HF6.out) (fun e => e)
          have hz2 := hz.fr hfr2 (show ¬ w.heap.size = w5.heap.size by have := HW5.out; omega)
          have HSV := Lib.hid hZs
          clear hZs hz hf hdn
          go_wp2_with (first
            | (refine wpList_load_row rfl 24 _ rfl _ rfl 24 _ _ _ hg Tryz.underlying24 rfl (by rw [idC_sizeS _ _ (by omega)]; exact size32) ?_)
            | (refine wpList_store_at rfl 24 _ _ rfl w.heap.size 0 24 _ (idCS s 32) rfl rfl hz2 (by rw [idC_sizeS _ _ (by omega)]; decide) (by rw [idC_sizeS _ _ (by omega)]; exact size32) (idC_oneS _ _) ?_
               intro w12 hw12 hf12))
          rw [laidAt_all zero32 (idCS s 32) (by rw [idC_sizeS _ _ (by omega)]; rfl)] at hw12
          rw [HSV.out]
          refine bodyPost_ret (v := .agg (idCS s 32)) (results_cell_row (p := 2) rfl _ _ _ _ _ _ _ rfl hw12 Tryz.underlying24 rfl (by rw [idC_sizeS _ _ (by omega)]; exact size32)) rfl ?_
          refine ⟨rfl, (((HF.out.trans HF6.out (fun _ _ e => e)).trans hfr2 (fun i hi e => ?_)).trans hf12 (fun i hi e => by omega)).below (fun _ _ e => e)⟩
          have := HF.out.size
          have := HW5.out
          omega
end Go.Proofs.YtgbhdjncccmabaaGreatDoor

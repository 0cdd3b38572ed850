/- What is proved: what Burst answers, by the program and by the document. Conditions: the bytes lie where they are said to lie, at most 2000 of them. -/
import Derived.Test.YtfdindkagddjbaaCru
namespace Go.Proofs.Ytfdindkagddjbaa
open Go.RowKit
set_option linter.unusedVariables false

set_option maxHeartbeats 1600000 in
theorem CBurst_ok (A : Option Addr) (cap : Nat) (l : List UInt8) (p : Nat) (t : BitVec 32) (x : Int) (hx : x = rI t) (w : World) (hl : Lies w A (bytesV l)) (hn : l.length ≤ 2000) (hp : p + 32 ≤ 8 * l.length) :
    Calls Try.prog 14 #[.slice A l.length cap, .int .i64 p, .int .u32 x] w fun e w' => ∃ v, e = .returned (.tuple #[v, .int .i64 0]) ∧ OwnB w w' v (brs l p t 32) := by
  obtain ⟨i0, hi, hz0, hz1, hz2⟩ := info_parts info_u8
  obtain ⟨L, hL⟩ : ∃ L, l.length = L := ⟨_, rfl⟩
  have HLn := Lib.hid hL
  have HL := Lib.hid hl
  rw [hL] at hn hp ⊢
  have h0 : ¬ (p : Int) < 0 := by omega
  have h1 : ¬ (8 * (L : Int) - p) < 32 := by omega
  have hx0 : 0 ≤ x := by rw [hx]; exact rI_lo t
  have hx1 : x < 4294967296 := by rw [hx]; exact rI_hi t
  have HX := Lib.hid hx
  clear hx hl hL
  go_enter Try.func14, Try.ntmps14
  go_wp2_with (at_builtin; refine wpList_append_row _ rfl (.const (.slice none 0 0)) (.tmp 20) 24 24 rfl w.heap.size 5 i0 (.int .u8 0) 1 1 Try.underlying24 hi hz0 hz1 hz2 rfl (.slice none 0 0) 0 [] rfl (World.ownsRow_nil w w.heap.size 5 1) (.slice A L cap) L (bytesV l) rfl (Lies.srcB HL.out HLn.out cap) (by unfold maxLen; omega) (by omega) (Nat.le_refl _) ?_; intro v1 w1 o1 g1 at1)
  have hO : OwnB w w1 v1 (brs l p t 0) := by
    refine ⟨?_, fr_append (World.ownsRow_nil w w.heap.size 5 1) (Fr.refl _ w) g1⟩
    show w1.ownsRow _ _ _ _ l.length (bytesV l)
    rw [HLn.out]
    simpa using o1
  clear o1 g1 at1
  obtain ⟨A1, c1, rfl, hc1, hl1, hb1⟩ := hO.slice
  have hlen0 : (brs l p t 0).length = L := HLn.out
  rw [hlen0] at hc1 ⊢
  obtain ⟨g, hg⟩ : ∃ g, A1 = some ⟨g, 0, none⟩ := by
    rcases own_shape hO.1 with ⟨hv, _⟩ | ⟨g, c', hv, _⟩
    · injection hv with _ hv2
      omega
    · injection hv with hv1
      exact ⟨g, hv1⟩
  subst hg
  rw [hlen0] at hO
  have HO := Lib.hid hO
  clear hO hl1 hb1 hlen0
  go_loopw [22] (fun i wr => ∃ k : Nat, k ≤ 32 ∧ i = .int .i64 k ∧ OwnB w wr (.slice (some ⟨g, 0, none⟩) L c1) (brs l p t k)) (fun i _ => 32 - (intOf i).toNat)
  case atStart => exact ⟨0, by omega, rfl, HO.out⟩
  case round =>
    clear HO
    obtain ⟨k, hk, rfl, ho⟩ := hrel
    by_cases hlt : k < 32
    · obtain ⟨i, hi8⟩ : ∃ i, (p + k) / 8 = i := ⟨_, rfl⟩
      obtain ⟨m, hm8⟩ : ∃ m, (p + k) % 8 = m := ⟨_, rfl⟩
      have hm : m < 8 := by omega
      have hiL : i < L := by omega
      have hdv : ((p : Int) + k).tdiv 8 = (i : Int) := by rw [Int.tdiv_eq_ediv_of_nonneg (by omega)]; omega
      have hmd : ((p : Int) + k).tmod 8 = (m : Int) := by rw [Int.tmod_eq_emod_of_nonneg (by omega)]; omega
      have hb : brs l p t (k + 1) = if t.getLsbD k then flip1 (brs l p t k) (p + k) else brs l p t k := rfl
      unfold flip1 at hb
      rw [hi8, hm8] at hb
      have hbl := brs_length l p t k
      rw [HLn.out] at hbl
      obtain ⟨q, hq⟩ : ∃ q, brs l p t k = q := ⟨_, rfl⟩
      rw [hq] at ho hb hbl
      obtain ⟨cc, ff⟩ := ho.at i (by omega)
      obtain ⟨b, hbb⟩ : ∃ b, q.getD i 0 = b := ⟨_, rfl⟩
      rw [hbb] at cc hb
      obtain ⟨y, hy⟩ : ∃ y : Int, x / 2 ^ k = y := ⟨_, rfl⟩
      have hbk := bitk t k
      rw [← HX.out, hy] at hbk
      obtain ⟨y0, y1⟩ := div_pow_bound x k hx0 hx1
      rw [hy] at y0 y1
      have qa := and1 y y0 y1
      have hbn := b.toNat_lt
      have hxb := xor_u8 b (UInt8.ofNat (2 ^ m))
      have hpm : (UInt8.ofNat (2 ^ m)).toNat = 2 ^ m := by
        have := pow_mod8 m
        rw [Nat.mod_eq_of_lt hm] at this
        rw [UInt8.toNat_ofNat_of_lt' (by show _ < 256; exact this)]
      rw [hpm] at hxb
      obtain ⟨u, hu⟩ : ∃ u : Int, (b.toNat : Int) = u := ⟨_, rfl⟩
      have hu0 : 0 ≤ u := by omega
      have hu1 : u < 256 := by omega
      rw [hu] at cc hxb
      obtain ⟨z, hz⟩ : ∃ z : Int, 2 ^ m = z := ⟨_, rfl⟩
      have hz0 : 0 ≤ z := by rw [← hz]; exact Int.le_of_lt (by exact_mod_cast Nat.two_pow_pos m)
      have hzc : ((2 ^ m : Nat) : Int) = z := by rw [← hz, Int.natCast_pow]; rfl
      have hz256 : z < 256 := by
        have := pow_mod8 m
        rw [Nat.mod_eq_of_lt hm] at this
        rw [← hzc]
        exact Int.ofNat_lt.2 this
      rw [hzc] at hxb
      have HXB := Lib.hid hxb
      have HO := Lib.hid ho
      have HU := Lib.hid hu
      have HBB := Lib.hid hbb
      have HQ := Lib.hid hq
      by_cases hodd : y % 2 = 1
      · rw [hodd] at qa
        have hb1 : t.getLsbD k = true := by rw [hbk, decide_eq_true hodd]
        rw [hb1, if_pos rfl] at hb
        have HB := Lib.hid hb
        clear hxb ho hu hbb hq hb hb1 hbk hodd hi8 hm8 hpm hzc hbn hi hz1 hz2
        go_wp2_with fail
        go_region
        have HP := Lib.hid ((HO.out.put i (b ^^^ UInt8.ofNat (2 ^ m)) _ HXB.out).fr ((Fr.refl (fun _ => False) _).drew))
        clear cc ff hy qa
        go_wp2_with fail
        go_roundw
        case rel => exact ⟨k + 1, by omega, by go_num, by rw [HB.out]; exact HP.out⟩
        case measure => simp [intOf]; omega
      · have hev : y % 2 = 0 := by omega
        rw [hev] at qa
        have hb1 : t.getLsbD k = false := by rw [hbk, decide_eq_false hodd]
        rw [hb1, if_neg (by decide)] at hb
        have HB := Lib.hid hb
        have hx0' := xor_u8 b 0
        rw [hu] at hx0'
        have hxz : bits .xor .u8 u 0 = u := by rw [show (0 : Int) = ((0 : UInt8).toNat : Int) from rfl, hx0', ← hu]; simp
        clear hxb ho hbb hq hb hb1 hbk hodd hev hi8 hm8 hpm hzc hbn hi hz1 hz2 hx0' hu
        go_wp2_with fail
        go_region
        have HP := Lib.hid ((HO.out.put i b u HU.out.symm).fr ((Fr.refl (fun _ => False) _).drew))
        have HSM := Lib.hid (set_same q i)
        clear cc ff hy qa
        go_wp2_with fail
        go_roundw
        case rel => exact ⟨k + 1, by omega, by go_num, by rw [HB.out, ← HSM.out, HBB.out]; exact HP.out⟩
        case measure => simp [intOf]; omega
    · obtain rfl : k = 32 := by omega
      have HO := Lib.hid ho
      clear ho
      go_wp2_with fail
      go_ret2
      exact ⟨_, rfl, HO.out⟩

set_option maxHeartbeats 1600000 in
theorem QcBurst_ok (A : Option Addr) (cap : Nat) (l : List UInt8) (p : Nat) (t : BitVec 32) (x : Int) (hx : x = rI t) (w : World) (hl : Lies w A (bytesV l)) (hn : l.length ≤ 2000) (hp : p + 32 ≤ 8 * l.length) :
    Calls Try.prog 15 #[.slice A l.length cap, .int .i64 p, .int .u32 x] w fun e w' => ∃ v, e = .returned (.tuple #[v, .bool true]) ∧ OwnB w w' v (brs l p t 32) := by
  obtain ⟨i0, hi, hz0, hz1, hz2⟩ := info_parts info_u8
  obtain ⟨L, hL⟩ : ∃ L, l.length = L := ⟨_, rfl⟩
  have HLn := Lib.hid hL
  have HL := Lib.hid hl
  rw [hL] at hn hp ⊢
  have h0 : ¬ (p : Int) < 0 := by omega
  have h1 : ¬ (L : Int) ≤ (p : Int) / 8 := by omega
  have h2 : ¬ 8 * ((L : Int) - (p : Int) / 8) - (p : Int) % 8 < 32 := by omega
  have hx0 : 0 ≤ x := by rw [hx]; exact rI_lo t
  have hx1 : x < 4294967296 := by rw [hx]; exact rI_hi t
  have HX := Lib.hid hx
  clear hx hl hL
  go_enter Try.func15, Try.ntmps15
  go_wp2_with (at_builtin; refine wpList_append_row _ rfl (.tmp 34) (.tmp 35) 24 24 rfl w.heap.size 5 i0 (.int .u8 0) 1 1 Try.underlying24 hi hz0 hz1 hz2 rfl (.slice none 0 0) 0 [] rfl (World.ownsRow_nil w w.heap.size 5 1) (.slice A L cap) L (bytesV l) rfl (Lies.srcB HL.out HLn.out cap) (by unfold maxLen; omega) (by omega) (Nat.le_refl _) ?_; intro v1 w1 o1 g1 at1)
  have hO : OwnB w w1 v1 (brs l p t 0) := by
    refine ⟨?_, fr_append (World.ownsRow_nil w w.heap.size 5 1) (Fr.refl _ w) g1⟩
    show w1.ownsRow _ _ _ _ l.length (bytesV l)
    rw [HLn.out]
    simpa using o1
  clear o1 g1 at1
  obtain ⟨A1, c1, rfl, hc1, hl1, hb1⟩ := hO.slice
  have hlen0 : (brs l p t 0).length = L := HLn.out
  rw [hlen0] at hc1 ⊢
  obtain ⟨g, hg⟩ : ∃ g, A1 = some ⟨g, 0, none⟩ := by
    rcases own_shape hO.1 with ⟨hv, _⟩ | ⟨g, c', hv, _⟩
    · injection hv with _ hv2
      omega
    · injection hv with hv1
      exact ⟨g, hv1⟩
  subst hg
  rw [hlen0] at hO
  have HO := Lib.hid hO
  clear hO hl1 hb1 hlen0
  go_wp2_with fail
  go_loopw [2, 9] (fun v i wr => ∃ k : Nat, k ≤ 32 ∧ i = .int .i64 k ∧ v = .int .u32 (x / 2 ^ k) ∧ OwnB w wr (.slice (some ⟨g, 0, none⟩) L c1) (brs l p t k)) (fun _ i _ => 32 - (intOf i).toNat)
  case atStart => exact ⟨0, by omega, rfl, by rw [Int.pow_zero, Int.ediv_one], HO.out⟩
  case round =>
    clear HO
    obtain ⟨k, hk, rfl, rfl, ho⟩ := hrel
    obtain ⟨y, hy⟩ : ∃ y : Int, x / 2 ^ k = y := ⟨_, rfl⟩
    have hbk := bitk t k
    rw [← HX.out, hy] at hbk
    obtain ⟨y0, y1⟩ := div_pow_bound x k hx0 hx1
    rw [hy] at y0 y1 ⊢
    have hy2 : y / 2 = x / 2 ^ (k + 1) := by rw [← hy, Int.pow_succ, Int.ediv_ediv_of_nonneg (by exact_mod_cast Nat.zero_le (2 ^ k))]
    have HY2 := Lib.hid hy2
    by_cases hlt : k < 32
    · obtain ⟨i, hi8⟩ : ∃ i, (p + k) / 8 = i := ⟨_, rfl⟩
      obtain ⟨m, hm8⟩ : ∃ m, (p + k) % 8 = m := ⟨_, rfl⟩
      have hm : m < 8 := by omega
      have hiL : i < L := by omega
      have hdv : ((p : Int) + k).tdiv 8 = (i : Int) := by rw [Int.tdiv_eq_ediv_of_nonneg (by omega)]; omega
      have hmd : ((p : Int) + k).tmod 8 = (m : Int) := by rw [Int.tmod_eq_emod_of_nonneg (by omega)]; omega
      have hb : brs l p t (k + 1) = if t.getLsbD k then flip1 (brs l p t k) (p + k) else brs l p t k := rfl
      unfold flip1 at hb
      rw [hi8, hm8] at hb
      have hbl := brs_length l p t k
      rw [HLn.out] at hbl
      obtain ⟨q, hq⟩ : ∃ q, brs l p t k = q := ⟨_, rfl⟩
      rw [hq] at ho hb hbl
      obtain ⟨cc, ff⟩ := ho.at i (by omega)
      obtain ⟨b, hbb⟩ : ∃ b, q.getD i 0 = b := ⟨_, rfl⟩
      rw [hbb] at cc hb
      have hbn := b.toNat_lt
      have hxb := xor_u8 b (UInt8.ofNat (2 ^ m))
      have hpm : (UInt8.ofNat (2 ^ m)).toNat = 2 ^ m := by
        have := pow_mod8 m
        rw [Nat.mod_eq_of_lt hm] at this
        rw [UInt8.toNat_ofNat_of_lt' (by show _ < 256; exact this)]
      rw [hpm] at hxb
      obtain ⟨u, hu⟩ : ∃ u : Int, (b.toNat : Int) = u := ⟨_, rfl⟩
      have hu0 : 0 ≤ u := by omega
      have hu1 : u < 256 := by omega
      rw [hu] at cc hxb
      have HXB := Lib.hid hxb
      have HO := Lib.hid ho
      have HU := Lib.hid hu
      have HBB := Lib.hid hbb
      have HQ := Lib.hid hq
      by_cases hodd : y % 2 = 1
      · have hb1 : t.getLsbD k = true := by rw [hbk, decide_eq_true hodd]
        rw [hb1, if_pos rfl] at hb
        have HB := Lib.hid hb
        have HC := Lib.hid cc
        have HFf := Lib.hid ff
        clear hxb ho hu hbb hq hb hb1 hbk hi8 hm8 hpm hbn hi hz1 hz2 hy hy2 cc ff
        go_wp2_with fail
        obtain ⟨w5, rfl⟩ : ∃ w5, w5 = wr := ⟨_, rfl⟩
        go_loopw [11, 12] (fun v j wr2 => ∃ n : Nat, n ≤ m ∧ j = .int .i64 n ∧ v = .int .u8 ((2 ^ n : Nat) : Int) ∧ wr2 = w5) (fun _ j _ => m - (intOf j).toNat)
        case atStart => exact ⟨0, by omega, rfl, rfl, rfl⟩
        case round =>
          obtain ⟨n, hn, rfl, rfl, rfl⟩ := hrel
          have hp2 : 2 ^ n ≤ 128 := by
            have : 2 ^ n ≤ 2 ^ 7 := Nat.pow_le_pow_right (by decide) (by omega)
            omega
          have hps : 2 ^ (n + 1) = 2 * 2 ^ n := by rw [Nat.pow_succ, Nat.mul_comm]
          obtain ⟨e, he⟩ : ∃ e : Nat, 2 ^ n = e := ⟨_, rfl⟩
          rw [he] at hp2 hps ⊢
          have HE := Lib.hid he
          have HPS := Lib.hid hps
          clear he hps
          by_cases hlt2 : n < m
          · have he64 : e ≤ 64 := by
              rw [← HE.out]
              have : 2 ^ n ≤ 2 ^ 6 := Nat.pow_le_pow_right (by decide) (by omega)
              omega
            obtain ⟨d, hd⟩ : ∃ d : Int, (e : Int) = d := ⟨_, rfl⟩
            rw [hd]
            have hd0 : 0 ≤ d := by omega
            have hd1 : d ≤ 64 := by omega
            have HD := Lib.hid hd
            clear hd
            go_wp2_with fail
            go_roundw
            case rel => exact ⟨n + 1, by omega, by go_num, by rw [HPS.out, Int.natCast_mul, HD.out]; go_num, trivial⟩
            case measure => simp [intOf]; omega
          · obtain rfl : n = m := by omega
            have hxb2 := HXB.out
            rw [HE.out] at hxb2
            obtain ⟨d, hd⟩ : ∃ d : Int, (e : Int) = d := ⟨_, rfl⟩
            have hd0 : 0 ≤ d := by omega
            have hd1 : d ≤ 128 := by omega
            rw [hd] at hxb2 ⊢
            have HXB2 := Lib.hid hxb2
            have cc := HC.out
            have ff := HFf.out
            clear hxb2 hd
            go_wp2_with fail
            refine ⟨⟨k + 1, by omega, by go_num, by rw [HY2.out], ?_⟩, by simp [intOf]; omega⟩
            rw [HB.out, HE.out]
            exact HO.out.put i _ _ HXB2.out
      · have hb1 : t.getLsbD k = false := by rw [hbk, decide_eq_false hodd]
        rw [hb1, if_neg (by decide)] at hb
        have HB := Lib.hid hb
        clear hxb ho hu hbb hq hb hb1 hbk hi8 hm8 hpm hbn hi hz1 hz2 hy hy2 cc ff
        go_wp2_with fail
        go_roundw
        case rel => exact ⟨k + 1, by omega, by go_num, by rw [HY2.out], by rw [HB.out]; exact HO.out⟩
        case measure => simp [intOf]; omega
    · obtain rfl : k = 32 := by omega
      have HO := Lib.hid ho
      clear ho
      go_wp2_with fail
      go_ret2
      exact ⟨_, rfl, HO.out⟩
end Go.Proofs.Ytfdindkagddjbaa

/- What is proved: OctetOwn, for every slice of bytes and every int: what was handed in and what was told are of their own memory, and of what is not there nothing is told; the arguments read as before. Conditions: none beyond the row's own. -/
import Derived.Test.YticgmfnidhlkjaaVar
import Derived.Test.YticgmfnidhlkjaaArg
namespace Go.Proofs.Yticgmfnidhlkjaa.owns
open Go.ChangeShapes Go.WideShapes Go.ChangeAt Go.RowKit
open Go.Proofs.Yticgmfnidhlkjaa
set_option linter.unusedVariables false

/-- A row of bytes whose cells are turned one by one. -/
theorem bytes_set {w : World} {base : Nat} {h n c : Nat} {zs : List UInt8} (ho : w.ownsRow base 5 1 (.slice (some ⟨h, 0, none⟩) n c) n (bytesV zs)) (k : Nat) (z : Int) (h0 : 0 ≤ z) (h1 : z ≤ 255) :
    (w.setCell ⟨h, k, none⟩ (.int .u8 z)).ownsRow base 5 1 (.slice (some ⟨h, 0, none⟩) n c) n (bytesV (zs.set k (toB z))) := by
  have := (World.ownsRow.stored ho k (.int .u8 z)).1
  have e : bytesV (zs.set k (toB z)) = (bytesV zs).set k (.int .u8 z) := by
    unfold bytesV
    rw [List.map_set, byteV_toB h0 h1]
  rw [e]
  exact this
theorem row_open {w : World} {base n c k : Nat} {A : Option Addr} {zs : List UInt8} (h : w.ownsRow base 5 1 (.slice A n c) n (bytesV zs)) (hz : zs.length = n) (hk : k < n) :
    ∃ b, A = some ⟨b, 0, none⟩ ∧ ∃ z : Int, 0 ≤ z ∧ z ≤ 255 ∧ w.cell? ⟨b, k, none⟩ = some (.int .u8 z) ∧ w.frozen? ⟨b, k, none⟩ = false := by
  rcases own_shape h with ⟨_, h0, _⟩ | ⟨b, c0, h0, _⟩
  · omega
  · injection h0 with h0
    subst h0
    refine ⟨b, rfl, (zs.getD k 0).toNat, by omega, by have := (zs.getD k 0).toNat_lt; omega, ?_, World.ownsRow.frozenAt h k⟩
    have := lies_byte (Lies.of_own h) (p := k) (by omega)
    rwa [Nat.zero_add] at this
theorem xor_range (z : Int) (h0 : 0 ≤ z) (h1 : z ≤ 255) : 0 ≤ bits .xor .u8 z 255 ∧ bits .xor .u8 z 255 ≤ 255 := by
  rw [u8_xor z 255 h0 (by omega) (by omega) (by omega)]
  have : z.toNat ^^^ 255 < 2 ^ 8 := Nat.xor_lt_two_pow (by omega) (by omega)
  show (0 : Int) ≤ ((z.toNat ^^^ 255 : Nat) : Int) ∧ ((z.toNat ^^^ 255 : Nat) : Int) ≤ 255
  omega
theorem len_set (zs : List UInt8) (k : Nat) (b : UInt8) : (zs.set k b).length = zs.length := by simp

set_option maxHeartbeats 4000000 in
set_option maxRecDepth 100000 in
theorem walk (A : Option Addr) (cap : Nat) (bs : List UInt8) (n : Int) (w : World) (hl : Lies w A (bytesV bs)) (hcap : bs.length ≤ cap) (hb : bs.length ≤ 140737488351232) (hn0 : -9223372036854775808 ≤ n) (hn1 : n ≤ 9223372036854775807) :
    Calls Try.prog 7 #[.slice A bs.length cap, .int .i64 n] w fun e w' => e = .returned (.bool true) ∧ Below w.heap.size w w' := by
  have HL := Lib.hid hl
  clear hl
  obtain ⟨i0, hi, hz0, hz1, hz2⟩ := info_parts info_u8
  go_enter Try.func7, Try.ntmps7
  go_wp2_with (first
    | (go_at_call 8; refine (NewWriter_any _).mono ?_; rintro e w1 ⟨rfl, h1⟩; subst h1)
    | (go_at_call 29; refine (WRaw_any _ _ [] bs A cap _ (Wr.new _) (HL.out.below ((Below.refl _ _).alloc (Nat.le_refl _) _)) (by simp; omega)).mono ?_; rintro e w2 ⟨rfl, v2, r2, s2⟩; rw [List.nil_append] at r2; have F2 : Fr (fun k => w.heap.size ≤ k) w w2 := ((Fr.refl _ w).alloc (.cells #[.slice none 0 0] 63)).trans s2.fr (by rintro i hi (e | e); (omega); (cases e)); have S2 : w.heap.size < w2.heap.size := r2.1.lt)
    | (go_at_call 13; refine (WBytes_any _ _ _ _ r2 (by omega)).mono ?_; rintro e w3 ⟨vx, rfl, ox, b3⟩; obtain ⟨Ax, cx, hvx, -, -, -⟩ := own_lies ox; subst hvx; have OX := Lib.hid ox; clear ox; have R3 := Lib.hid (r2.below b3); have F3 := F2.then_below b3; have S3 : w2.heap.size ≤ w3.heap.size := b3.size)
    | (at_builtin; refine wpList_append_row _ rfl (.tmp 20) (.tmp 21) 25 25 rfl w3.heap.size 5 i0 (.int .u8 0) 1 1 Try.underlying25 hi hz0 hz1 hz2 rfl _ 0 [] rfl (World.ownsRow_made w3 #[] 0 (Nat.le_refl _) (Nat.zero_le _) rfl) _ bs.length (bytesV bs) rfl (by have hs := (HL.out.below ((F3.alloc (.cells #[] 5)).below (fun i hi => by omega))).src Try.underlying25 (bytesV_one bs) cap; rw [bytesV_length] at hs; exact hs) (by unfold maxLen; omega) (by omega) (by simp) ?_))
  intro vo w4 oo g4 at4
  obtain ⟨Ao, co, hvo, -, lo, -⟩ := own_lies oo
  subst hvo
  have B4 : Below w3.heap.size w3 w4 := by
    refine ((Below.refl _ _).alloc (Nat.le_refl _) (.cells #[] 5)).grown g4 (by simp) (fun k hk => ?_)
    simp [Value.ownBlock] at hk; omega
  have F4 := F3.then_below B4
  have S4 : w3.heap.size ≤ w4.heap.size := B4.size
  have R4 := Lib.hid (R3.out.below B4)
  have OX4 := Lib.hid (own_fr OX.out (Fr.of_below (S := fun _ => False) B4) (fun _ _ e => e))
  have OO := Lib.hid oo
  have LO := Lib.hid lo
  clear oo lo at4 g4
  go_wp2_with (go_at_call 15; refine (NewReader_any Ao co bs _ LO.out (by omega)).mono ?_; rintro e w5 ⟨gr, vr, rfl, hgr, hvr, rd, b5⟩; have RD := Lib.hid rd; have F5 := F4.then_below b5; have S5 : w4.heap.size ≤ w5.heap.size := b5.size; have R5 := Lib.hid (R4.out.below b5); have OX5 := Lib.hid (own_fr OX4.out (Fr.of_below (S := fun _ => False) b5) (fun _ _ e => e)); have OO5 := Lib.hid (own_fr OO.out (Fr.of_below (S := fun _ => False) b5) (fun _ _ e => e)); have HVR := Lib.hid hvr; clear rd hvr)
  have FO : ∀ k, (Value.slice Ao bs.length co).ownBlock = some k → w3.heap.size ≤ k ∧ k < w4.heap.size := fun k hk => ⟨(World.ownsRow.lt OO.out k hk).1, own_lt OO.out hk⟩
  have FX : ∀ k, (Value.slice Ax bs.length cx).ownBlock = some k → w2.heap.size ≤ k ∧ k < w3.heap.size := fun k hk => ⟨(World.ownsRow.lt OX.out k hk).1, own_lt OX.out hk⟩
  have FV : ∀ k, v2.ownBlock = some k → k < w2.heap.size ∧ k ≠ w.heap.size := fun k hk => ⟨own_lt r2.2 hk, fun e => own_apart r2.2 r2.1 (by decide) (by rw [hk, e])⟩
  have HFO := Lib.hid FO
  have HFX := Lib.hid FX
  have HFV := Lib.hid FV
  have HR2 := Lib.hid r2
  clear FO FX FV r2 s2
  go_loopw [9] (fun i wr => ∃ (k : Nat) (zs : List UInt8), k ≤ bs.length ∧ i = .int .i64 k ∧ (zs.length = bs.length ∧ wr.ownsRow w3.heap.size 5 1 (.slice Ao bs.length co) bs.length (bytesV zs)) ∧ Fr (fun b => (Value.slice Ao bs.length co).ownBlock = some b) w5 wr) (fun i _ => bs.length - (intOf i).toNat)
  case atStart => exact ⟨0, bs, Nat.zero_le _, rfl, ⟨rfl, OO5.out⟩, Fr.refl _ _⟩
  case round =>
    obtain ⟨k, zs, hk, rfl, hzs, hf⟩ := hrel
    have HZ := Lib.hid hzs
    have HF := Lib.hid hf
    clear hzs hf
    by_cases hlt : k < bs.length
    · obtain ⟨b, o, hA⟩ := lies_at (Lies.of_own HZ.out.2) (by intro e; have := HZ.out.1; rw [e] at this; simp at this; omega)
      have ho : o = 0 := by
        rcases own_shape HZ.out.2 with ⟨h0, _⟩ | ⟨g0, c0, h0, _⟩
        · rw [hA] at h0; cases h0
        · rw [hA] at h0; injection h0 with h0; injection h0 with h0; injection h0
      subst ho
      subst hA
      obtain ⟨z, hz, hz0', hz1'⟩ : ∃ z : Int, ((zs.getD k 0).toNat : Int) = z ∧ 0 ≤ z ∧ z ≤ 255 := ⟨_, rfl, by omega, by have := (zs.getD k 0).toNat_lt; omega⟩
      have hc := lies_byte (Lies.of_own HZ.out.2) (p := k) (by rw [HZ.out.1]; exact hlt)
      rw [hz, Nat.zero_add] at hc
      have hfz := World.ownsRow.frozenAt HZ.out.2 k
      have hk0 : (0 : Int) ≤ (k : Int) := by omega
      have hk1 : (k : Int) < bs.length := by omega
      have hxr := xor_range z hz0' hz1'
      have HXR := Lib.hid hxr
      clear hz hxr
      go_wp2_with fail
      go_roundw
      case rel => exact ⟨k + 1, zs.set k (toB (bits .xor .u8 z 255)), by omega, by go_num, ⟨by rw [len_set]; exact HZ.out.1, bytes_set HZ.out.2 k _ HXR.out.1 HXR.out.2⟩, HF.out.setCell (p := ⟨b, k, none⟩) (fun _ => rfl) _⟩
      case measure => simp [intOf]; omega
    · obtain ⟨w6, hw6⟩ : ∃ w6 : World, w6 = wr := ⟨_, rfl⟩
      subst hw6
      have F56 := HF.out
      have S6 : w5.heap.size ≤ w6.heap.size := F56.size
      have F6 : Fr (fun k => w.heap.size ≤ k) w w6 := F5.trans F56 (fun i hi e => by have := (HFO.out i e).1; omega)
      have R6 := Lib.hid (R5.out.fr F56 (fun e => by have := (HFO.out _ e).1; omega) (fun k hk e => by have := (HFO.out _ e).1; have := (HFV.out _ hk).1; omega))
      have OX6 := Lib.hid (own_fr OX5.out F56 (fun k hk e => by have := (HFO.out _ e).1; have := (HFX.out _ hk).2; omega))
      have RD6 := Lib.hid (RD.out.fr F56 (fun e => by have := (HFO.out _ e).2; omega) (fun k hk e => by have := (HFO.out _ e).2; have := HVR.out _ hk; omega))
      have hr : Calls Try.prog 22 #[.pointer (some ⟨gr, 0, none⟩), .int .i64 (bs.length : Int)] w6 (RawPost w6 gr vr bs 0 0 bs.length) := RRaw_any gr vr bs 0 0 bs.length w6 RD6.out (by omega) (by omega)
      have hrb : rawB bs 0 0 bs.length = bs := by
        unfold rawB
        rw [if_neg (by omega), if_pos (hasErr_ok (by omega)), Int.toNat_natCast, List.drop_zero, List.take_length]
      have HR := Lib.hid hr
      have HRB := Lib.hid hrb
      have HBB := Lib.hid (show (bs == bs) = true by simp)
      clear hr hrb F56
      go_wp2_with (go_at_call 22; refine HR.out.mono ?_; rintro e w7 ⟨vy, rfl, oy, rd7, f7⟩; rw [HRB.out] at oy; obtain ⟨Ay, cy, hvy, -, ly, -⟩ := own_lies oy; subst hvy; have S7 : w6.heap.size ≤ w7.heap.size := f7.size; have F7 := F6.trans f7 (fun i hi e => by omega); have R7 := Lib.hid (R6.out.fr f7 (by omega) (fun k hk e => by have := (HFV.out _ hk).1; omega)); have OX7 := Lib.hid (own_fr OX6.out f7 (fun k hk e => by have := (HFX.out _ hk).2; omega)); have OY := Lib.hid oy; clear oy ly rd7 f7)
      have hLA7 := HL.out.below (F7.below (fun i hi => by omega))
      have HLA7 := Lib.hid hLA7
      clear hLA7
      have hs1 := Same_n Ax A cx cap bs.length bs.length bs bs w7 rfl rfl (Lies.of_own OX7.out) HLA7.out
      have hs2 := Same_n Ay A cy cap bs.length bs.length bs bs w7 rfl rfl (Lies.of_own OY.out) HLA7.out
      rw [HBB.out] at hs1 hs2
      have HS1 := Lib.hid hs1
      have HS2 := Lib.hid hs2
      clear hs1 hs2
      refine HS1.out.mono ?_
      rintro e w8 ⟨rfl, rfl⟩
      go_wp2_with fail
      refine HS2.out.mono ?_
      rintro e w8 ⟨rfl, rfl⟩
      go_wp2_with fail
      have FY : ∀ k, (Value.slice Ay bs.length cy).ownBlock = some k → w6.heap.size ≤ k ∧ k < w7.heap.size := fun k hk => ⟨(World.ownsRow.lt OY.out k hk).1, own_lt OY.out hk⟩
      have HFY := Lib.hid FY
      clear FY HS1 HS2 HR
      go_loopw [11] (fun i wr => ∃ (k : Nat) (xs ys : List UInt8), k ≤ bs.length ∧ i = .int .i64 k ∧ (xs.length = bs.length ∧ wr.ownsRow w2.heap.size 5 1 (.slice Ax bs.length cx) bs.length (bytesV xs) ∧ ys.length = bs.length ∧ wr.ownsRow w6.heap.size 5 1 (.slice Ay bs.length cy) bs.length (bytesV ys)) ∧ Fr (fun b => (Value.slice Ax bs.length cx).ownBlock = some b ∨ (Value.slice Ay bs.length cy).ownBlock = some b) w7 wr) (fun i _ => bs.length - (intOf i).toNat)
      case atStart => exact ⟨0, bs, bs, Nat.zero_le _, rfl, ⟨rfl, OX7.out, rfl, OY.out⟩, Fr.refl _ _⟩
      case round =>
        obtain ⟨k, xs, ys, hk, rfl, hxy, hf⟩ := hrel
        have HXY := Lib.hid hxy
        have HF := Lib.hid hf
        clear hxy hf
        by_cases hlt : k < bs.length
        · obtain ⟨bx, hAx, zx, hzx0, hzx1, hcx, hfx⟩ := row_open HXY.out.2.1 HXY.out.1 hlt
          obtain ⟨b2, hAy, zy, hzy0, hzy1, hcy, hfy⟩ := row_open HXY.out.2.2.2 HXY.out.2.2.1 hlt
          subst hAx
          subst hAy
          have hne : ¬ bx = b2 := fun e => by
            have h1 := (HFX.out bx rfl).2
            have h2 := (HFY.out b2 rfl).1
            omega
          have hne2 : ¬ b2 = bx := fun e => hne e.symm
          have hk0 : (0 : Int) ≤ (k : Int) := by omega
          have hk1 : (k : Int) < bs.length := by omega
          have HXX := Lib.hid (xor_range zx hzx0 hzx1)
          have HXZ := Lib.hid (xor_range zy hzy0 hzy1)
          go_wp2_with fail
          go_roundw
          case rel =>
            refine ⟨k + 1, xs.set k (toB (bits .xor .u8 zx 255)), ys.set k (toB (bits .xor .u8 zy 255)), by omega, by go_num, ⟨by rw [len_set]; exact HXY.out.1, ?_, by rw [len_set]; exact HXY.out.2.2.1, ?_⟩, (HF.out.setCell (p := ⟨bx, k, none⟩) (fun _ => .inl rfl) _).setCell (p := ⟨b2, k, none⟩) (fun _ => .inr rfl) _⟩
            · exact own_fr (bytes_set HXY.out.2.1 k _ HXX.out.1 HXX.out.2) ((Fr.refl (fun b => b = b2) _).setCell (p := ⟨b2, k, none⟩) (fun _ => rfl) _) (fun j hj e => hne (by injection hj with hj; exact hj.trans e))
            · exact bytes_set (own_fr HXY.out.2.2.2 ((Fr.refl (fun b => b = bx) _).setCell (p := ⟨bx, k, none⟩) (fun _ => rfl) _) (fun j hj e => hne2 (by injection hj with hj; exact hj.trans e))) k _ HXZ.out.1 HXZ.out.2
          case measure => simp [intOf]; omega
        · have F78 := HF.out
          have F8 := Lib.hid (F7.trans F78 (fun i hi e => by rcases e with e | e; (have := (HFX.out i e).1; omega); (have := (HFY.out i e).1; omega)))
          have R8 := Lib.hid (R7.out.fr F78 (fun e => by rcases e with e | e; (have := (HFX.out _ e).1; omega); (have := (HFY.out _ e).1; omega))
            (fun k hk e => by have h1 := (HFV.out _ hk).1; rcases e with e | e; (have := (HFX.out _ e).1; omega); (have := (HFY.out _ e).1; omega)))
          clear F78
          go_wp2_with (go_at_call 13; refine (WBytes_any _ _ _ _ R8.out (by omega)).mono ?_; rintro e w9 ⟨v9, rfl, o9, b9⟩; obtain ⟨A9, c9, hv9, -, l9, -⟩ := own_lies o9; subst hv9)
          have F9 := F8.out.then_below b9
          have hs3 := Same_n A9 A c9 cap bs.length bs.length bs bs w9 rfl rfl l9 (HL.out.below (F9.below (fun i hi => by omega)))
          rw [HBB.out] at hs3
          refine hs3.mono ?_
          clear hs3 l9 o9
          rintro e w10 ⟨rfl, rfl⟩
          go_wp2_with (first
            | (go_at_call 30; refine (WByte_nil _ _).mono ?_; rintro e w' ⟨rfl, rfl⟩)
            | (go_at_call 31; refine (WU32_nil _ _ (by omega) (by omega)).mono ?_; rintro e w' ⟨rfl, rfl⟩)
            | (go_at_call 32; refine (WU64_nil _ _ (by omega) (by omega)).mono ?_; rintro e w' ⟨rfl, rfl⟩)
            | (go_at_call 26; refine (WVar_nil _ _ (by omega) (by omega)).mono ?_; rintro e w' ⟨rfl, rfl⟩)
            | (go_at_call 27; refine (WText_nil _ _ (by decide)).mono ?_; rintro e w' ⟨rfl, rfl⟩)
            | (go_at_call 29; refine (WRaw_nil _ _).mono ?_; rintro e w' ⟨rfl, rfl⟩)
            | (go_at_call 11; refine (WLen_nil _).mono ?_; rintro e w' ⟨rfl, rfl⟩)
            | (go_at_call 13; refine (WBytes_nil _).mono ?_; rintro e w' ⟨rfl, rfl⟩)
            | (go_at_call 17; refine (RByte_nil _).mono ?_; rintro e w' ⟨rfl, rfl⟩)
            | (go_at_call 18; refine (RU32_nil _).mono ?_; rintro e w' ⟨rfl, rfl⟩)
            | (go_at_call 19; refine (RU64_nil _).mono ?_; rintro e w' ⟨rfl, rfl⟩)
            | (go_at_call 20; refine (RVar_nil _ _ (by omega)).mono ?_; rintro e w' ⟨rfl, rfl⟩)
            | (go_at_call 21; refine (RText_nil _ _ hn0 hn1).mono ?_; rintro e w' ⟨rfl, rfl⟩)
            | (go_at_call 22; refine (RRaw_nil _ _ hn0 hn1).mono ?_; rintro e w' ⟨rfl, rfl⟩)
            | (go_at_call 24; refine (RErr_nil _).mono ?_; rintro e w' ⟨rfl, rfl⟩)
            | (go_at_call 23; refine (REnd_nil _).mono ?_; rintro e w' ⟨rfl, rfl⟩)
            | (go_at_call 28; refine (RAt_nil _).mono ?_; rintro e w' ⟨rfl, rfl⟩)
            | (go_at_call 25; refine (RLeft_nil _).mono ?_; rintro e w' ⟨rfl, rfl⟩)
            | (go_at_call 14; refine (works_any _).mono ?_; rintro e w12 ⟨rfl, b12⟩))
          go_ret
          exact ⟨rfl, (F9.then_below b12).below (fun i hi => by omega)⟩

theorem own_knob : ownKnob Try.prog.godebug = none := by kernel_rfl
theorem laidOut : laidOutB Try.prog = true := by kernel_rfl
theorem bytes_u8 : Try.prog.bytesOf 5 = 1 := by kernel_rfl

set_option maxRecDepth 100000 in
theorem lifted (os : Os) (started : os.Started) (H : Type) (enc : TypeId × Value → H) :
    ReturnsInHanded {} Try.checked os 7 .any (Rows.octetOwnSpec.pre6 enc Try.prog Try.f7 Rows.octetOwnRow.domain false) (Rows.octetOwnSpec.post enc Try.prog Try.f7 false true false false) := by
  refine returnsInHanded_of_change_sized (C := Try.checked) own_knob started (by kernel_rfl) Try.func7
    (ChangeSpec.witness6 (enc := enc) (C := Try.checked) false ⟨#[], #[.slice none 0 0, .int .i64 0], []⟩ 8 (by kernel_rfl) (by kernel_rfl) (by kernel_rfl) (by kernel_rfl)) ?_
  intro W base args ds gs before hval0 hW hcnd hsz0 _
  have hval : ∀ (j : Nat) t v, Try.f7.params[j]? = some t → args[j]? = some v → Value.okWide Try.prog W .any base t v := hval0
  have hsz : (DataW.weightsEach Try.prog (Try.f7.params.toList ++ Rows.octetOwnSpec.plain.varTypes Try.prog) (ds ++ gs)).all (· ≤ reachBytes) = true := hsz0
  have hW' := hW
  obtain ⟨p, q, hA0, hV, rfl, hfz, hnd⟩ := hW
  have hA : DataW.TrodAll enc Try.prog W 0 (fun _ => true) true Try.f7.params.toList args.toList ds p := hA0
  rw [Try.params7] at hA hval hsz
  obtain ⟨v0, vs0, d0, ds0, p0, q0, hargs, rfl, rfl, h0, r0⟩ := trodAll_cons hA
  obtain ⟨v1, vs1, d1, ds1, p1, q1, rfl, rfl, rfl, h1, r1⟩ := trodAll_cons r0
  obtain ⟨rfl, rfl, rfl⟩ := trodAll_nil r1
  obtain rfl : args = #[v0, v1] := by cases args; simp_all
  obtain ⟨rfl, rfl⟩ := trodVars_none hV
  obtain ⟨a0, len0, cap0, rfl⟩ := okWide_slice Try.underlying25 (hval 0 25 v0 rfl rfl)
  have k0 := h0
  have lt0 : ∀ x ∈ p0, x.block < W.heap.size := by obtain ⟨m, hm⟩ := k0; exact DataW.trod_lt m _ _ _ hm
  obtain ⟨fuel, hf⟩ := h0
  obtain ⟨A, cap, bs, hcs, hcap, hl, hx⟩ := open_bytes Try.underlying25 Try.underlying5 (by kernel_rfl) hf
  simp [Value.cells] at hcs
  obtain ⟨rfl, rfl, rfl⟩ := hcs
  have hb : bs.length ≤ 140737488351232 := by
    rcases hx with ⟨_, h⟩ | ⟨elems, spare, he, h⟩
    · omega
    · have he' : d0 = .slice elems spare := he
      subst he'
      have := sized_slice hsz (j := 0) (t := 25) (e := 5) rfl rfl Try.underlying25
      rw [bytes_u8] at this
      simp only [reachBytes] at this
      omega
  obtain ⟨a1, rfl, rfl, rfl, w1⟩ := open_int Try.underlying3 (hval 1 3 v1 rfl rfl) h1
  have hr : -9223372036854775808 ≤ a1 ∧ a1 ≤ 9223372036854775807 := by simpa [Lit.wf, IntKind.min, IntKind.max, IntKind.signed, IntKind.bits] using w1
  clear hA0 hval0
  refine (walk a0 cap0 bs a1 W hl hcap hb hr.1 hr.2).mono fun e W' ⟨he, bel⟩ => ?_
  subst he
  exact ⟨_, rfl, _, _, _, [], _, [], hW', trodAll_mk1 (shut_bool Try.underlying4 _), (trodAll_cons_mk (Below.trod laidOut (by kernel_rfl) (of_decide_eq_true (by kernel_rfl)) k0 bel lt0) (trodAll_cons_mk (shut_int Try.underlying3 w1) trodAll_mk0)), rfl, bel.frame _, fun h => by cases h⟩

theorem over : Rows.octetOwnRow.holds Try.pinned (OpenSpec.ofChange Rows.octetOwnSpec) :=
  OpenClaim.holds_of_wide 7 Try.f7 rfl rfl rfl rfl rfl rfl rfl ⟨rfl, rfl, rfl, rfl, rfl⟩ rfl rfl rfl rfl rfl (by kernel_rfl) Try.func7 (by kernel_rfl)
    (of_decide_eq_true (by kernel_rfl)) (by unfold Func.isWrapper; first | (rw [if_pos (by decide +kernel)]; kernel_rfl) | (rw [if_neg (by decide +kernel)]; exact ⟨rfl, rfl⟩))
    (fun os started H enc _ => lifted os started H enc)

/-- The statement. -/
theorem proved : Rows.OctetOwnSaid := over
#print axioms proved
end Go.Proofs.Yticgmfnidhlkjaa.owns

/- What is proved: a reader that a call has made for itself: what each of its calls leaves; how many ids an index says that it has, by the program. Conditions: the bytes are there. -/
import Derived.Test.YtgbhdjncccmabaaGreatDoorIxh
import Derived.Test.YtgbhdjncccmabaaGreatDoorDf
namespace Go.Proofs.YtgbhdjncccmabaaGreatDoor
open Go.RowKit
set_option linter.unusedVariables false

/-- A reader at block g, made between the worlds wB and wT. -/
structure Rp (wB wT w : World) (g : Nat) (v : Value) (bs : List UInt8) (p : Nat) : Prop where
  rd : Rd w g v bs p 0
  lo : wB.heap.size ≤ g
  hi : g < wT.heap.size
  vo : ∀ k, v.ownBlock = some k → k < wT.heap.size
  le : wT.heap.size ≤ w.heap.size
theorem Rp.frT {wB wT w w' : World} {g : Nat} {v : Value} {bs : List UInt8} {p : Nat} (h : Rp wB wT w g v bs p) (f : Fr (fun j => wT.heap.size ≤ j) w w') : Rp wB wT w' g v bs p :=
  ⟨h.rd.fr f (by have := h.hi; omega) (fun k hk => by have := h.vo k hk; omega), h.lo, h.hi, h.vo, Nat.le_trans h.le f.size⟩
theorem Rp.frF {wB wT w w' : World} {g : Nat} {v : Value} {bs : List UInt8} {p : Nat} (h : Rp wB wT w g v bs p) (f : Fr (fun _ => False) w w') : Rp wB wT w' g v bs p := h.frT (f.mono (fun _ _ e => e.elim))
def RpPost (w : World) (bs : List UInt8) (e : Ending) (w' : World) : Prop :=
  ∃ g v, e = .returned (.pointer (some ⟨g, 0, none⟩)) ∧ Rp w w' w' g v bs 0 ∧ Fr (fun _ => False) w w'
theorem NewReader_rp (A : Option Addr) (n c : Nat) (bs : List UInt8) (hn : bs.length = n) (w : World) (h : Lies w A (bytesV bs)) (hb : n ≤ 140737488355328) :
    Calls Tryz.prog 45 #[.slice A n c] w (RpPost w bs) := by
  subst hn
  refine (NewReader_any A c bs w h hb).mono ?_
  rintro e w' ⟨g, v, he, hg, hv, hr, hf⟩
  exact ⟨g, v, he, ⟨hr, hg, hr.whole.lt, fun k hk => (World.ownsRow.lt hr.own k hk).2, Nat.le_refl _⟩, Fr.of_below hf⟩
def RawRp (wB wT w : World) (g : Nat) (v : Value) (bs : List UInt8) (p n : Nat) (e : Ending) (w' : World) : Prop :=
  ∃ x, e = .returned x ∧ w'.ownsRow w.heap.size 5 1 x n (bytesV ((bs.drop p).take n)) ∧ Rp wB wT w' g v bs (p + n) ∧ Fr (fun j => j = g) w w'
theorem RRaw_rp (wB wT w : World) (g : Nat) (v : Value) (bs : List UInt8) (p n : Nat) (N : Int) (hN : N = n) (h : Rp wB wT w g v bs p) (hn : p + n ≤ bs.length) (hn2 : n ≤ 1000000) :
    Calls Tryz.prog 46 #[.pointer (some ⟨g, 0, none⟩), .int .i64 N] w (RawRp wB wT w g v bs p n) := by
  subst hN
  refine (RRaw_any g v bs p 0 n w h.rd (by omega) (by omega)).mono ?_
  rintro e w' ⟨x, he, ho, hr, hf⟩
  have e0 : hasErr bs.length p 0 n = 0 := hasErr_ok (by omega)
  have e1 : rawB bs p 0 n = (bs.drop p).take n := by unfold rawB; rw [if_neg (by omega), if_pos e0, Int.toNat_natCast]
  have e2 : rawAt bs.length p 0 n = p + n := by unfold rawAt stepAt; rw [if_neg (by omega), Int.toNat_natCast, if_pos ⟨rfl, hn⟩]
  have e3 : rawErr bs.length p 0 n = 0 := by unfold rawErr; rw [if_neg (by omega), e0]
  rw [e1] at ho
  rw [e2, e3] at hr
  have hl : ((bs.drop p).take n).length = n := by rw [List.length_take, List.length_drop]; omega
  rw [hl] at ho
  exact ⟨x, he, ho, ⟨hr, h.lo, h.hi, h.vo, Nat.le_trans h.le hf.size⟩, hf⟩
def U32Rp (wB wT w : World) (g : Nat) (v : Value) (bs : List UInt8) (p : Nat) (e : Ending) (w' : World) : Prop :=
  e = .returned (.int .u32 (bigV ((bs.drop p).take 4))) ∧ Rp wB wT w' g v bs (p + 4) ∧ Fr (fun j => j = g) w w'
theorem RU32_rp (wB wT w : World) (g : Nat) (v : Value) (bs : List UInt8) (p : Nat) (h : Rp wB wT w g v bs p) (hn : p + 4 ≤ bs.length) :
    Calls Tryz.prog 47 #[.pointer (some ⟨g, 0, none⟩)] w (U32Rp wB wT w g v bs p) := by
  refine (RU32_any g v bs p 0 w h.rd).mono ?_
  rintro e w' ⟨he, hr, hf⟩
  have e0 : hasErr bs.length p 0 (4 : Nat) = 0 := hasErr_ok (by omega)
  have e2 : stepAt bs.length p 0 4 = p + 4 := by unfold stepAt; rw [if_pos ⟨rfl, hn⟩]
  have e4 : numV bs p 0 4 = bigV ((bs.drop p).take 4) := by unfold numV; rw [if_pos e0]
  have e5 : hasErr bs.length p 0 4 = 0 := e0
  rw [e2, e5] at hr
  rw [e4] at he
  exact ⟨he, ⟨hr, h.lo, h.hi, h.vo, Nat.le_trans h.le hf.size⟩, hf⟩

/-- A number of four bytes that stands at a place. -/
def u4 (b : List UInt8) (p : Nat) : Nat := bigV ((b.drop p).take 4)
theorem u4_lt (b : List UInt8) (p : Nat) : u4 b p < 4294967296 := by
  have h := bigV_lt ((b.drop p).take 4)
  have h2 : ((b.drop p).take 4).length ≤ 4 := by rw [List.length_take]; omega
  have h3 : 256 ^ ((b.drop p).take 4).length ≤ 256 ^ 4 := Nat.pow_le_pow_right (by decide) h2
  unfold u4
  omega
theorem u4_take (b : List UInt8) (m p : Nat) (h : p + 4 ≤ m) : u4 (b.take m) p = u4 b p := by
  unfold u4
  rw [List.drop_take, List.take_take, Nat.min_eq_left (by omega)]
def wordB (b : List UInt8) : Bool := decide (b.take 4 = [73, 78, 68, 88])
def cntR (b : List UInt8) : Nat × Int :=
  if b.length < 1096 then (0, 10) else if wordB b = false ∨ u4 b 4 ≠ 1 then (0, 12) else if 600 < u4 b 1028 then (0, 5)
  else if b.length < 1096 + 40 * u4 b 1028 then (0, 10) else if 1096 + 40 * u4 b 1028 < b.length then (0, 11) else (u4 b 1028, 0)
theorem slice_hdB (b o n c m : Nat) (h : m ≤ c) (w : World) : (Instr.slice 28 (.slice (some ⟨b, o, none⟩) n c) none (some (.int .i64 m)) none).run Tryz.prog w = .ok (.slice (some ⟨b, o, none⟩) m c) w := by
  have e := run_slice_h (P := Tryz.prog) w 28 (some ⟨b, o, none⟩) n c underB .i64 (m : Int) (by omega) (by omega)
  rw [e, elem1]
  simp [sliced, add_off]
theorem eq_word (W : List UInt8) : ((strB W).toList == [73, 78, 68, 88]) = decide (W = [73, 78, 68, 88]) := by
  rw [strB_list, Bool.eq_iff_iff]
  simp

set_option maxHeartbeats 3200000 in
set_option maxRecDepth 100000 in
theorem Icount_any (A : Option Addr) (c : Nat) (b : List UInt8) (hc : b.length ≤ c) (hb : b.length ≤ 1000000) (w : World) (h : Lies w A (bytesV b)) :
    Calls Tryz.prog 23 #[.slice A b.length c] w fun e w' => e = .returned (.tuple #[.int .i64 (cntR b).1, .int .i64 (cntR b).2]) ∧ Fr (fun _ => False) w w' := by
  obtain ⟨L, hL⟩ : ∃ L, b.length = L := ⟨_, rfl⟩
  have HLn := Lib.hid hL
  by_cases hs : L < 1096
  · have HR : Hid (cntR b = (0, 10)) := Lib.hid (by unfold cntR; rw [if_pos (by omega)])
    have hz : (L : Int) < 1096 := by omega
    rw [hL]
    clear hL h
    go_enter Tryz.func23, Tryz.ntmps23
    go_wp2
    go_ret2
    exact ⟨by rw [HR.out]; rfl, Fr.refl _ _⟩
  · have hz : ¬ ((L : Int) < 1096) := by omega
    obtain ⟨bk, o, hA⟩ := h.someB (by omega)
    subst hA
    have HN := Lib.hid (NewReader_rp (some ⟨bk, o, none⟩) 1032 c (b.take 1032) (by rw [List.length_take]; omega) w (h.takeB 1032) (by decide))
    unfold RpPost at HN
    have hsl : ∀ w, (Instr.slice 28 (.slice (some ⟨bk, o, none⟩) L c) none (some (.int .i64 1032)) none).run Tryz.prog w = .ok (.slice (some ⟨bk, o, none⟩) 1032 c) w := fun w => slice_hdB bk o L c 1032 (by omega) w
    have hTl : (b.take 1032).length = 1032 := by rw [List.length_take]; omega
    have ht4 : ((b.take 1032).drop 0).take 4 = b.take 4 := by rw [List.drop_zero, List.take_take]; rfl
    have hu1 := u4_take b 1032 4 (by omega)
    have hu2 := u4_take b 1032 1028 (by omega)
    have hcv := eq_word (b.take 4)
    have hlt := u4_lt b 4
    have hlt2 := u4_lt b 1028
    obtain ⟨T, hT⟩ : ∃ T, b.take 1032 = T := ⟨_, rfl⟩
    obtain ⟨W, hW⟩ : ∃ W, b.take 4 = W := ⟨_, rfl⟩
    obtain ⟨ver, hv⟩ : ∃ m, u4 b 4 = m := ⟨_, rfl⟩
    obtain ⟨n, hn⟩ : ∃ m, u4 b 1028 = m := ⟨_, rfl⟩
    have HR : Hid (cntR b = if (!decide (W = [73, 78, 68, 88])) = true ∨ ver ≠ 1 then (0, 12) else if 600 < n then (0, 5) else if L < 1096 + 40 * n then (0, 10) else if 1096 + 40 * n < L then (0, 11) else (n, 0)) := Lib.hid (by
      unfold cntR wordB
      rw [if_neg (by omega), hW, hv, hn, hL]
      cases decide (W = [73, 78, 68, 88]) <;> simp)
    rw [hT] at HN hTl ht4 hu1 hu2
    rw [hW] at hcv ht4
    rw [hv] at hu1 hlt
    rw [hn] at hu2 hlt2
    rw [hL]
    obtain ⟨wd, hwd⟩ : ∃ d, decide (W = [73, 78, 68, 88]) = d := ⟨_, rfl⟩
    rw [hwd] at hcv HR
    clear hL h hT hW hv hn hwd
    go_enter Tryz.func23, Tryz.ntmps23
    go_upto_region 4 with (go_at_call 45; refine HN.out.mono ?_; rintro e w1 ⟨g, v, rfl, hp, hf⟩; have HP := Lib.hid hp; have HF := Lib.hid hf; clear hp hf)
    clear hsl
    have HW := Lib.hid (RRaw_rp w w1 w1 g v T 0 4 4 rfl HP.out (by rw [hTl]; decide) (by decide))
    unfold RawRp at HW
    rw [ht4] at HW
    have HU1 := Lib.hid (fun w' (hp : Rp w w1 w' g v T 4) => RU32_rp w w1 w' g v T 4 hp (by rw [hTl]; decide))
    have HRW := Lib.hid (fun w' (hp : Rp w w1 w' g v T 8) => RRaw_rp w w1 w' g v T 8 1020 1020 rfl hp (by rw [hTl]; decide) (by decide))
    have HU2 := Lib.hid (fun w' (hp : Rp w w1 w' g v T 1028) => RU32_rp w w1 w' g v T 1028 hp (by rw [hTl]; decide))
    unfold U32Rp at HU1 HU2
    unfold RawRp at HRW
    have e1 : bigV ((T.drop 4).take 4) = ver := hu1
    have e2 : bigV ((T.drop 1028).take 4) = n := hu2
    rw [e1] at HU1
    rw [e2] at HU2
    have hW4 : W.length = 4 := by rw [← ht4, List.length_take, List.drop_zero, hTl]; rfl
    have HW4 := Lib.hid hW4
    clear e1 e2 hu1 hu2 ht4 hTl hW4
    have HCV := Lib.hid (fun (w' : World) Ax cx (hl : Lies w' Ax (bytesV W)) => run_convert_lies (P := Tryz.prog) 28 9 5 Tryz.underlying28 Tryz.underlying5 Tryz.underlying9 hl cx)
    have hw40 : IntKind.i64.wrap (40 * (n : Int)) = 40 * (n : Int) := by rw [IntKind.wrap_i64]; omega
    have hw41 : IntKind.i64.wrap (1096 + 40 * (n : Int)) = 1096 + 40 * (n : Int) := by rw [IntKind.wrap_i64]; omega
    have hwn : IntKind.i64.wrap (n : Int) = n := by rw [IntKind.wrap_i64]; omega
    cases wd
    · have HE : Hid (cntR b = (0, 12)) := Lib.hid (by rw [HR.out, if_pos (.inl rfl)])
      go_wp2_with (first
        | (go_at_call 46; refine HW.out.mono ?_; rintro e w2 ⟨x, rfl, ox, hp, hf⟩; obtain ⟨Ax, cx, hx, -, -⟩ := own_slice ox; subst hx; have hcs := HCV.out w2 Ax cx (Lies.of_own ox); rw [HW4.out] at hcs; have HP2 := Lib.hid hp; have HF2 := Lib.hid (HF.out.trans hf (fun i hi e => by have := HP.out.lo; omega)); clear ox hp hf)
        | (go_at_call 47; refine (HU1.out _ HP2.out).mono ?_; rintro e w3 ⟨rfl, hp, hf⟩; have HP3 := Lib.hid hp; have HF3 := Lib.hid (HF2.out.trans hf (fun i hi e => by have := HP.out.lo; omega)); clear hp hf))
      go_ret2
      exact ⟨by rw [HE.out]; rfl, HF2.out⟩
    · by_cases hver : ver = 1
      · subst hver
        go_upto_region 6 with (first
          | (go_at_call 46; refine HW.out.mono ?_; rintro e w2 ⟨x, rfl, ox, hp, hf⟩; obtain ⟨Ax, cx, hx, -, -⟩ := own_slice ox; subst hx; have hcs := HCV.out w2 Ax cx (Lies.of_own ox); rw [HW4.out] at hcs; have HP2 := Lib.hid hp; have HF2 := Lib.hid (HF.out.trans hf (fun i hi e => by have := HP.out.lo; omega)); clear ox hp hf)
          | (go_at_call 47; refine (HU1.out _ HP2.out).mono ?_; rintro e w3 ⟨rfl, hp, hf⟩; have HP3 := Lib.hid hp; have HF3 := Lib.hid (HF2.out.trans hf (fun i hi e => by have := HP.out.lo; omega)); clear hp hf))
        go_upto_region 7 with (go_at_call 46; refine (HRW.out _ HP3.out).mono ?_; rintro e w4 ⟨x, rfl, ox, hp, hf⟩; have HP4 := Lib.hid hp; have HF4 := Lib.hid (HF3.out.trans hf (fun i hi e => by have := HP.out.lo; omega)); clear ox hp hf)
        by_cases h6 : 600 < n
        · have hz6 : (600 : Int) < (n : Int) := by omega
          have HE : Hid (cntR b = (0, 5)) := Lib.hid (by rw [HR.out, if_neg (by simp), if_pos h6])
          go_wp2_with (go_at_call 47; refine (HU2.out _ HP4.out).mono ?_; rintro e w5 ⟨rfl, hp, hf⟩; have HF5 := Lib.hid (HF4.out.trans hf (fun i hi e => by have := HP.out.lo; omega)); clear hp hf)
          go_ret2
          exact ⟨by rw [HE.out]; rfl, HF5.out⟩
        · have hz6 : ¬ ((600 : Int) < (n : Int)) := by omega
          by_cases h7 : L < 1096 + 40 * n
          · have hz7 : (L : Int) < 1096 + 40 * (n : Int) := by omega
            have HE : Hid (cntR b = (0, 10)) := Lib.hid (by rw [HR.out, if_neg (by simp), if_neg h6, if_pos h7])
            go_wp2_with (go_at_call 47; refine (HU2.out _ HP4.out).mono ?_; rintro e w5 ⟨rfl, hp, hf⟩; have HF5 := Lib.hid (HF4.out.trans hf (fun i hi e => by have := HP.out.lo; omega)); clear hp hf)
            go_ret2
            exact ⟨by rw [HE.out]; rfl, HF5.out⟩
          · have hz7 : ¬ ((L : Int) < 1096 + 40 * (n : Int)) := by omega
            by_cases h8 : 1096 + 40 * n < L
            · have hz8 : 1096 + 40 * (n : Int) < (L : Int) := by omega
              have HE : Hid (cntR b = (0, 11)) := Lib.hid (by rw [HR.out, if_neg (by simp), if_neg h6, if_neg h7, if_pos h8])
              go_wp2_with (go_at_call 47; refine (HU2.out _ HP4.out).mono ?_; rintro e w5 ⟨rfl, hp, hf⟩; have HF5 := Lib.hid (HF4.out.trans hf (fun i hi e => by have := HP.out.lo; omega)); clear hp hf)
              go_ret2
              exact ⟨by rw [HE.out]; rfl, HF5.out⟩
            · have hz8 : ¬ (1096 + 40 * (n : Int) < (L : Int)) := by omega
              have HE : Hid (cntR b = (n, 0)) := Lib.hid (by rw [HR.out, if_neg (by simp), if_neg h6, if_neg h7, if_neg h8])
              go_wp2_with (go_at_call 47; refine (HU2.out _ HP4.out).mono ?_; rintro e w5 ⟨rfl, hp, hf⟩; have HF5 := Lib.hid (HF4.out.trans hf (fun i hi e => by have := HP.out.lo; omega)); clear hp hf)
              go_ret2
              exact ⟨by rw [HE.out]; rfl, HF5.out⟩
      · have hvz : ((ver : Int) != 1) = true := by simp; omega
        have HE : Hid (cntR b = (0, 12)) := Lib.hid (by rw [HR.out, if_pos (.inr hver)])
        go_wp2_with (first
          | (go_at_call 46; refine HW.out.mono ?_; rintro e w2 ⟨x, rfl, ox, hp, hf⟩; obtain ⟨Ax, cx, hx, -, -⟩ := own_slice ox; subst hx; have hcs := HCV.out w2 Ax cx (Lies.of_own ox); rw [HW4.out] at hcs; have HP2 := Lib.hid hp; have HF2 := Lib.hid (HF.out.trans hf (fun i hi e => by have := HP.out.lo; omega)); clear ox hp hf)
          | (go_at_call 47; refine (HU1.out _ HP2.out).mono ?_; rintro e w3 ⟨rfl, hp, hf⟩; have HP3 := Lib.hid hp; have HF3 := Lib.hid (HF2.out.trans hf (fun i hi e => by have := HP.out.lo; omega)); clear hp hf))
        go_ret2
        exact ⟨by rw [HE.out]; rfl, HF3.out⟩
end Go.Proofs.YtgbhdjncccmabaaGreatDoor

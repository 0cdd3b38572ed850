/- What is proved: texts that stand one behind the other: Prd Pre. Conditions: each theorem names its own. -/
import Derived.Test.YtkaeoflgnnlbeaaGreatDoorQPra
import Derived.Test.YtkaeoflgnnlbeaaGreatDoorDd
import Derived.Deep.Cut
import Derived.Deep.RegionWith
import Derived.Deep.QuietTactic
import Derived.BigQuiet
import Derived.OrdersHeld
import Derived.Test.YtkaeoflgnnlbeaaGreatDoorPc
/- What is proved: what stands ahead of an entry's load, by the program's reader. Conditions: the reader is the caller's, at its beginning, over at least one byte. -/
namespace Go.Proofs.YtkaeoflgnnlbeaaGreatDoor
open Go.RowKit
set_option linter.unusedVariables false

/-- An entry's head: its byte, its base's place, its load's length, its sum; where it ends, the error. -/
abbrev HdR := (Int × Int × Int × Int) × Nat × Int
def headT (W : List UInt8) (k base size : Int) (p : Nat) (er : Int) : HdR := ((k, base, size, (numV W p er 4 : Int)), stepAt W.length p er 4, hasErr W.length p er 4)
def headK (W : List UInt8) (P : Int) (k : Int) (z : Nat × Nat × Int) : HdR :=
  if k < 1 ∨ 5 < k then ((0, 0, 0, 0), 0, 19)
  else if k = 5 then
    (if (varO W z.2.1 z.2.2 1048576).2.2 = 0 ∧ ¬ (12 ≤ P - (varO W z.2.1 z.2.2 1048576).1 ∧ P - (varO W z.2.1 z.2.2 1048576).1 < P) then ((0, 0, 0, 0), 0, 21)
     else headT W 5 (P - (varO W z.2.1 z.2.2 1048576).1) z.1 (varO W z.2.1 z.2.2 1048576).2.1 (varO W z.2.1 z.2.2 1048576).2.2)
  else headT W k 0 z.1 z.2.1 z.2.2
def headW (W : List UInt8) (P : Int) : HdR := headK W P (byteAt W 0 0).toNat (varO W 1 0 4000)
/-- An entry out of its head. -/
def entE (W : List UInt8) (P : Int) (ml : Bool) (r : HdR) : EntR :=
  if r.2.2 ≠ 0 then zE r.2.2
  else if r.1.1 = 5 ∧ ml = false then zE 20
  else if rawErr W.length r.2.1 0 r.1.2.2.1 ≠ 0 then zE (rawErr W.length r.2.1 0 r.1.2.2.1)
  else if crcI (rawB W r.2.1 0 r.1.2.2.1) ≠ r.1.2.2.2 then zE 13
  else ((r.1.1, r.1.2.1, P + rawAt W.length r.2.1 0 r.1.2.2.1, r.1.2.2.2, rawB W r.2.1 0 r.1.2.2.1), 0)
theorem entE_T (W : List UInt8) (P : Int) (ml : Bool) (k base size : Int) (p : Nat) (er : Int) : entE W P ml (headT W k base size p er) = entT W P ml k base size p er := rfl
theorem entW_head (W : List UInt8) (P : Int) (ml : Bool) : entW W P ml = entE W P ml (headW W P) := by
  unfold entW headW entK headK
  split
  · unfold entE; rw [if_pos (by simp)]
  · split
    · split
      · unfold entE; rw [if_pos (by simp)]
      · rw [entE_T]
    · rw [entE_T]
theorem headW_props (W : List UInt8) (P : Int) : 0 ≤ (headW W P).1.2.2.1 ∧ (headW W P).1.2.2.1 ≤ 4000 ∧ (0 ≤ (headW W P).1.2.2.2 ∧ (headW W P).1.2.2.2 < 4294967296) := by
  have h1 := varO_mostP W 1 0 4000 (by omega)
  have hn : ∀ p er, (numV W p er 4 : Int) < 4294967296 := fun p er => by have := numV_lt W p er 4; omega
  unfold headW headK
  split
  · simp
  · split
    · split
      · simp
      · refine ⟨?_, h1, ?_, hn _ _⟩ <;> (unfold headT; simp only; omega)
    · refine ⟨?_, h1, ?_, hn _ _⟩ <;> (unfold headT; simp only; omega)

theorem Whole.six {w : World} {g : Nat} {t : TypeId} {a b c d e f : Value} (h : Whole w g t #[a, b, c, d, e, f]) : w.cell? ⟨g, 0, none⟩ = some a ∧ w.cell? ⟨g, 1, none⟩ = some b ∧ w.cell? ⟨g, 2, none⟩ = some c ∧ w.cell? ⟨g, 3, none⟩ = some d ∧ w.cell? ⟨g, 4, none⟩ = some e ∧ w.cell? ⟨g, 5, none⟩ = some f :=
  ⟨by rw [h.cell]; rfl, by rw [h.cell]; rfl, by rw [h.cell]; rfl, by rw [h.cell]; rfl, by rw [h.cell]; rfl, by rw [h.cell]; rfl⟩
theorem setN_whole {w : World} {g : Nat} {t : TypeId} {a b c d e f x0 x1 x2 x3 x4 x5 : Value} (h : Whole w g t #[x0, x1, x2, x3, x4, x5]) : Whole ((((((w.setCell ⟨g, 0, none⟩ a).setCell ⟨g, 1, none⟩ b).setCell ⟨g, 2, none⟩ c).setCell ⟨g, 3, none⟩ d).setCell ⟨g, 4, none⟩ e).setCell ⟨g, 5, none⟩ f) g t #[a, b, c, d, e, f] := (((((h.set 0 a).set 1 b).set 2 c).set 3 d).set 4 e).set 5 f
theorem setN_fr (w : World) (g : Nat) (a b c d e f : Value) : Fr (fun j => j = g) w ((((((w.setCell ⟨g, 0, none⟩ a).setCell ⟨g, 1, none⟩ b).setCell ⟨g, 2, none⟩ c).setCell ⟨g, 3, none⟩ d).setCell ⟨g, 4, none⟩ e).setCell ⟨g, 5, none⟩ f) :=
  ((((((Fr.refl (fun j => j = g) w).setCell (p := ⟨g, 0, none⟩) (fun _ => rfl) _).setCell (p := ⟨g, 1, none⟩) (fun _ => rfl) _).setCell (p := ⟨g, 2, none⟩) (fun _ => rfl) _).setCell (p := ⟨g, 3, none⟩) (fun _ => rfl) _).setCell (p := ⟨g, 4, none⟩) (fun _ => rfl) _).setCell (p := ⟨g, 5, none⟩) (fun _ => rfl) _
theorem Rd.from_ {w : World} {g : Nat} {v : Value} {bs : List UInt8} {p : Nat} {er f : Int} (h : Rd (some f) w g v bs p er) : w.cell? ⟨g, 3, none⟩ = some (.int .i64 f) := by
  have := h.whole.cell 3
  simpa [RdC] using this

theorem varO_zero (bs : List UInt8) (p : Nat) (er most : Int) (h : (varO bs p er most).2.2 ≠ 0) : (varO bs p er most).1 = 0 := by
  unfold varO at h ⊢
  split
  · rfl
  · rename_i h1
    rw [if_neg h1] at h
    split
    · rfl
    · rename_i h2
      rw [if_neg h2] at h
      exact absurd rfl h
/-- What head tells. -/
def HdPost (w : World) (g : Nat) (v : Value) (W : List UInt8) (P : Int) (R : HdR) (e : Ending) (w' : World) : Prop :=
  e = .returned (.tuple #[.agg #[.int .i64 R.1.1, .int .i64 R.1.2.1, .int .i64 R.1.2.2.1, .int .u32 R.1.2.2.2, .slice none 0 0, .int .i64 0], .int .i64 R.2.2]) ∧ (R.2.2 = 0 → Rd (some P) w' g v W R.2.1 0) ∧ RFr g w w'
set_option maxHeartbeats 12800000 in
set_option maxRecDepth 100000 in
theorem PRhead_any (g : Nat) (v : Value) (W : List UInt8) (P : Int) (hP : 12 ≤ P ∧ P ≤ 140737488355328) (hW : 0 < W.length) (w : World) (h : Rd (some P) w g v W 0 0) :
    Calls Tryz.prog 85 #[.pointer (some ⟨g, 0, none⟩)] w (HdPost w g v W P (headW W P)) := by
  obtain ⟨R, hR⟩ : ∃ R, headW W P = R := ⟨_, rfl⟩
  rw [hR]
  unfold headW at hR
  have HB := Lib.hid (fun w' (q : Rd (some P) w' g v W 0 0) => RByte_any g v W 0 0 w' q)
  unfold RPost at HB
  have hs1 : stepAt W.length 0 0 1 = 1 := by unfold stepAt; rw [if_pos ⟨rfl, by omega⟩]
  have hh1 : hasErr W.length 0 0 1 = 0 := hasErr_ok (by omega)
  rw [hs1, hh1] at HB
  have HV1 := Lib.hid (fun w' (q : Rd (some P) w' g v W 1 0) => RVar_any g v W 1 0 4000 w' q (by omega) (by omega))
  have hm1 := varO_mostP W 1 0 4000 (by omega)
  unfold VarPost at HV1
  obtain ⟨⟨v1, p2, r2⟩, hv1⟩ : ∃ z, varO W 1 0 4000 = z := ⟨_, rfl⟩
  rw [hv1] at HV1 hm1 hR
  obtain ⟨k, hk⟩ : ∃ k, (byteAt W 0 0).toNat = k := ⟨_, rfl⟩
  have hk0 : k < 256 := by rw [← hk]; exact UInt8.toNat_lt _
  rw [hk] at HB hR
  simp only at HB HV1 hm1
  clear hs1 hh1 hv1 hk hW
  obtain ⟨w1, hw1⟩ : ∃ w1, w.alloc (.cells #[.int .i64 0, .int .i64 0, .int .i64 0, .int .u32 0, .slice none 0 0, .int .i64 0] 122) = w1 := ⟨_, rfl⟩
  have HF01 := Lib.hid (show Fr (fun _ => False) w w1 by subst hw1; exact (Fr.refl _ _).alloc _)
  have HW1 := Lib.hid (show Whole w1 w.heap.size 122 #[.int .i64 0, .int .i64 0, .int .i64 0, .int .u32 0, .slice none 0 0, .int .i64 0] by subst hw1; exact Whole.new _ _ _)
  have HS1 := Lib.hid (show w1.heap.size = w.heap.size + 1 by subst hw1; simp)
  have HR1 := Lib.hid (h.fr HF01.out (fun e => e) (fun _ _ e => e))
  have HGl := Lib.hid (show g < w.heap.size from h.whole.lt)
  have HGo := Lib.hid (show ∀ k, v.ownBlock = some k → k < w.heap.size from fun k hk => (World.ownsRow.lt h.own k hk).2)
  obtain ⟨hP0, hP1⟩ := hP
  unfold headK at hR
  simp only at hR
  have hkw : IntKind.i64.wrap (k : Int) = k := by rw [IntKind.wrap_i64]; omega
  have hvw : IntKind.i64.wrap (v1 : Int) = v1 := by rw [IntKind.wrap_i64]; omega
  clear h
  go_enter Tryz.func85, Tryz.ntmps85
  go_upto_region 2 with (go_at_call 116; refine (HB.out w1 HR1.out).mono ?_; rintro e w2 ⟨rfl, q2, f2⟩; have HR2 := Lib.hid q2; have HF2 := Lib.hid f2; clear q2 f2)
  obtain ⟨w3, hw3⟩ : ∃ w3, w2.alloc (.cells #[.int .i64 k, .int .i64 0, .int .i64 0, .int .u32 0, .slice none 0 0, .int .i64 0] 122) = w3 := ⟨_, rfl⟩
  rw [hw3]
  have HF23 := Lib.hid (show Fr (fun _ => False) w2 w3 by subst hw3; exact (Fr.refl _ _).alloc _)
  have HX3 := Lib.hid (show Whole w3 w2.heap.size 122 #[.int .i64 k, .int .i64 0, .int .i64 0, .int .u32 0, .slice none 0 0, .int .i64 0] by subst hw3; exact Whole.new _ _ _)
  obtain ⟨xb, hxb⟩ : ∃ xb, w2.heap.size = xb := ⟨_, rfl⟩
  have HXb := Lib.hid (show w.heap.size < xb ∧ g < xb ∧ ∀ k, v.ownBlock = some k → k < xb from by
    have h1 := Fr.size HF2.out
    have h2 := HS1.out
    have h3 := HGl.out
    exact ⟨by omega, by omega, fun k hk => by have := HGo.out k hk; omega⟩)
  rw [hxb] at HX3 ⊢
  have HR3 := Lib.hid (HR2.out.fr HF23.out (fun e => e) (fun _ _ e => e))
  have HF13 := Lib.hid (show Fr (fun j => j = g) w1 w3 from Fr.trans HF2.out HF23.out (fun _ _ e => e.elim))
  have HW3 := Lib.hid (HW1.out.fr HF13.out (fun e => by have := HGl.out; omega))
  have HF3 := Lib.hid (show Fr (fun j => j = g) w w3 from (HF01.out.mono (fun _ _ e => e.elim)).trans HF13.out (fun _ _ e => e))
  clear hw1 hw3 hxb
  obtain ⟨x0, x1, x2, x3, x4, x5⟩ := HX3.out.six
  by_cases hk1 : (k : Int) < 1
  · rw [if_pos (Or.inl hk1)] at hR
    have HR := Lib.hid hR.symm
    clear hR
    (
      obtain ⟨e0, e1, e2, e3, e4, e5⟩ := HW3.out.six
      have z0 := HW3.out.frozen 0
      have z1 := HW3.out.frozen 1
      have z2 := HW3.out.frozen 2
      have z3 := HW3.out.frozen 3
      have z4 := HW3.out.frozen 4
      have z5 := HW3.out.frozen 5)
    go_wp2_with fail
    (
      have hW9 := setN_whole (a := .int .i64 0) (b := .int .i64 0) (c := .int .i64 0) (d := .int .u32 0) (e := .slice none 0 0) (f := .int .i64 0) HW3.out
      have hF9 := setN_fr w3 w.heap.size (.int .i64 0) (.int .i64 0) (.int .i64 0) (.int .u32 0) (.slice none 0 0) (.int .i64 0)
      refine bodyPost_ret (v := .tuple #[.agg #[.int .i64 0, .int .i64 0, .int .i64 0, .int .u32 0, .slice none 0 0, .int .i64 0], .int .i64 19]) (results_cell_slot (p := 2) (u := 3) rfl _ _ _ _ _ _ rfl hW9 Tryz.underlying122 rfl (by kernel_rfl)) rfl ?_
      rw [HR.out]
      exact ⟨rfl, fun e => absurd e (by decide), Fr.trans HF3.out hF9 (fun i hi e => by omega)⟩)
  · by_cases hk5 : (5 : Int) < k
    · rw [if_pos (Or.inr hk5)] at hR
      have HR := Lib.hid hR.symm
      clear hR
      (
        obtain ⟨e0, e1, e2, e3, e4, e5⟩ := HW3.out.six
        have z0 := HW3.out.frozen 0
        have z1 := HW3.out.frozen 1
        have z2 := HW3.out.frozen 2
        have z3 := HW3.out.frozen 3
        have z4 := HW3.out.frozen 4
        have z5 := HW3.out.frozen 5)
      go_wp2_with fail
      (
        have hW9 := setN_whole (a := .int .i64 0) (b := .int .i64 0) (c := .int .i64 0) (d := .int .u32 0) (e := .slice none 0 0) (f := .int .i64 0) HW3.out
        have hF9 := setN_fr w3 w.heap.size (.int .i64 0) (.int .i64 0) (.int .i64 0) (.int .u32 0) (.slice none 0 0) (.int .i64 0)
        refine bodyPost_ret (v := .tuple #[.agg #[.int .i64 0, .int .i64 0, .int .i64 0, .int .u32 0, .slice none 0 0, .int .i64 0], .int .i64 19]) (results_cell_slot (p := 2) (u := 3) rfl _ _ _ _ _ _ rfl hW9 Tryz.underlying122 rfl (by kernel_rfl)) rfl ?_
        rw [HR.out]
        exact ⟨rfl, fun e => absurd e (by decide), Fr.trans HF3.out hF9 (fun i hi e => by omega)⟩)
    · rw [if_neg (by omega)] at hR
      have zx2 := HX3.out.frozen 2
      go_upto_region 5 with (go_at_call 117; refine (HV1.out w3 HR3.out).mono ?_; rintro e w4 ⟨rfl, q4, f4⟩; have HR4 := Lib.hid q4; have HF4 := Lib.hid f4; have HX4 := Lib.hid (HX3.out.fr f4 (fun e => by have := HXb.out; omega)); have y2 : w4.cell? ⟨xb, 2, none⟩ = some (.int .i64 0) := HX4.out.six.2.2.1; have yz2 := HX4.out.frozen 2; clear q4 f4)
      obtain ⟨w5, hw5⟩ : ∃ w5, w4.setCell ⟨xb, 2, none⟩ (.int .i64 v1) = w5 := ⟨_, rfl⟩
      rw [hw5]
      have HF45 := Lib.hid (show Fr (fun j => j = xb) w4 w5 by subst hw5; exact Fr.setCell (S := fun j => j = xb) (p := ⟨xb, 2, none⟩) (Fr.refl _ w4) (fun _ => rfl) _)
      have HX5 := Lib.hid (show Whole w5 xb 122 #[.int .i64 k, .int .i64 0, .int .i64 v1, .int .u32 0, .slice none 0 0, .int .i64 0] by subst hw5; exact HX4.out.set 2 _)
      have HR5 := Lib.hid (HR4.out.fr HF45.out (fun e => by have := HXb.out; omega) (fun k hk e => by have := HXb.out.2.2 k hk; omega))
      have HF5 := Lib.hid (show Fr (fun j => j = g) w w5 from (HF3.out.trans HF4.out (fun _ _ e => e)).trans HF45.out (fun i hi e => by have := HXb.out; omega))
      have HW5 := Lib.hid ((HW3.out.fr HF4.out (fun e => by have := HGl.out; omega)).fr HF45.out (fun e => by have := HXb.out; omega))
      clear hw5 x0 x1 x2 x3 x4 x5 zx2 y2 yz2
      obtain ⟨x0, x1, x2, x3, x4, x5⟩ := HX5.out.six
      by_cases hkq : (k : Int) = 5
      · rw [if_pos hkq] at hR
        have hkq' : ((k : Int) == 5) = true := by simpa using hkq
        have HKq := Lib.hid hkq
        have HV2 := Lib.hid (fun w' (q : Rd (some P) w' g v W p2 r2) => RVar_any g v W p2 r2 1048576 w' q (by omega) (by omega))
        have hm2 := varO_mostP W p2 r2 1048576 (by omega)
        unfold VarPost at HV2
        have hvz := varO_zero W p2 r2 1048576
        obtain ⟨⟨v2, p3, r3⟩, hv2⟩ : ∃ z, varO W p2 r2 1048576 = z := ⟨_, rfl⟩
        rw [hv2] at HV2 hm2 hR hvz
        simp only at HV2 hm2 hR hvz
        have HVz := Lib.hid hvz
        clear hvz
        have hv2w : IntKind.i64.wrap (v2 : Int) = v2 := by rw [IntKind.wrap_i64]; omega
        have hbw : IntKind.i64.wrap (P - v2) = P - v2 := by rw [IntKind.wrap_i64]; omega
        clear hkq hv2
        go_upto_region 6 with fail
        refine wp_region_held (S := fun w' => w'.cell? ⟨g, 3, none⟩ = some (.int .i64 P)) (by kernel_rfl) ?_
        have HSq := Lib.hid (show (World.drew w5).cell? ⟨g, 3, none⟩ = some (.int .i64 P) from HR5.out.from_)
        (
          refine wpAnyH_takeP (i := 0) (v := .pointer (some ⟨g, 0, none⟩)) 30 rfl rfl (by kernel_rfl) (by kernel_rfl) (by kernel_rfl) (fun _ _ _ h => h) (.inl ⟨by rfl, ?_⟩) HSq.out ?_
          · intro xw xf
            go_simp)
        (
          refine wpAnyH_takeP (i := 1) (v := .pointer (some ⟨g, 0, none⟩)) 31 rfl rfl (by kernel_rfl) (by kernel_rfl) (by kernel_rfl) (fun _ _ _ h => h) (.inl ⟨by rfl, ?_⟩) HSq.out ?_
          · intro xw xf
            go_simp)
        (
          refine wpAnyH_takeP (i := 2) (v := .pointer (some ⟨g, 3, none⟩)) 32 rfl rfl (by kernel_rfl) (by kernel_rfl) (by kernel_rfl) (fun _ _ _ h => h) (.inl ⟨by rfl, ?_⟩) HSq.out ?_
          · intro xw xf
            go_simp)
        (
          refine wpAnyH_takeP (i := 3) (v := .int .i64 P) 33 rfl rfl (by kernel_rfl) (by kernel_rfl) (by kernel_rfl) (fun _ _ _ h => h) (.inl ⟨by rfl, ?_⟩) HSq.out ?_
          · intro xw xf
            go_simp)
        (
          refine wpAnyH_takeP (i := 4) (v := .pointer (some ⟨g, 0, none⟩)) 34 rfl rfl (by kernel_rfl) (by kernel_rfl) (by kernel_rfl) (fun _ _ _ h => h) (.inl ⟨by rfl, ?_⟩) HSq.out ?_
          · intro xw xf
            go_simp)
        (
          refine wpAnyH_takeP (i := 5) (v := .pointer (some ⟨g, 0, none⟩)) 35 rfl rfl (by kernel_rfl) (by kernel_rfl) (by kernel_rfl) (fun _ _ _ h => h) (.inl ⟨by rfl, ?_⟩) HSq.out ?_
          · intro xw xf
            go_simp)
        (
          refine wpAnyH_takeP (i := 6) (v := .pointer (some ⟨g, 0, none⟩)) 36 rfl rfl (by kernel_rfl) (by kernel_rfl) (by kernel_rfl) (fun _ _ _ h => h) (.inl ⟨by rfl, ?_⟩) HSq.out ?_
          · intro xw xf
            go_simp)
        change wpAnyH _ _ _ _ _ _ _ _ (World.drew w5)
        have HFd := Lib.hid (show Fr (fun _ => False) w5 (World.drew w5) from (Fr.refl _ w5).drew)
        obtain ⟨wd, hwd⟩ : ∃ wd, World.drew w5 = wd := ⟨_, rfl⟩
        rw [hwd]
        rw [hwd] at HFd
        clear hwd HSq
        have HRd := Lib.hid (HR5.out.fr HFd.out (fun e => e) (fun _ _ e => e))
        (
          try simp only [List.setIfInBounds_toArray, List.set_cons_succ, List.set_cons_zero]
          refine wpAnyH_all (rs := [7]) (by kernel_rfl) (by simp) ?_
          intro i hi
          simp only [List.mem_cons, List.not_mem_nil, or_false] at hi
          subst hi)
        refine wpOp_step rfl (fun K hK => ?_)
        go_simp
        go_wp2_with (go_at_call 117; refine (HV2.out wd HRd.out).mono ?_; rintro e w6 ⟨rfl, q6, f6⟩; have HR6 := Lib.hid q6; have HFd6 := Lib.hid f6; clear q6 f6)
        refine ⟨HR6.out.from_, ?_⟩
        have HSq := Lib.hid (show w6.cell? ⟨g, 3, none⟩ = some (.int .i64 P) from HR6.out.from_)
        (
          refine wpAnyH_takeP (i := 8) (v := .int .i64 v2) 38 rfl rfl (by kernel_rfl) (by kernel_rfl) (by kernel_rfl) (fun _ _ _ h => h) (.inl ⟨by rfl, ?_⟩) HSq.out ?_
          · intro xw xf
            go_simp)
        (
          refine wpAnyH_takeP (i := 9) (v := .int .i64 (P - v2)) 39 rfl rfl (by kernel_rfl) (by kernel_rfl) (by kernel_rfl) (fun _ _ _ h => h) (.inl ⟨by rfl, ?_⟩) HSq.out ?_
          · intro xw xf
            go_simp)
        (
          refine wpAnyH_takeP (i := 10) (v := .pointer (some ⟨xb, 1, none⟩)) 40 rfl rfl (by kernel_rfl) (by kernel_rfl) (by kernel_rfl) (fun _ _ _ h => h) (.inl ⟨by rfl, ?_⟩) HSq.out ?_
          · intro xw xf
            go_simp)
        have HF56 := Lib.hid (show Fr (fun j => j = g) w5 w6 from (HFd.out.mono (fun _ _ e => e.elim)).trans HFd6.out (fun _ _ e => e))
        have HX6 := Lib.hid (HX5.out.fr HF56.out (fun e => by have := HXb.out; omega))
        have HW6 := Lib.hid (HW5.out.fr HF56.out (fun e => by have := HGl.out; omega))
        have y1 : w6.cell? ⟨xb, 1, none⟩ = some (.int .i64 0) := HX6.out.six.2.1
        have yz1 := HX6.out.frozen 1
        have HFs := Lib.hid (show Fr (fun j => j = xb) w6 (w6.setCell ⟨xb, 1, none⟩ (.int .i64 (P - v2))) from Fr.setCell (S := fun j => j = xb) (p := ⟨xb, 1, none⟩) (Fr.refl _ w6) (fun _ => rfl) _)
        (
          try simp only [List.setIfInBounds_toArray, List.set_cons_succ, List.set_cons_zero]
          refine wpAnyH_all (rs := [11]) (by kernel_rfl) (by simp) ?_
          intro i hi
          simp only [List.mem_cons, List.not_mem_nil, or_false] at hi
          subst hi)
        refine wpOp_step rfl (fun K hK => ?_)
        go_simp
        refine hK _ _ ⟨HFs.out.cell HSq.out (fun e => by have := HXb.out; simp only at e; omega), ?_⟩
        clear hK K
        refine wpAnyH_done (by kernel_rfl) ?_ _
        obtain ⟨w7, hw7⟩ : ∃ w7, w6.setCell ⟨xb, 1, none⟩ (.int .i64 (P - v2)) = w7 := ⟨_, rfl⟩
        rw [hw7] at HFs ⊢
        have HX7 := Lib.hid (show Whole w7 xb 122 #[.int .i64 k, .int .i64 (P - v2), .int .i64 v1, .int .u32 0, .slice none 0 0, .int .i64 0] by subst hw7; exact HX6.out.set 1 _)
        have HR7 := Lib.hid (HR6.out.fr HFs.out (fun e => by have := HXb.out; omega) (fun k hk e => by have := HXb.out.2.2 k hk; omega))
        have HF7 := Lib.hid (show Fr (fun j => j = g) w w7 from (HF5.out.trans HF56.out (fun _ _ e => e)).trans HFs.out (fun i hi e => by have := HXb.out; omega))
        have HW7 := Lib.hid (HW6.out.fr HFs.out (fun e => by have := HXb.out; omega))
        clear hw7 y1 yz1 HSq x0 x1 x2 x3 x4 x5
        obtain ⟨x0, x1, x2, x3, x4, x5⟩ := HX7.out.six
        have xf := HR7.out.from_
        by_cases hr3 : r3 = 0
        · have hr3' : (r3 == 0) = true := by simpa using hr3
          by_cases hb1 : (12 : Int) ≤ P - v2
          · have hb1' : decide ((12 : Int) ≤ P - v2) = true := by simpa using hb1
            by_cases hb2 : P - v2 < P
            · have hb2' : decide (P - v2 < P) = true := by simpa using hb2
              rw [if_neg (fun e => e.2 ⟨hb1, hb2⟩), ← HKq.out] at hR
              have HR3 := Lib.hid hr3
              clear hr3
              --L1
              (
                (
                  go_upto_region 7 with fail
                  go_quiet (fail)
                  obtain ⟨w8, hw8⟩ : ∃ w8, w7.drewN nq = w8 := ⟨_, rfl⟩
                  rw [hw8]
                  have HF78 := Lib.hid (show Fr (fun _ => False) w7 w8 by rw [← hw8]; exact (Fr.refl _ w7).drewN nq)
                  have HX8 := Lib.hid (HX7.out.fr HF78.out (fun e => e))
                  have HR8 := Lib.hid (HR7.out.fr HF78.out (fun e => e) (fun _ _ e => e))
                  have HF8 := Lib.hid (show Fr (fun j => j = g) w w8 from HF7.out.trans HF78.out (fun _ _ e => e.elim))
                  have HW8 := Lib.hid (HW7.out.fr HF78.out (fun e => e))
                  clear hw8 x0 x1 x2 x3 x4 x5 xf)
                obtain ⟨x0, x1, x2, x3, x4, x5⟩ := HX8.out.six
                go_upto_region 10 with (
                  (go_at_call 86; refine (RErr_any g v W p3 r3 w8 HR8.out).mono ?_; rintro e wx ⟨rfl, rfl⟩))
                (
                  unfold headT at hR
                  have HU := Lib.hid (RU32_any g v W p3 r3 w8 HR8.out)
                  unfold RPost at HU
                  have hs0 := numV_lt W p3 r3 4
                  obtain ⟨s, hs⟩ : ∃ s, numV W p3 r3 4 = s := ⟨_, rfl⟩
                  obtain ⟨p4, hp4⟩ : ∃ p4, stepAt W.length p3 r3 4 = p4 := ⟨_, rfl⟩
                  obtain ⟨E4, hE4⟩ : ∃ E4, hasErr W.length p3 r3 4 = E4 := ⟨_, rfl⟩
                  rw [hs] at HU hR hs0
                  rw [hp4] at HU hR
                  rw [hE4] at HU hR
                  have HR := Lib.hid hR.symm
                  clear hs hp4 hE4 hR
                  go_upto_region 11 with (go_at_call 66; refine HU.out.mono ?_; rintro e wu ⟨rfl, qu, fu⟩; have HRu := Lib.hid qu; have HFu := Lib.hid fu; have HXu := Lib.hid (HX8.out.fr fu (fun e => by have := HXb.out; omega)); have yu := HXu.out.six.2.2.2.1; have yzu := HXu.out.frozen 3; clear qu fu)
                  obtain ⟨wt, hwt⟩ : ∃ wt, wu.setCell ⟨xb, 3, none⟩ (.int .u32 s) = wt := ⟨_, rfl⟩
                  rw [hwt]
                  have HFut := Lib.hid (show Fr (fun j => j = xb) wu wt by subst hwt; exact Fr.setCell (S := fun j => j = xb) (p := ⟨xb, 3, none⟩) (Fr.refl _ wu) (fun _ => rfl) _)
                  have HXt := Lib.hid (show Whole wt xb 122 #[.int .i64 (k : Int), .int .i64 (P - v2), .int .i64 v1, .int .u32 s, .slice none 0 0, .int .i64 0] by subst hwt; exact HXu.out.set 3 _)
                  have HRt := Lib.hid (HRu.out.fr HFut.out (fun e => by have := HXb.out; omega) (fun k hk e => by have := HXb.out.2.2 k hk; omega))
                  have HFt := Lib.hid (show Fr (fun j => j = g) w wt from (HF8.out.trans HFu.out (fun _ _ e => e)).trans HFut.out (fun i hi e => by have := HXb.out; omega))
                  have HWt := Lib.hid ((HW8.out.fr HFu.out (fun e => by have := HGl.out; omega)).fr HFut.out (fun e => by have := HXb.out; omega))
                  clear hwt x0 x1 x2 x3 x4 x5 yu yzu
                  refine wp_region_held (S := fun w' => Fr (fun j => j = w.heap.size) wt w') (by kernel_rfl) ?_
                  have HSq := Lib.hid (show Fr (fun j => j = w.heap.size) wt (World.drew wt) from (Fr.refl _ wt).drew)
                  have HQc := Lib.hid (fun w' (f : Fr (fun j => j = w.heap.size) wt w') => (HXt.out.fr f (fun e => by have := HXb.out; omega)).six)
                  (
                    refine wpAnyH_takeP (i := 0) (v := .agg #[.int .i64 (k : Int), .int .i64 (P - v2), .int .i64 v1, .int .u32 s, .slice none 0 0, .int .i64 0]) 68 rfl rfl (by kernel_rfl) (by kernel_rfl) (by kernel_rfl) (fun _ _ _ h => h) (.inl ⟨by rfl, ?_⟩) HSq.out ?_
                    · intro xw xf
                      obtain ⟨c0, c1, c2, c3, c4, c5⟩ := HQc.out xw xf
                      go_simp)
                  (
                    refine wpAnyH_takeP (i := 1) (v := .pointer (some ⟨g, 0, none⟩)) 69 rfl rfl (by kernel_rfl) (by kernel_rfl) (by kernel_rfl) (fun _ _ _ h => h) (.inl ⟨by rfl, ?_⟩) HSq.out ?_
                    · intro xw xf
                      go_simp)
                  (
                    refine wpAnyH_takeP (i := 2) (v := .pointer (some ⟨g, 0, none⟩)) 70 rfl rfl (by kernel_rfl) (by kernel_rfl) (by kernel_rfl) (fun _ _ _ h => h) (.inl ⟨by rfl, ?_⟩) HSq.out ?_
                    · intro xw xf
                      go_simp)
                  (
                    refine wpAnyH_takeP (i := 3) (v := .pointer (some ⟨g, 0, none⟩)) 71 rfl rfl (by kernel_rfl) (by kernel_rfl) (by kernel_rfl) (fun _ _ _ h => h) (.inl ⟨by rfl, ?_⟩) HSq.out ?_
                    · intro xw xf
                      go_simp)
                  change wpAnyH _ _ _ _ _ _ _ _ (World.drew wt)
                  have HFd := Lib.hid (show Fr (fun _ => False) wt (World.drew wt) from (Fr.refl _ wt).drew)
                  obtain ⟨wd, hwd⟩ : ∃ wd, World.drew wt = wd := ⟨_, rfl⟩
                  rw [hwd]
                  rw [hwd] at HFd
                  clear hwd HSq
                  have HRd := Lib.hid (HRt.out.fr HFd.out (fun e => e) (fun _ _ e => e))
                  have HWd := Lib.hid (HWt.out.fr HFd.out (fun e => e))
                  have HFwd := Lib.hid (show Fr (fun j => j = g) w wd from HFt.out.trans HFd.out (fun _ _ e => e.elim))
                  (
                    try simp only [List.setIfInBounds_toArray, List.set_cons_succ, List.set_cons_zero]
                    refine wpAnyH_all (rs := [4]) (by kernel_rfl) (by simp) ?_
                    intro i hi
                    simp only [List.mem_cons, List.not_mem_nil, or_false] at hi
                    subst hi)
                  refine wpOp_step rfl (fun K hK => ?_)
                  go_simp
                  go_wp2_with (go_at_call 86; refine (RErr_any g v W p4 E4 wd HRd.out).mono ?_; rintro e wx ⟨rfl, rfl⟩)
                  refine ⟨HFd.out.mono (fun _ _ e => e.elim), ?_⟩
                  (
                    obtain ⟨e0, e1, e2, e3, e4, e5⟩ := HWd.out.six
                    have z0 := HWd.out.frozen 0
                    have z1 := HWd.out.frozen 1
                    have z2 := HWd.out.frozen 2
                    have z3 := HWd.out.frozen 3
                    have z4 := HWd.out.frozen 4
                    have z5 := HWd.out.frozen 5)
                  have HSs := Lib.hid (show Fr (fun j => j = w.heap.size) wt ((((((wd.setCell ⟨w.heap.size, 0, none⟩ (.int .i64 (k : Int))).setCell ⟨w.heap.size, 1, none⟩ (.int .i64 (P - v2))).setCell ⟨w.heap.size, 2, none⟩ (.int .i64 v1)).setCell ⟨w.heap.size, 3, none⟩ (.int .u32 s)).setCell ⟨w.heap.size, 4, none⟩ (.slice none 0 0)).setCell ⟨w.heap.size, 5, none⟩ (.int .i64 0)) from (HFd.out.mono (fun _ _ e => e.elim)).trans (setN_fr wd w.heap.size _ _ _ _ _ _) (fun _ _ e => e))
                  (
                    try simp only [List.setIfInBounds_toArray, List.set_cons_succ, List.set_cons_zero]
                    refine wpAnyH_all (rs := [5]) (by kernel_rfl) (by simp) ?_
                    intro i hi
                    simp only [List.mem_cons, List.not_mem_nil, or_false] at hi
                    subst hi)
                  refine wpOp_step rfl (fun K hK => ?_)
                  go_simp
                  refine hK _ _ ⟨HSs.out, ?_⟩
                  clear hK K
                  (
                    try simp only [List.setIfInBounds_toArray, List.set_cons_succ, List.set_cons_zero]
                    refine wpAnyH_all (rs := [6]) (by kernel_rfl) (by simp) ?_
                    intro i hi
                    simp only [List.mem_cons, List.not_mem_nil, or_false] at hi
                    subst hi)
                  refine wpOp_step rfl (fun K hK => ?_)
                  go_simp
                  refine hK _ _ ⟨HSs.out, ?_⟩
                  clear hK K
                  refine wpAnyH_done (by kernel_rfl) ?_ _
                  go_wp2_with fail
                  have hW9 := setN_whole (a := .int .i64 (k : Int)) (b := .int .i64 (P - v2)) (c := .int .i64 v1) (d := .int .u32 s) (e := .slice none 0 0) (f := .int .i64 0) HWd.out
                  have hF9 := setN_fr wd w.heap.size (.int .i64 (k : Int)) (.int .i64 (P - v2)) (.int .i64 v1) (.int .u32 s) (.slice none 0 0) (.int .i64 0)
                  refine bodyPost_ret (v := .tuple #[.agg #[.int .i64 (k : Int), .int .i64 (P - v2), .int .i64 v1, .int .u32 s, .slice none 0 0, .int .i64 0], .int .i64 E4]) (results_cell_slot (p := 2) (u := 3) rfl _ _ _ _ _ _ rfl hW9 Tryz.underlying122 rfl (by kernel_rfl)) rfl ?_
                  rw [HR.out]
                  refine ⟨rfl, fun e => ?_, Fr.trans HFwd.out hF9 (fun i hi e => by omega)⟩
                  have e : E4 = 0 := e
                  have h9 := HRd.out.fr hF9 (fun e => by have := HGl.out; omega) (fun k hk e => by have := HGo.out k hk; omega)
                  rw [e] at h9
                  exact h9))
              --E
            · have hb2' : decide (P - v2 < P) = false := by simpa using hb2
              rw [if_pos ⟨hr3, fun e => hb2 e.2⟩] at hR
              have HR := Lib.hid hR.symm
              clear hR hr3
              --L2
              (
                (
                  go_upto_region 7 with fail
                  go_quiet (fail)
                  obtain ⟨w8, hw8⟩ : ∃ w8, w7.drewN nq = w8 := ⟨_, rfl⟩
                  rw [hw8]
                  have HF78 := Lib.hid (show Fr (fun _ => False) w7 w8 by rw [← hw8]; exact (Fr.refl _ w7).drewN nq)
                  have HX8 := Lib.hid (HX7.out.fr HF78.out (fun e => e))
                  have HR8 := Lib.hid (HR7.out.fr HF78.out (fun e => e) (fun _ _ e => e))
                  have HF8 := Lib.hid (show Fr (fun j => j = g) w w8 from HF7.out.trans HF78.out (fun _ _ e => e.elim))
                  have HW8 := Lib.hid (HW7.out.fr HF78.out (fun e => e))
                  clear hw8 x0 x1 x2 x3 x4 x5 xf)
                (
                  obtain ⟨e0, e1, e2, e3, e4, e5⟩ := HW8.out.six
                  have z0 := HW8.out.frozen 0
                  have z1 := HW8.out.frozen 1
                  have z2 := HW8.out.frozen 2
                  have z3 := HW8.out.frozen 3
                  have z4 := HW8.out.frozen 4
                  have z5 := HW8.out.frozen 5)
                go_wp2_with (
                  (go_at_call 86; refine (RErr_any g v W p3 r3 w8 HR8.out).mono ?_; rintro e wx ⟨rfl, rfl⟩))
                (
                  have hW9 := setN_whole (a := .int .i64 0) (b := .int .i64 0) (c := .int .i64 0) (d := .int .u32 0) (e := .slice none 0 0) (f := .int .i64 0) HW8.out
                  have hF9 := setN_fr w8 w.heap.size (.int .i64 0) (.int .i64 0) (.int .i64 0) (.int .u32 0) (.slice none 0 0) (.int .i64 0)
                  refine bodyPost_ret (v := .tuple #[.agg #[.int .i64 0, .int .i64 0, .int .i64 0, .int .u32 0, .slice none 0 0, .int .i64 0], .int .i64 21]) (results_cell_slot (p := 2) (u := 3) rfl _ _ _ _ _ _ rfl hW9 Tryz.underlying122 rfl (by kernel_rfl)) rfl ?_
                  rw [HR.out]
                  exact ⟨rfl, fun e => absurd e (by decide), Fr.trans HF8.out hF9 (fun i hi e => by omega)⟩))
              --E
          · have hb1' : decide ((12 : Int) ≤ P - v2) = false := by simpa using hb1
            rw [if_pos ⟨hr3, fun e => hb1 e.1⟩] at hR
            have HR := Lib.hid hR.symm
            clear hR hr3
            --L3
            (
              (
                go_upto_region 7 with fail
                go_quiet (fail)
                obtain ⟨w8, hw8⟩ : ∃ w8, w7.drewN nq = w8 := ⟨_, rfl⟩
                rw [hw8]
                have HF78 := Lib.hid (show Fr (fun _ => False) w7 w8 by rw [← hw8]; exact (Fr.refl _ w7).drewN nq)
                have HX8 := Lib.hid (HX7.out.fr HF78.out (fun e => e))
                have HR8 := Lib.hid (HR7.out.fr HF78.out (fun e => e) (fun _ _ e => e))
                have HF8 := Lib.hid (show Fr (fun j => j = g) w w8 from HF7.out.trans HF78.out (fun _ _ e => e.elim))
                have HW8 := Lib.hid (HW7.out.fr HF78.out (fun e => e))
                clear hw8 x0 x1 x2 x3 x4 x5 xf)
              (
                obtain ⟨e0, e1, e2, e3, e4, e5⟩ := HW8.out.six
                have z0 := HW8.out.frozen 0
                have z1 := HW8.out.frozen 1
                have z2 := HW8.out.frozen 2
                have z3 := HW8.out.frozen 3
                have z4 := HW8.out.frozen 4
                have z5 := HW8.out.frozen 5)
              go_wp2_with (
                (go_at_call 86; refine (RErr_any g v W p3 r3 w8 HR8.out).mono ?_; rintro e wx ⟨rfl, rfl⟩))
              (
                have hW9 := setN_whole (a := .int .i64 0) (b := .int .i64 0) (c := .int .i64 0) (d := .int .u32 0) (e := .slice none 0 0) (f := .int .i64 0) HW8.out
                have hF9 := setN_fr w8 w.heap.size (.int .i64 0) (.int .i64 0) (.int .i64 0) (.int .u32 0) (.slice none 0 0) (.int .i64 0)
                refine bodyPost_ret (v := .tuple #[.agg #[.int .i64 0, .int .i64 0, .int .i64 0, .int .u32 0, .slice none 0 0, .int .i64 0], .int .i64 21]) (results_cell_slot (p := 2) (u := 3) rfl _ _ _ _ _ _ rfl hW9 Tryz.underlying122 rfl (by kernel_rfl)) rfl ?_
                rw [HR.out]
                exact ⟨rfl, fun e => absurd e (by decide), Fr.trans HF8.out hF9 (fun i hi e => by omega)⟩))
            --E
        · have hr3' : (r3 == 0) = false := by simpa using hr3
          have hv0 := HVz.out hr3
          rw [if_neg (fun e => hr3 e.1), ← HKq.out] at hR
          have hb1 : (12 : Int) ≤ P - v2 := by omega
          have hb1' : decide ((12 : Int) ≤ P - v2) = true := by simpa using hb1
          have hb2' : decide (P - v2 < P) = false := by simp only [decide_eq_false_iff_not]; omega
          have HR3 := Lib.hid hr3
          clear hr3 hv0
          --L4
          (
            go_upto_region 7 with fail
            go_quiet (fail)
            obtain ⟨w8, hw8⟩ : ∃ w8, w7.drewN nq = w8 := ⟨_, rfl⟩
            rw [hw8]
            have HF78 := Lib.hid (show Fr (fun _ => False) w7 w8 by rw [← hw8]; exact (Fr.refl _ w7).drewN nq)
            have HX8 := Lib.hid (HX7.out.fr HF78.out (fun e => e))
            have HR8 := Lib.hid (HR7.out.fr HF78.out (fun e => e) (fun _ _ e => e))
            have HF8 := Lib.hid (show Fr (fun j => j = g) w w8 from HF7.out.trans HF78.out (fun _ _ e => e.elim))
            have HW8 := Lib.hid (HW7.out.fr HF78.out (fun e => e))
            clear hw8 x0 x1 x2 x3 x4 x5 xf)
          obtain ⟨x0, x1, x2, x3, x4, x5⟩ := HX8.out.six
          go_upto_region 10 with (
            (go_at_call 86; refine (RErr_any g v W p3 r3 w8 HR8.out).mono ?_; rintro e wx ⟨rfl, rfl⟩))
          (
            unfold headT at hR
            have HU := Lib.hid (RU32_any g v W p3 r3 w8 HR8.out)
            unfold RPost at HU
            have hs0 := numV_lt W p3 r3 4
            obtain ⟨s, hs⟩ : ∃ s, numV W p3 r3 4 = s := ⟨_, rfl⟩
            obtain ⟨p4, hp4⟩ : ∃ p4, stepAt W.length p3 r3 4 = p4 := ⟨_, rfl⟩
            obtain ⟨E4, hE4⟩ : ∃ E4, hasErr W.length p3 r3 4 = E4 := ⟨_, rfl⟩
            rw [hs] at HU hR hs0
            rw [hp4] at HU hR
            rw [hE4] at HU hR
            have HR := Lib.hid hR.symm
            clear hs hp4 hE4 hR
            go_upto_region 11 with (go_at_call 66; refine HU.out.mono ?_; rintro e wu ⟨rfl, qu, fu⟩; have HRu := Lib.hid qu; have HFu := Lib.hid fu; have HXu := Lib.hid (HX8.out.fr fu (fun e => by have := HXb.out; omega)); have yu := HXu.out.six.2.2.2.1; have yzu := HXu.out.frozen 3; clear qu fu)
            obtain ⟨wt, hwt⟩ : ∃ wt, wu.setCell ⟨xb, 3, none⟩ (.int .u32 s) = wt := ⟨_, rfl⟩
            rw [hwt]
            have HFut := Lib.hid (show Fr (fun j => j = xb) wu wt by subst hwt; exact Fr.setCell (S := fun j => j = xb) (p := ⟨xb, 3, none⟩) (Fr.refl _ wu) (fun _ => rfl) _)
            have HXt := Lib.hid (show Whole wt xb 122 #[.int .i64 (k : Int), .int .i64 (P - v2), .int .i64 v1, .int .u32 s, .slice none 0 0, .int .i64 0] by subst hwt; exact HXu.out.set 3 _)
            have HRt := Lib.hid (HRu.out.fr HFut.out (fun e => by have := HXb.out; omega) (fun k hk e => by have := HXb.out.2.2 k hk; omega))
            have HFt := Lib.hid (show Fr (fun j => j = g) w wt from (HF8.out.trans HFu.out (fun _ _ e => e)).trans HFut.out (fun i hi e => by have := HXb.out; omega))
            have HWt := Lib.hid ((HW8.out.fr HFu.out (fun e => by have := HGl.out; omega)).fr HFut.out (fun e => by have := HXb.out; omega))
            clear hwt x0 x1 x2 x3 x4 x5 yu yzu
            refine wp_region_held (S := fun w' => Fr (fun j => j = w.heap.size) wt w') (by kernel_rfl) ?_
            have HSq := Lib.hid (show Fr (fun j => j = w.heap.size) wt (World.drew wt) from (Fr.refl _ wt).drew)
            have HQc := Lib.hid (fun w' (f : Fr (fun j => j = w.heap.size) wt w') => (HXt.out.fr f (fun e => by have := HXb.out; omega)).six)
            (
              refine wpAnyH_takeP (i := 0) (v := .agg #[.int .i64 (k : Int), .int .i64 (P - v2), .int .i64 v1, .int .u32 s, .slice none 0 0, .int .i64 0]) 68 rfl rfl (by kernel_rfl) (by kernel_rfl) (by kernel_rfl) (fun _ _ _ h => h) (.inl ⟨by rfl, ?_⟩) HSq.out ?_
              · intro xw xf
                obtain ⟨c0, c1, c2, c3, c4, c5⟩ := HQc.out xw xf
                go_simp)
            (
              refine wpAnyH_takeP (i := 1) (v := .pointer (some ⟨g, 0, none⟩)) 69 rfl rfl (by kernel_rfl) (by kernel_rfl) (by kernel_rfl) (fun _ _ _ h => h) (.inl ⟨by rfl, ?_⟩) HSq.out ?_
              · intro xw xf
                go_simp)
            (
              refine wpAnyH_takeP (i := 2) (v := .pointer (some ⟨g, 0, none⟩)) 70 rfl rfl (by kernel_rfl) (by kernel_rfl) (by kernel_rfl) (fun _ _ _ h => h) (.inl ⟨by rfl, ?_⟩) HSq.out ?_
              · intro xw xf
                go_simp)
            (
              refine wpAnyH_takeP (i := 3) (v := .pointer (some ⟨g, 0, none⟩)) 71 rfl rfl (by kernel_rfl) (by kernel_rfl) (by kernel_rfl) (fun _ _ _ h => h) (.inl ⟨by rfl, ?_⟩) HSq.out ?_
              · intro xw xf
                go_simp)
            change wpAnyH _ _ _ _ _ _ _ _ (World.drew wt)
            have HFd := Lib.hid (show Fr (fun _ => False) wt (World.drew wt) from (Fr.refl _ wt).drew)
            obtain ⟨wd, hwd⟩ : ∃ wd, World.drew wt = wd := ⟨_, rfl⟩
            rw [hwd]
            rw [hwd] at HFd
            clear hwd HSq
            have HRd := Lib.hid (HRt.out.fr HFd.out (fun e => e) (fun _ _ e => e))
            have HWd := Lib.hid (HWt.out.fr HFd.out (fun e => e))
            have HFwd := Lib.hid (show Fr (fun j => j = g) w wd from HFt.out.trans HFd.out (fun _ _ e => e.elim))
            (
              try simp only [List.setIfInBounds_toArray, List.set_cons_succ, List.set_cons_zero]
              refine wpAnyH_all (rs := [4]) (by kernel_rfl) (by simp) ?_
              intro i hi
              simp only [List.mem_cons, List.not_mem_nil, or_false] at hi
              subst hi)
            refine wpOp_step rfl (fun K hK => ?_)
            go_simp
            go_wp2_with (go_at_call 86; refine (RErr_any g v W p4 E4 wd HRd.out).mono ?_; rintro e wx ⟨rfl, rfl⟩)
            refine ⟨HFd.out.mono (fun _ _ e => e.elim), ?_⟩
            (
              obtain ⟨e0, e1, e2, e3, e4, e5⟩ := HWd.out.six
              have z0 := HWd.out.frozen 0
              have z1 := HWd.out.frozen 1
              have z2 := HWd.out.frozen 2
              have z3 := HWd.out.frozen 3
              have z4 := HWd.out.frozen 4
              have z5 := HWd.out.frozen 5)
            have HSs := Lib.hid (show Fr (fun j => j = w.heap.size) wt ((((((wd.setCell ⟨w.heap.size, 0, none⟩ (.int .i64 (k : Int))).setCell ⟨w.heap.size, 1, none⟩ (.int .i64 (P - v2))).setCell ⟨w.heap.size, 2, none⟩ (.int .i64 v1)).setCell ⟨w.heap.size, 3, none⟩ (.int .u32 s)).setCell ⟨w.heap.size, 4, none⟩ (.slice none 0 0)).setCell ⟨w.heap.size, 5, none⟩ (.int .i64 0)) from (HFd.out.mono (fun _ _ e => e.elim)).trans (setN_fr wd w.heap.size _ _ _ _ _ _) (fun _ _ e => e))
            (
              try simp only [List.setIfInBounds_toArray, List.set_cons_succ, List.set_cons_zero]
              refine wpAnyH_all (rs := [5]) (by kernel_rfl) (by simp) ?_
              intro i hi
              simp only [List.mem_cons, List.not_mem_nil, or_false] at hi
              subst hi)
            refine wpOp_step rfl (fun K hK => ?_)
            go_simp
            refine hK _ _ ⟨HSs.out, ?_⟩
            clear hK K
            (
              try simp only [List.setIfInBounds_toArray, List.set_cons_succ, List.set_cons_zero]
              refine wpAnyH_all (rs := [6]) (by kernel_rfl) (by simp) ?_
              intro i hi
              simp only [List.mem_cons, List.not_mem_nil, or_false] at hi
              subst hi)
            refine wpOp_step rfl (fun K hK => ?_)
            go_simp
            refine hK _ _ ⟨HSs.out, ?_⟩
            clear hK K
            refine wpAnyH_done (by kernel_rfl) ?_ _
            go_wp2_with fail
            have hW9 := setN_whole (a := .int .i64 (k : Int)) (b := .int .i64 (P - v2)) (c := .int .i64 v1) (d := .int .u32 s) (e := .slice none 0 0) (f := .int .i64 0) HWd.out
            have hF9 := setN_fr wd w.heap.size (.int .i64 (k : Int)) (.int .i64 (P - v2)) (.int .i64 v1) (.int .u32 s) (.slice none 0 0) (.int .i64 0)
            refine bodyPost_ret (v := .tuple #[.agg #[.int .i64 (k : Int), .int .i64 (P - v2), .int .i64 v1, .int .u32 s, .slice none 0 0, .int .i64 0], .int .i64 E4]) (results_cell_slot (p := 2) (u := 3) rfl _ _ _ _ _ _ rfl hW9 Tryz.underlying122 rfl (by kernel_rfl)) rfl ?_
            rw [HR.out]
            refine ⟨rfl, fun e => ?_, Fr.trans HFwd.out hF9 (fun i hi e => by omega)⟩
            have e : E4 = 0 := e
            have h9 := HRd.out.fr hF9 (fun e => by have := HGl.out; omega) (fun k hk e => by have := HGo.out k hk; omega)
            rw [e] at h9
            exact h9)
          --E
      · rw [if_neg hkq] at hR
        have hkq' : ((k : Int) == 5) = false := by simpa using hkq
        --L5
        go_upto_region 10 with fail
        (
          unfold headT at hR
          have HU := Lib.hid (RU32_any g v W p2 r2 w5 HR5.out)
          unfold RPost at HU
          have hs0 := numV_lt W p2 r2 4
          obtain ⟨s, hs⟩ : ∃ s, numV W p2 r2 4 = s := ⟨_, rfl⟩
          obtain ⟨p4, hp4⟩ : ∃ p4, stepAt W.length p2 r2 4 = p4 := ⟨_, rfl⟩
          obtain ⟨E4, hE4⟩ : ∃ E4, hasErr W.length p2 r2 4 = E4 := ⟨_, rfl⟩
          rw [hs] at HU hR hs0
          rw [hp4] at HU hR
          rw [hE4] at HU hR
          have HR := Lib.hid hR.symm
          clear hs hp4 hE4 hR
          go_upto_region 11 with (go_at_call 66; refine HU.out.mono ?_; rintro e wu ⟨rfl, qu, fu⟩; have HRu := Lib.hid qu; have HFu := Lib.hid fu; have HXu := Lib.hid (HX5.out.fr fu (fun e => by have := HXb.out; omega)); have yu := HXu.out.six.2.2.2.1; have yzu := HXu.out.frozen 3; clear qu fu)
          obtain ⟨wt, hwt⟩ : ∃ wt, wu.setCell ⟨xb, 3, none⟩ (.int .u32 s) = wt := ⟨_, rfl⟩
          rw [hwt]
          have HFut := Lib.hid (show Fr (fun j => j = xb) wu wt by subst hwt; exact Fr.setCell (S := fun j => j = xb) (p := ⟨xb, 3, none⟩) (Fr.refl _ wu) (fun _ => rfl) _)
          have HXt := Lib.hid (show Whole wt xb 122 #[.int .i64 (k : Int), .int .i64 0, .int .i64 v1, .int .u32 s, .slice none 0 0, .int .i64 0] by subst hwt; exact HXu.out.set 3 _)
          have HRt := Lib.hid (HRu.out.fr HFut.out (fun e => by have := HXb.out; omega) (fun k hk e => by have := HXb.out.2.2 k hk; omega))
          have HFt := Lib.hid (show Fr (fun j => j = g) w wt from (HF5.out.trans HFu.out (fun _ _ e => e)).trans HFut.out (fun i hi e => by have := HXb.out; omega))
          have HWt := Lib.hid ((HW5.out.fr HFu.out (fun e => by have := HGl.out; omega)).fr HFut.out (fun e => by have := HXb.out; omega))
          clear hwt x0 x1 x2 x3 x4 x5 yu yzu
          refine wp_region_held (S := fun w' => Fr (fun j => j = w.heap.size) wt w') (by kernel_rfl) ?_
          have HSq := Lib.hid (show Fr (fun j => j = w.heap.size) wt (World.drew wt) from (Fr.refl _ wt).drew)
          have HQc := Lib.hid (fun w' (f : Fr (fun j => j = w.heap.size) wt w') => (HXt.out.fr f (fun e => by have := HXb.out; omega)).six)
          (
            refine wpAnyH_takeP (i := 0) (v := .agg #[.int .i64 (k : Int), .int .i64 0, .int .i64 v1, .int .u32 s, .slice none 0 0, .int .i64 0]) 68 rfl rfl (by kernel_rfl) (by kernel_rfl) (by kernel_rfl) (fun _ _ _ h => h) (.inl ⟨by rfl, ?_⟩) HSq.out ?_
            · intro xw xf
              obtain ⟨c0, c1, c2, c3, c4, c5⟩ := HQc.out xw xf
              go_simp)
          (
            refine wpAnyH_takeP (i := 1) (v := .pointer (some ⟨g, 0, none⟩)) 69 rfl rfl (by kernel_rfl) (by kernel_rfl) (by kernel_rfl) (fun _ _ _ h => h) (.inl ⟨by rfl, ?_⟩) HSq.out ?_
            · intro xw xf
              go_simp)
          (
            refine wpAnyH_takeP (i := 2) (v := .pointer (some ⟨g, 0, none⟩)) 70 rfl rfl (by kernel_rfl) (by kernel_rfl) (by kernel_rfl) (fun _ _ _ h => h) (.inl ⟨by rfl, ?_⟩) HSq.out ?_
            · intro xw xf
              go_simp)
          (
            refine wpAnyH_takeP (i := 3) (v := .pointer (some ⟨g, 0, none⟩)) 71 rfl rfl (by kernel_rfl) (by kernel_rfl) (by kernel_rfl) (fun _ _ _ h => h) (.inl ⟨by rfl, ?_⟩) HSq.out ?_
            · intro xw xf
              go_simp)
          change wpAnyH _ _ _ _ _ _ _ _ (World.drew wt)
          have HFd := Lib.hid (show Fr (fun _ => False) wt (World.drew wt) from (Fr.refl _ wt).drew)
          obtain ⟨wd, hwd⟩ : ∃ wd, World.drew wt = wd := ⟨_, rfl⟩
          rw [hwd]
          rw [hwd] at HFd
          clear hwd HSq
          have HRd := Lib.hid (HRt.out.fr HFd.out (fun e => e) (fun _ _ e => e))
          have HWd := Lib.hid (HWt.out.fr HFd.out (fun e => e))
          have HFwd := Lib.hid (show Fr (fun j => j = g) w wd from HFt.out.trans HFd.out (fun _ _ e => e.elim))
          (
            try simp only [List.setIfInBounds_toArray, List.set_cons_succ, List.set_cons_zero]
            refine wpAnyH_all (rs := [4]) (by kernel_rfl) (by simp) ?_
            intro i hi
            simp only [List.mem_cons, List.not_mem_nil, or_false] at hi
            subst hi)
          refine wpOp_step rfl (fun K hK => ?_)
          go_simp
          go_wp2_with (go_at_call 86; refine (RErr_any g v W p4 E4 wd HRd.out).mono ?_; rintro e wx ⟨rfl, rfl⟩)
          refine ⟨HFd.out.mono (fun _ _ e => e.elim), ?_⟩
          (
            obtain ⟨e0, e1, e2, e3, e4, e5⟩ := HWd.out.six
            have z0 := HWd.out.frozen 0
            have z1 := HWd.out.frozen 1
            have z2 := HWd.out.frozen 2
            have z3 := HWd.out.frozen 3
            have z4 := HWd.out.frozen 4
            have z5 := HWd.out.frozen 5)
          have HSs := Lib.hid (show Fr (fun j => j = w.heap.size) wt ((((((wd.setCell ⟨w.heap.size, 0, none⟩ (.int .i64 (k : Int))).setCell ⟨w.heap.size, 1, none⟩ (.int .i64 0)).setCell ⟨w.heap.size, 2, none⟩ (.int .i64 v1)).setCell ⟨w.heap.size, 3, none⟩ (.int .u32 s)).setCell ⟨w.heap.size, 4, none⟩ (.slice none 0 0)).setCell ⟨w.heap.size, 5, none⟩ (.int .i64 0)) from (HFd.out.mono (fun _ _ e => e.elim)).trans (setN_fr wd w.heap.size _ _ _ _ _ _) (fun _ _ e => e))
          (
            try simp only [List.setIfInBounds_toArray, List.set_cons_succ, List.set_cons_zero]
            refine wpAnyH_all (rs := [5]) (by kernel_rfl) (by simp) ?_
            intro i hi
            simp only [List.mem_cons, List.not_mem_nil, or_false] at hi
            subst hi)
          refine wpOp_step rfl (fun K hK => ?_)
          go_simp
          refine hK _ _ ⟨HSs.out, ?_⟩
          clear hK K
          (
            try simp only [List.setIfInBounds_toArray, List.set_cons_succ, List.set_cons_zero]
            refine wpAnyH_all (rs := [6]) (by kernel_rfl) (by simp) ?_
            intro i hi
            simp only [List.mem_cons, List.not_mem_nil, or_false] at hi
            subst hi)
          refine wpOp_step rfl (fun K hK => ?_)
          go_simp
          refine hK _ _ ⟨HSs.out, ?_⟩
          clear hK K
          refine wpAnyH_done (by kernel_rfl) ?_ _
          go_wp2_with fail
          have hW9 := setN_whole (a := .int .i64 (k : Int)) (b := .int .i64 0) (c := .int .i64 v1) (d := .int .u32 s) (e := .slice none 0 0) (f := .int .i64 0) HWd.out
          have hF9 := setN_fr wd w.heap.size (.int .i64 (k : Int)) (.int .i64 0) (.int .i64 v1) (.int .u32 s) (.slice none 0 0) (.int .i64 0)
          refine bodyPost_ret (v := .tuple #[.agg #[.int .i64 (k : Int), .int .i64 0, .int .i64 v1, .int .u32 s, .slice none 0 0, .int .i64 0], .int .i64 E4]) (results_cell_slot (p := 2) (u := 3) rfl _ _ _ _ _ _ rfl hW9 Tryz.underlying122 rfl (by kernel_rfl)) rfl ?_
          rw [HR.out]
          refine ⟨rfl, fun e => ?_, Fr.trans HFwd.out hF9 (fun i hi e => by omega)⟩
          have e : E4 = 0 := e
          have h9 := HRd.out.fr hF9 (fun e => by have := HGl.out; omega) (fun k hk e => by have := HGo.out k hk; omega)
          rw [e] at h9
          exact h9)
        --E
end Go.Proofs.YtkaeoflgnnlbeaaGreatDoor
/- What is proved: an entry, by the program's reader. Conditions: the reader is the caller's, at its beginning, over at least one byte. -/
namespace Go.Proofs.YtkaeoflgnnlbeaaGreatDoor
open Go.RowKit
set_option linter.unusedVariables false

/-- What entry tells. -/
def EnPost (w : World) (g : Nat) (R : EntR) (e : Ending) (w' : World) : Prop :=
  ∃ A c sz, e = .returned (.tuple #[.agg #[.int .i64 R.1.1, .int .i64 R.1.2.1, .int .i64 sz, .int .u32 R.1.2.2.2.1, .slice A R.1.2.2.2.2.length c, .int .i64 R.1.2.2.1], .int .i64 R.2]) ∧ w'.ownsRow w.heap.size 5 1 (.slice A R.1.2.2.2.2.length c) R.1.2.2.2.2.length (bytesV R.1.2.2.2.2) ∧ RFr g w w'
theorem parts1 (w : World) (p : List UInt8) (A : Option Addr) (c N : Nat) (hp : p.length = N) (h1 : N ≤ c) (ha : Lies w A (bytesV p)) :
    Parts (w.alloc (.cells #[.slice A N c] 25)) (some ⟨w.heap.size, 0, none⟩) [p] := by
  refine .inr ⟨w.heap.size, 0, rfl, fun i q hi => ?_⟩
  have hf : Fr (fun _ => False) w (w.alloc (.cells #[.slice A N c] 25)) := (Fr.refl _ w).alloc _
  rw [Nat.zero_add, (Whole.new w 25 #[.slice A N c]).cell]
  match i, hi with
  | 0, hi => injection hi with hi; subst hi; exact ⟨_, _, by rw [hp]; rfl, by rw [hp]; exact h1, ha.fr hf (fun _ _ e => e)⟩
set_option maxHeartbeats 12800000 in
set_option maxRecDepth 100000 in
theorem PREntry_any (g : Nat) (v : Value) (W : List UInt8) (P : Int) (ml : Bool) (hP : 12 ≤ P ∧ P ≤ 140737488355328) (hW : 0 < W.length) (w : World) (h : Rd (some P) w g v W 0 0) :
    Calls Tryz.prog 56 #[.pointer (some ⟨g, 0, none⟩), .bool ml] w (EnPost w g (entW W P ml)) := by
  obtain ⟨R, hR⟩ : ∃ R, entW W P ml = R := ⟨_, rfl⟩
  rw [hR]
  rw [entW_head] at hR
  have HH := Lib.hid (fun w' (q : Rd (some P) w' g v W 0 0) => PRhead_any g v W P hP hW w' q)
  have hpr := headW_props W P
  unfold HdPost at HH
  obtain ⟨⟨⟨k, ba, sz, sm⟩, p4, E4⟩, hhd⟩ : ∃ z, headW W P = z := ⟨_, rfl⟩
  rw [hhd] at HH hR hpr
  unfold entE at hR
  simp only at HH hR hpr
  obtain ⟨hs0, hs1, hm0, hm1⟩ := hpr
  clear hhd
  obtain ⟨w1, hw1⟩ : ∃ w1, w.alloc (.cells #[.int .i64 0, .int .i64 0, .int .i64 0, .int .u32 0, .slice none 0 0, .int .i64 0] 122) = w1 := ⟨_, rfl⟩
  have HF01 := Lib.hid (show Fr (fun _ => False) w w1 by subst hw1; exact (Fr.refl _ _).alloc _)
  have HW1 := Lib.hid (show Whole w1 w.heap.size 122 #[.int .i64 0, .int .i64 0, .int .i64 0, .int .u32 0, .slice none 0 0, .int .i64 0] by subst hw1; exact Whole.new _ _ _)
  have HS1 := Lib.hid (show w1.heap.size = w.heap.size + 1 by subst hw1; simp)
  have HR1 := Lib.hid (h.fr HF01.out (fun e => e) (fun _ _ e => e))
  have HGl := Lib.hid (show g < w.heap.size from h.whole.lt)
  have HGo := Lib.hid (show ∀ k, v.ownBlock = some k → k < w.heap.size from fun k hk => (World.ownsRow.lt h.own k hk).2)
  have hWs := h.small
  obtain ⟨hP0, hP1⟩ := hP
  clear h hW
  go_enter Tryz.func56, Tryz.ntmps56
  go_upto_region 2 with (go_at_call 85; refine (HH.out w1 HR1.out).mono ?_; rintro e w2 ⟨rfl, q2, f2⟩; have HR2 := Lib.hid q2; have HF2 := Lib.hid f2; clear q2 f2)
  obtain ⟨w3, hw3⟩ : ∃ w3, w2.alloc (.cells #[.int .i64 k, .int .i64 ba, .int .i64 sz, .int .u32 sm, .slice none 0 0, .int .i64 0] 122) = w3 := ⟨_, rfl⟩
  rw [hw3]
  have HF23 := Lib.hid (show Fr (fun _ => False) w2 w3 by subst hw3; exact (Fr.refl _ _).alloc _)
  have HX3 := Lib.hid (show Whole w3 w2.heap.size 122 #[.int .i64 k, .int .i64 ba, .int .i64 sz, .int .u32 sm, .slice none 0 0, .int .i64 0] by subst hw3; exact Whole.new _ _ _)
  obtain ⟨xb, hxb⟩ : ∃ xb, w2.heap.size = xb := ⟨_, rfl⟩
  have HXb := Lib.hid (show w.heap.size < xb ∧ g < xb ∧ (∀ k, v.ownBlock = some k → k < xb) ∧ xb < w3.heap.size from by
    have h1 := Fr.size HF2.out
    have h2 := HS1.out
    have h3 := HGl.out
    have h4 := HX3.out.lt
    exact ⟨by omega, by omega, fun k hk => by have := HGo.out k hk; omega, by omega⟩)
  rw [hxb] at HX3 ⊢
  have HF13 := Lib.hid (show Fr (fun j => j = g) w1 w3 from Fr.trans HF2.out HF23.out (fun _ _ e => e.elim))
  have HW3 := Lib.hid (HW1.out.fr HF13.out (fun e => by have := HGl.out; omega))
  have HF3 := Lib.hid (show Fr (fun j => j = g) w w3 from (HF01.out.mono (fun _ _ e => e.elim)).trans HF13.out (fun _ _ e => e))
  clear hw1 hw3 hxb
  by_cases hE : E4 = 0
  · subst hE
    rw [if_neg (by simp)] at hR
    have HR3 := Lib.hid ((HR2.out rfl).fr HF23.out (fun e => e) (fun _ _ e => e))
    obtain ⟨x0, x1, x2, x3, x4, x5⟩ := HX3.out.six
    by_cases hd : k = 5 ∧ ml = false
    · rw [if_pos hd] at hR
      have HR := Lib.hid hR.symm
      obtain ⟨hk5, rfl⟩ := hd
      have hkq : (k == 5) = true := by simpa using hk5
      clear hR hk5
      (
        obtain ⟨e0, e1, e2, e3, e4, e5⟩ := HW3.out.six
        have z0 := HW3.out.frozen 0
        have z1 := HW3.out.frozen 1
        have z2 := HW3.out.frozen 2
        have z3 := HW3.out.frozen 3
        have z4 := HW3.out.frozen 4
        have z5 := HW3.out.frozen 5)
      go_wp2_with fail
      (
        have hW9 := setN_whole (a := .int .i64 0) (b := .int .i64 0) (c := .int .i64 0) (d := .int .u32 0) (e := .slice none 0 0) (f := .int .i64 0) HW3.out
        have hF9 := setN_fr w3 w.heap.size (.int .i64 0) (.int .i64 0) (.int .i64 0) (.int .u32 0) (.slice none 0 0) (.int .i64 0)
        refine bodyPost_ret (v := .tuple #[.agg #[.int .i64 0, .int .i64 0, .int .i64 0, .int .u32 0, .slice none 0 0, .int .i64 0], .int .i64 20]) (results_cell_slot (p := 4) (u := 5) rfl _ _ _ _ _ _ rfl hW9 Tryz.underlying122 rfl (by kernel_rfl)) rfl ?_
        rw [HR.out]
        exact ⟨none, 0, 0, rfl, World.ownsRow_nil _ _ _ _, Fr.trans HF3.out hF9 (fun i hi e => by omega)⟩)
    · rw [if_neg hd] at hR
      have HKm : Hid ((k == 5) = false ∨ (k == 5) = true ∧ ml = true) := Lib.hid (by
        by_cases hk : k = 5
        · right; exact ⟨by simpa using hk, by cases ml; exact absurd ⟨hk, rfl⟩ hd; rfl⟩
        · left; simpa using hk)
      clear hd
      have HRw := Lib.hid (fun w' (q : Rd (some P) w' g v W p4 0) => RRaw_any g v W p4 0 sz w' q (by omega) (by omega))
      unfold RawPost at HRw
      obtain ⟨ld, hld⟩ : ∃ ld, rawB W p4 0 sz = ld := ⟨_, rfl⟩
      obtain ⟨p5, hp5⟩ : ∃ p5, rawAt W.length p4 0 sz = p5 := ⟨_, rfl⟩
      obtain ⟨r5, hr5⟩ : ∃ r5, rawErr W.length p4 0 sz = r5 := ⟨_, rfl⟩
      rw [hld, hp5, hr5] at hR
      simp only [hld, hp5, hr5] at HRw
      obtain ⟨LL, hLL⟩ : ∃ LL, ld.length = LL := ⟨_, rfl⟩
      have HLL := Lib.hid hLL
      simp only [hLL] at HRw
      have HLm : LL ≤ 4000 := by rw [← hLL, ← hld]; have := rawB_len W p4 0 sz.toNat; rw [Int.toNat_of_nonneg hs0] at this; omega
      clear hld hp5 hr5 hLL
      rcases HKm.out with hkq | ⟨hkq, hml⟩
      all_goals try subst hml
      all_goals
        go_upto_region 6 with fail
        refine wp_region_held (S := fun w' => w'.cell? ⟨xb, 2, none⟩ = some (.int .i64 sz)) (by kernel_rfl) ?_
        have HSq := Lib.hid (show (World.drew w3).cell? ⟨xb, 2, none⟩ = some (.int .i64 sz) from x2)
        (
          refine wpAnyH_takeP (i := 0) (v := .pointer (some ⟨g, 0, none⟩)) 26 rfl rfl (by kernel_rfl) (by kernel_rfl) (by kernel_rfl) (fun _ _ _ h => h) (.inl ⟨by rfl, ?_⟩) HSq.out ?_
          · intro xw xf
            go_simp)
        (
          refine wpAnyH_takeP (i := 1) (v := .pointer (some ⟨g, 0, none⟩)) 27 rfl rfl (by kernel_rfl) (by kernel_rfl) (by kernel_rfl) (fun _ _ _ h => h) (.inl ⟨by rfl, ?_⟩) HSq.out ?_
          · intro xw xf
            go_simp)
        (
          refine wpAnyH_takeP (i := 2) (v := .pointer (some ⟨g, 0, none⟩)) 28 rfl rfl (by kernel_rfl) (by kernel_rfl) (by kernel_rfl) (fun _ _ _ h => h) (.inl ⟨by rfl, ?_⟩) HSq.out ?_
          · intro xw xf
            go_simp)
        (
          refine wpAnyH_takeP (i := 3) (v := .pointer (some ⟨xb, 2, none⟩)) 29 rfl rfl (by kernel_rfl) (by kernel_rfl) (by kernel_rfl) (fun _ _ _ h => h) (.inl ⟨by rfl, ?_⟩) HSq.out ?_
          · intro xw xf
            go_simp)
        (
          refine wpAnyH_takeP (i := 4) (v := .int .i64 sz) 30 rfl rfl (by kernel_rfl) (by kernel_rfl) (by kernel_rfl) (fun _ _ _ h => h) (.inl ⟨by rfl, ?_⟩) HSq.out ?_
          · intro xw xf
            go_simp)
        change wpAnyH _ _ _ _ _ _ _ _ (World.drew w3)
        have HFd := Lib.hid (show Fr (fun _ => False) w3 (World.drew w3) from (Fr.refl _ w3).drew)
        obtain ⟨wd, hwd⟩ : ∃ wd, World.drew w3 = wd := ⟨_, rfl⟩
        rw [hwd]
        rw [hwd] at HFd
        clear hwd HSq x0 x1 x2 x3 x4 x5
        have HRd := Lib.hid (HR3.out.fr HFd.out (fun e => e) (fun _ _ e => e))
        (
          try simp only [List.setIfInBounds_toArray, List.set_cons_succ, List.set_cons_zero]
          refine wpAnyH_all (rs := [5]) (by kernel_rfl) (by simp) ?_
          intro i hi
          simp only [List.mem_cons, List.not_mem_nil, or_false] at hi
          subst hi)
        refine wpOp_step rfl (fun K hK => ?_)
        go_simp
        go_wp2_with (go_at_call 65; refine (HRw.out wd HRd.out).mono ?_; rintro e w4 ⟨v4, rfl, o4, q4, f4⟩; have HR4 := Lib.hid q4; have HF4 := Lib.hid (show Fr (fun j => j = g) w3 w4 from (HFd.out.mono (fun _ _ e => e.elim)).trans f4 (fun _ _ e => e)); have HO4 := Lib.hid (own_down o4 HFd.out.size); obtain ⟨A4, c4, hv4, hk4, hm4⟩ := own_slice o4; subst hv4; have HK4 := Lib.hid hk4; have HX4 := Lib.hid (HX3.out.fr HF4.out (fun e => by have := HXb.out; omega)); clear o4 q4 f4 hk4 hm4)
        refine ⟨HX4.out.six.2.2.1, ?_⟩
        have HSq := Lib.hid (show w4.cell? ⟨xb, 2, none⟩ = some (.int .i64 sz) from HX4.out.six.2.2.1)
        (
          refine wpAnyH_takeP (i := 6) (v := .pointer (some ⟨xb, 4, none⟩)) 32 rfl rfl (by kernel_rfl) (by kernel_rfl) (by kernel_rfl) (fun _ _ _ h => h) (.inl ⟨by rfl, ?_⟩) HSq.out ?_
          · intro xw xf
            go_simp)
        clear HSq
        obtain ⟨x0, x1, x2, x3, x4, x5⟩ := HX4.out.six
        have zx4 := HX4.out.frozen 4
        have HFs := Lib.hid (show Fr (fun j => j = xb) w4 (w4.setCell ⟨xb, 4, none⟩ (.slice A4 LL c4)) from Fr.setCell (S := fun j => j = xb) (p := ⟨xb, 4, none⟩) (Fr.refl _ w4) (fun _ => rfl) _)
        have HXs := Lib.hid (show Whole (w4.setCell ⟨xb, 4, none⟩ (.slice A4 LL c4)) xb 122 #[.int .i64 k, .int .i64 ba, .int .i64 sz, .int .u32 sm, .slice A4 LL c4, .int .i64 0] from HX4.out.set 4 _)
        (
          try simp only [List.setIfInBounds_toArray, List.set_cons_succ, List.set_cons_zero]
          refine wpAnyH_all (rs := [7]) (by kernel_rfl) (by simp) ?_
          intro i hi
          simp only [List.mem_cons, List.not_mem_nil, or_false] at hi
          subst hi)
        refine wpOp_step rfl (fun K hK => ?_)
        go_simp
        refine hK _ _ ⟨HXs.out.six.2.2.1, ?_⟩
        clear hK K
        refine wpAnyH_done (by kernel_rfl) ?_ _
        obtain ⟨w5, hw5⟩ : ∃ w5, w4.setCell ⟨xb, 4, none⟩ (.slice A4 LL c4) = w5 := ⟨_, rfl⟩
        rw [hw5] at HFs HXs ⊢
        have HR5 := Lib.hid (HR4.out.fr HFs.out (fun e => by have := HXb.out; omega) (fun k hk e => by have := HXb.out.2.2.1 k hk; omega))
        have HF35 := Lib.hid (show Fr (fun j => j = g ∨ j = xb) w3 w5 from (HF4.out.mono (fun _ _ e => .inl e)).trans HFs.out (fun _ _ e => .inr e))
        have HF5 := Lib.hid (show Fr (fun j => j = g) w w5 from HF3.out.trans HF35.out (fun i hi e => by have := HXb.out; omega))
        have HW5 := Lib.hid (HW3.out.fr HF35.out (fun e => by have := HXb.out; have := HGl.out; omega))
        have HO5 := Lib.hid (own_fr HO4.out HFs.out (fun j hj e => by have := (World.ownsRow.lt HO4.out j hj).1; have := HXb.out; omega))
        clear hw5 x0 x1 x2 x3 x4 x5 zx4
        obtain ⟨x0, x1, x2, x3, x4, x5⟩ := HXs.out.six
        by_cases hr : r5 = 0
        · subst hr
          have hR2 := hR
          rw [if_neg (by simp)] at hR2
          obtain ⟨X, hX⟩ : ∃ X, crcI ld = X := ⟨_, rfl⟩
          rw [hX] at hR2
          go_upto_region 10 with (go_at_call 86; refine (RErr_any g v W p5 0 w5 HR5.out).mono ?_; rintro e wx ⟨rfl, rfl⟩)
          have HLz := Lib.hid (show Lies w5 A4 (bytesV ld) from Lies.of_own HO5.out)
          refine wp_region_held (S := fun w' => Fr (fun _ => False) w5 w') (by kernel_rfl) ?_
          have HSq := Lib.hid (show Fr (fun _ => False) w5 (World.drew w5) from (Fr.refl _ w5).drew)
          have HQ4 := Lib.hid (fun w' (f : Fr (fun _ => False) w5 w') => (HXs.out.fr f (fun e => e)).six.2.2.2.2.1)
          have HQ3 := Lib.hid (fun w' (f : Fr (fun _ => False) w5 w') => (HXs.out.fr f (fun e => e)).six.2.2.2.1)
          (
            refine wpAnyH_takeP (i := 0) (v := .pointer (some ⟨xb, 4, none⟩)) 41 rfl rfl (by kernel_rfl) (by kernel_rfl) (by kernel_rfl) (fun _ _ _ h => h) (.inl ⟨by rfl, ?_⟩) HSq.out ?_
            · intro xw xf
              go_simp)
          (
            refine wpAnyH_takeP (i := 1) (v := .slice A4 LL c4) 42 rfl rfl (by kernel_rfl) (by kernel_rfl) (by kernel_rfl) (fun _ _ _ h => h) (.inl ⟨by rfl, ?_⟩) HSq.out ?_
            · intro xw xf
              have xc := HQ4.out xw xf
              go_simp)
          (
            refine wpAnyH_takeP (i := 4) (v := .pointer (some ⟨xb, 3, none⟩)) 45 rfl rfl (by kernel_rfl) (by kernel_rfl) (by kernel_rfl) (fun _ _ _ h => h) (.inl ⟨by rfl, ?_⟩) HSq.out ?_
            · intro xw xf
              go_simp)
          (
            refine wpAnyH_takeP (i := 5) (v := .int .u32 sm) 46 rfl rfl (by kernel_rfl) (by kernel_rfl) (by kernel_rfl) (fun _ _ _ h => h) (.inl ⟨by rfl, ?_⟩) HSq.out ?_
            · intro xw xf
              have xc := HQ3.out xw xf
              go_simp)
          change wpAnyH _ _ _ _ _ _ _ _ (World.drew w5)
          have HFe := Lib.hid (show Fr (fun _ => False) w5 (World.drew w5) from (Fr.refl _ w5).drew)
          obtain ⟨we, hwe⟩ : ∃ we, World.drew w5 = we := ⟨_, rfl⟩
          rw [hwe]
          rw [hwe] at HFe
          clear hwe HSq x0 x1 x2 x3 x4 x5
          (
            try simp only [List.setIfInBounds_toArray, List.set_cons_succ, List.set_cons_zero]
            refine wpAnyH_all (rs := [2]) (by kernel_rfl) (by simp) ?_
            intro i hi
            simp only [List.mem_cons, List.not_mem_nil, or_false] at hi
            subst hi)
          refine wpOp_step rfl (fun K hK => ?_)
          go_simp
          obtain ⟨wa, hwa⟩ : ∃ wa, we.alloc (.cells #[.slice A4 LL c4] 25) = wa := ⟨_, rfl⟩
          rw [hwa]
          have HFa := Lib.hid (show Fr (fun _ => False) w5 wa by subst hwa; exact HFe.out.alloc _)
          have HPa := Lib.hid (show Parts wa (some ⟨we.heap.size, 0, none⟩) [ld] by subst hwa; exact parts1 we ld A4 c4 LL HLL.out HK4.out (HLz.out.fr HFe.out (fun _ _ e => e)))
          obtain ⟨ab, hab⟩ : ∃ ab, we.heap.size = ab := ⟨_, rfl⟩
          rw [hab] at HPa ⊢
          refine hK _ _ ⟨HFa.out, ?_⟩
          clear hK K hwa hab
          have HCo := Lib.hid (by
            have h1 := COf_any (some ⟨ab, 0, none⟩) 1 [ld] wa HPa.out (by show 1 ≤ 9223372036854775807; decide) (by simp; have := HLL.out; have := HLm; omega)
            simp only [List.flatten_cons, List.flatten_nil, List.append_nil] at h1
            exact h1 : Calls Tryz.prog 49 #[.slice (some ⟨ab, 0, none⟩) 1 1] wa fun e w' => e = .returned (.int .u32 (rI (more 0#32 ld))) ∧ Below wa.heap.size wa w')
          have hX2 : rI (more 0#32 ld) = X := hX
          rw [hX2] at HCo
          clear hX hX2
          (
            try simp only [List.setIfInBounds_toArray, List.set_cons_succ, List.set_cons_zero]
            refine wpAnyH_all (rs := [3]) (by kernel_rfl) (by simp) ?_
            intro i hi
            simp only [List.mem_cons, List.not_mem_nil, or_false] at hi
            subst hi)
          refine wpOp_step rfl (fun K hK => ?_)
          go_simp
          go_wp2_with (go_at_call 49; refine HCo.out.mono ?_; rintro e wc ⟨rfl, bc⟩; have HFc := Lib.hid (HFa.out.then_below bc); clear bc)
          refine ⟨HFc.out, ?_⟩
          have HSq := HFc
          have HX6 := Lib.hid (HXs.out.fr HFc.out (fun e => e))
          have HR6 := Lib.hid (HR5.out.fr HFc.out (fun e => e) (fun _ _ e => e))
          have HW6 := Lib.hid (HW5.out.fr HFc.out (fun e => e))
          have HO6 := Lib.hid (own_fr HO5.out HFc.out (fun _ _ e => e))
          have HF6 := Lib.hid (show Fr (fun j => j = g) w wc from HF5.out.trans HFc.out (fun _ _ e => e.elim))
          by_cases hx : X = sm
          · have hx' : (X != sm) = false := by simpa using hx
            rw [if_neg (fun e => e hx)] at hR2
            have HR := Lib.hid hR2.symm
            have HXe := Lib.hid hx
            clear hR hR2 hx
            (
              refine wpAnyH_takeP (i := 6) (v := .bool false) 47 rfl rfl (by kernel_rfl) (by kernel_rfl) (by kernel_rfl) (fun _ _ _ h => h) (.inl ⟨by rfl, ?_⟩) HSq.out ?_
              · intro xw xf
                go_simp)
            refine wpAnyH_done (by kernel_rfl) ?_ _
            clear HSq
            go_upto_region 12 with fail
            refine wp_region_held (S := fun w' => w'.cell? ⟨g, 3, none⟩ = some (.int .i64 P)) (by kernel_rfl) ?_
            have HSq := Lib.hid (show (World.drew wc).cell? ⟨g, 3, none⟩ = some (.int .i64 P) from HR6.out.from_)
            (
              refine wpAnyH_takeP (i := 0) (v := .pointer (some ⟨g, 0, none⟩)) 49 rfl rfl (by kernel_rfl) (by kernel_rfl) (by kernel_rfl) (fun _ _ _ h => h) (.inl ⟨by rfl, ?_⟩) HSq.out ?_
              · intro xw xf
                go_simp)
            (
              refine wpAnyH_takeP (i := 1) (v := .pointer (some ⟨g, 0, none⟩)) 50 rfl rfl (by kernel_rfl) (by kernel_rfl) (by kernel_rfl) (fun _ _ _ h => h) (.inl ⟨by rfl, ?_⟩) HSq.out ?_
              · intro xw xf
                go_simp)
            (
              refine wpAnyH_takeP (i := 2) (v := .pointer (some ⟨g, 3, none⟩)) 51 rfl rfl (by kernel_rfl) (by kernel_rfl) (by kernel_rfl) (fun _ _ _ h => h) (.inl ⟨by rfl, ?_⟩) HSq.out ?_
              · intro xw xf
                go_simp)
            (
              refine wpAnyH_takeP (i := 3) (v := .int .i64 P) 52 rfl rfl (by kernel_rfl) (by kernel_rfl) (by kernel_rfl) (fun _ _ _ h => h) (.inl ⟨by rfl, ?_⟩) HSq.out ?_
              · intro xw xf
                go_simp)
            (
              refine wpAnyH_takeP (i := 4) (v := .pointer (some ⟨g, 0, none⟩)) 53 rfl rfl (by kernel_rfl) (by kernel_rfl) (by kernel_rfl) (fun _ _ _ h => h) (.inl ⟨by rfl, ?_⟩) HSq.out ?_
              · intro xw xf
                go_simp)
            (
              refine wpAnyH_takeP (i := 5) (v := .pointer (some ⟨g, 0, none⟩)) 54 rfl rfl (by kernel_rfl) (by kernel_rfl) (by kernel_rfl) (fun _ _ _ h => h) (.inl ⟨by rfl, ?_⟩) HSq.out ?_
              · intro xw xf
                go_simp)
            (
              refine wpAnyH_takeP (i := 6) (v := .pointer (some ⟨g, 0, none⟩)) 55 rfl rfl (by kernel_rfl) (by kernel_rfl) (by kernel_rfl) (fun _ _ _ h => h) (.inl ⟨by rfl, ?_⟩) HSq.out ?_
              · intro xw xf
                go_simp)
            change wpAnyH _ _ _ _ _ _ _ _ (World.drew wc)
            have HFg := Lib.hid (show Fr (fun _ => False) wc (World.drew wc) from (Fr.refl _ wc).drew)
            obtain ⟨wg, hwg⟩ : ∃ wg, World.drew wc = wg := ⟨_, rfl⟩
            rw [hwg]
            rw [hwg] at HFg
            clear hwg HSq
            have HRg := Lib.hid (HR6.out.fr HFg.out (fun e => e) (fun _ _ e => e))
            have hp5 : p5 ≤ W.length := HRg.out.le
            have hpw : IntKind.i64.wrap (P + p5) = P + p5 := by rw [IntKind.wrap_i64]; omega
            (
              try simp only [List.setIfInBounds_toArray, List.set_cons_succ, List.set_cons_zero]
              refine wpAnyH_all (rs := [7]) (by kernel_rfl) (by simp) ?_
              intro i hi
              simp only [List.mem_cons, List.not_mem_nil, or_false] at hi
              subst hi)
            refine wpOp_step rfl (fun K hK => ?_)
            go_simp
            go_wp2_with (go_at_call 87; refine (RAt_any g v W p5 0 wg HRg.out).mono ?_; rintro e wx ⟨rfl, rfl⟩)
            refine ⟨HRg.out.from_, ?_⟩
            have HSq := Lib.hid (show wg.cell? ⟨g, 3, none⟩ = some (.int .i64 P) from HRg.out.from_)
            (
              refine wpAnyH_takeP (i := 8) (v := .int .i64 (P + p5)) 57 rfl rfl (by kernel_rfl) (by kernel_rfl) (by kernel_rfl) (fun _ _ _ h => h) (.inl ⟨by rfl, ?_⟩) HSq.out ?_
              · intro xw xf
                go_simp)
            (
              refine wpAnyH_takeP (i := 9) (v := .pointer (some ⟨xb, 5, none⟩)) 58 rfl rfl (by kernel_rfl) (by kernel_rfl) (by kernel_rfl) (fun _ _ _ h => h) (.inl ⟨by rfl, ?_⟩) HSq.out ?_
              · intro xw xf
                go_simp)
            clear HSq
            have HXg := Lib.hid (HX6.out.fr HFg.out (fun e => e))
            obtain ⟨x0, x1, x2, x3, x4, x5⟩ := HXg.out.six
            have zx5 := HXg.out.frozen 5
            have HFt := Lib.hid (show Fr (fun j => j = xb) wg (wg.setCell ⟨xb, 5, none⟩ (.int .i64 (P + p5))) from Fr.setCell (S := fun j => j = xb) (p := ⟨xb, 5, none⟩) (Fr.refl _ wg) (fun _ => rfl) _)
            have HXt := Lib.hid (show Whole (wg.setCell ⟨xb, 5, none⟩ (.int .i64 (P + p5))) xb 122 #[.int .i64 k, .int .i64 ba, .int .i64 sz, .int .u32 sm, .slice A4 LL c4, .int .i64 (P + p5)] from HXg.out.set 5 _)
            (
              try simp only [List.setIfInBounds_toArray, List.set_cons_succ, List.set_cons_zero]
              refine wpAnyH_all (rs := [10]) (by kernel_rfl) (by simp) ?_
              intro i hi
              simp only [List.mem_cons, List.not_mem_nil, or_false] at hi
              subst hi)
            refine wpOp_step rfl (fun K hK => ?_)
            go_simp
            refine hK _ _ ⟨HFt.out.cell HRg.out.from_ (fun e => by have := HXb.out; simp only at e; omega), ?_⟩
            clear hK K
            refine wpAnyH_done (by kernel_rfl) ?_ _
            obtain ⟨wt, hwt⟩ : ∃ wt, wg.setCell ⟨xb, 5, none⟩ (.int .i64 (P + p5)) = wt := ⟨_, rfl⟩
            rw [hwt] at HFt HXt ⊢
            have HFct := Lib.hid (show Fr (fun j => j = xb) wc wt from (HFg.out.mono (fun _ _ e => e.elim)).trans HFt.out (fun _ _ e => e))
            have HWt := Lib.hid (HW6.out.fr HFct.out (fun e => by have := HXb.out; omega))
            have HFt2 := Lib.hid (show Fr (fun j => j = g) w wt from HF6.out.trans HFct.out (fun i hi e => by have := HXb.out; omega))
            have HOt := Lib.hid (own_fr HO6.out HFct.out (fun j hj e => by have := (World.ownsRow.lt HO6.out j hj).1; have := HXb.out; omega))
            clear hwt x0 x1 x2 x3 x4 x5 zx5
            obtain ⟨x0, x1, x2, x3, x4, x5⟩ := HXt.out.six
            (
              obtain ⟨e0, e1, e2, e3, e4, e5⟩ := HWt.out.six
              have z0 := HWt.out.frozen 0
              have z1 := HWt.out.frozen 1
              have z2 := HWt.out.frozen 2
              have z3 := HWt.out.frozen 3
              have z4 := HWt.out.frozen 4
              have z5 := HWt.out.frozen 5)
            go_wp2_with fail
            have hW9 := setN_whole (a := .int .i64 k) (b := .int .i64 ba) (c := .int .i64 sz) (d := .int .u32 sm) (e := .slice A4 LL c4) (f := .int .i64 (P + p5)) HWt.out
            have hF9 := setN_fr wt w.heap.size (.int .i64 k) (.int .i64 ba) (.int .i64 sz) (.int .u32 sm) (.slice A4 LL c4) (.int .i64 (P + p5))
            refine bodyPost_ret (v := .tuple #[.agg #[.int .i64 k, .int .i64 ba, .int .i64 sz, .int .u32 sm, .slice A4 LL c4, .int .i64 (P + p5)], .int .i64 0]) (results_cell_slot (p := 4) (u := 5) rfl _ _ _ _ _ _ rfl hW9 Tryz.underlying122 rfl (by kernel_rfl)) rfl ?_
            rw [HR.out]
            refine ⟨A4, c4, sz, by simp only [HLL.out], ?_, Fr.trans HFt2.out hF9 (fun i hi e => by omega)⟩
            simp only [HLL.out]
            exact own_fr (own_down HOt.out (by have := HXb.out; omega)) hF9 (fun j hj e => by have := (World.ownsRow.lt HOt.out j hj).1; have := HXb.out; omega)
          · have hx' : (X != sm) = true := by simpa using hx
            rw [if_pos hx] at hR2
            have HR := Lib.hid hR2.symm
            clear hR hR2 hx
            (
              refine wpAnyH_takeP (i := 6) (v := .bool true) 47 rfl rfl (by kernel_rfl) (by kernel_rfl) (by kernel_rfl) (fun _ _ _ h => h) (.inl ⟨by rfl, ?_⟩) HSq.out ?_
              · intro xw xf
                go_simp)
            refine wpAnyH_done (by kernel_rfl) ?_ _
            clear HSq
            (
              obtain ⟨e0, e1, e2, e3, e4, e5⟩ := HW6.out.six
              have z0 := HW6.out.frozen 0
              have z1 := HW6.out.frozen 1
              have z2 := HW6.out.frozen 2
              have z3 := HW6.out.frozen 3
              have z4 := HW6.out.frozen 4
              have z5 := HW6.out.frozen 5)
            go_wp2_with fail
            (
              have hW9 := setN_whole (a := .int .i64 0) (b := .int .i64 0) (c := .int .i64 0) (d := .int .u32 0) (e := .slice none 0 0) (f := .int .i64 0) HW6.out
              have hF9 := setN_fr wc w.heap.size (.int .i64 0) (.int .i64 0) (.int .i64 0) (.int .u32 0) (.slice none 0 0) (.int .i64 0)
              refine bodyPost_ret (v := .tuple #[.agg #[.int .i64 0, .int .i64 0, .int .i64 0, .int .u32 0, .slice none 0 0, .int .i64 0], .int .i64 13]) (results_cell_slot (p := 4) (u := 5) rfl _ _ _ _ _ _ rfl hW9 Tryz.underlying122 rfl (by kernel_rfl)) rfl ?_
              rw [HR.out]
              exact ⟨none, 0, 0, rfl, World.ownsRow_nil _ _ _ _, Fr.trans HF6.out hF9 (fun i hi e => by omega)⟩)
        · have hR2 := hR
          rw [if_pos hr] at hR2
          have HR := Lib.hid hR2.symm
          have hr' : (r5 != 0) = true := by simpa using hr
          clear hR hR2 hr
          (
            obtain ⟨e0, e1, e2, e3, e4, e5⟩ := HW5.out.six
            have z0 := HW5.out.frozen 0
            have z1 := HW5.out.frozen 1
            have z2 := HW5.out.frozen 2
            have z3 := HW5.out.frozen 3
            have z4 := HW5.out.frozen 4
            have z5 := HW5.out.frozen 5)
          go_wp2_with (go_at_call 86; refine (RErr_any g v W p5 r5 w5 HR5.out).mono ?_; rintro e wx ⟨rfl, rfl⟩)
          (
            have hW9 := setN_whole (a := .int .i64 0) (b := .int .i64 0) (c := .int .i64 0) (d := .int .u32 0) (e := .slice none 0 0) (f := .int .i64 0) HW5.out
            have hF9 := setN_fr w5 w.heap.size (.int .i64 0) (.int .i64 0) (.int .i64 0) (.int .u32 0) (.slice none 0 0) (.int .i64 0)
            refine bodyPost_ret (v := .tuple #[.agg #[.int .i64 0, .int .i64 0, .int .i64 0, .int .u32 0, .slice none 0 0, .int .i64 0], .int .i64 r5]) (results_cell_slot (p := 4) (u := 5) rfl _ _ _ _ _ _ rfl hW9 Tryz.underlying122 rfl (by kernel_rfl)) rfl ?_
            rw [HR.out]
            exact ⟨none, 0, 0, rfl, World.ownsRow_nil _ _ _ _, Fr.trans HF5.out hF9 (fun i hi e => by omega)⟩)
  · rw [if_pos hE] at hR
    have HR := Lib.hid hR.symm
    have hE' : (E4 != 0) = true := by simpa using hE
    clear hR hE
    obtain ⟨x0, x1, x2, x3, x4, x5⟩ := HX3.out.six
    (
      obtain ⟨e0, e1, e2, e3, e4, e5⟩ := HW3.out.six
      have z0 := HW3.out.frozen 0
      have z1 := HW3.out.frozen 1
      have z2 := HW3.out.frozen 2
      have z3 := HW3.out.frozen 3
      have z4 := HW3.out.frozen 4
      have z5 := HW3.out.frozen 5)
    go_wp2_with fail
    (
      have hW9 := setN_whole (a := .int .i64 0) (b := .int .i64 0) (c := .int .i64 0) (d := .int .u32 0) (e := .slice none 0 0) (f := .int .i64 0) HW3.out
      have hF9 := setN_fr w3 w.heap.size (.int .i64 0) (.int .i64 0) (.int .i64 0) (.int .u32 0) (.slice none 0 0) (.int .i64 0)
      refine bodyPost_ret (v := .tuple #[.agg #[.int .i64 0, .int .i64 0, .int .i64 0, .int .u32 0, .slice none 0 0, .int .i64 0], .int .i64 E4]) (results_cell_slot (p := 4) (u := 5) rfl _ _ _ _ _ _ rfl hW9 Tryz.underlying122 rfl (by kernel_rfl)) rfl ?_
      rw [HR.out]
      exact ⟨none, 0, 0, rfl, World.ownsRow_nil _ _ _ _, Fr.trans HF3.out hF9 (fun i hi e => by omega)⟩)
end Go.Proofs.YtkaeoflgnnlbeaaGreatDoor

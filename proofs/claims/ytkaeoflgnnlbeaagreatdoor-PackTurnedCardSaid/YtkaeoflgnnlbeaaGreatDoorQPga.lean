/- What is proved: texts that stand one behind the other: Pga Pgb. Conditions: each theorem names its own. -/
import Derived.Test.YtkaeoflgnnlbeaaGreatDoorDf
import Derived.Test.YtkaeoflgnnlbeaaGreatDoorDas
import Derived.Test.YtkaeoflgnnlbeaaGreatDoorDba
import Derived.Test.YtkaeoflgnnlbeaaGreatDoorPc
import Derived.Deep.Cut
import Derived.Deep.RegionWith
import Derived.Deep.QuietTactic
import Derived.BigQuiet
import Derived.OrdersHeld
import Derived.Test.YtkaeoflgnnlbeaaGreatDoorDea
import Derived.OwnWalk
/- What is proved: an entry of a pack, plainly; one as it stands, by the document. Conditions: the bytes are there. -/
namespace Go.Proofs.YtkaeoflgnnlbeaaGreatDoor
open Go.RowKit
set_option linter.unusedVariables false

/-- An entry: its byte, its base's place, where it ends, its sum, its load; and the error. -/
abbrev EntR := (Int × Int × Int × Int × List UInt8) × Int
def zE (e : Int) : EntR := ((0, 0, 0, 0, []), e)
def crcI (l : List UInt8) : Int := rI (more 0#32 l)
/-- The rest of an entry, behind its numbers. -/
def opnT (D : List UInt8) (k base size : Int) (p : Nat) (er : Int) : EntR :=
  if rawErr D.length (stepAt D.length p er 4) (hasErr D.length p er 4) size ≠ 0 then zE (rawErr D.length (stepAt D.length p er 4) (hasErr D.length p er 4) size)
  else if crcI (rawB D (stepAt D.length p er 4) (hasErr D.length p er 4) size) ≠ numV D p er 4 then zE 13
  else ((k, base, rawAt D.length (stepAt D.length p er 4) (hasErr D.length p er 4) size, numV D p er 4, rawB D (stepAt D.length p er 4) (hasErr D.length p er 4) size), 0)
def opnK (D : List UInt8) (at' over k : Int) (z : Nat × Nat × Int) : EntR :=
  if k < 1 ∨ 5 < k then zE 19
  else if k = 5 then
    (if (varO D z.2.1 z.2.2 1048576).2.2 = 0 ∧ ((varO D z.2.1 z.2.2 1048576).1 = 0 ∨ at' - (varO D z.2.1 z.2.2 1048576).1 < 12) then zE 21
     else if (varO D z.2.1 z.2.2 1048576).2.2 = 0 ∧ over = 8 then zE 20
     else opnT D 5 (at' - (varO D z.2.1 z.2.2 1048576).1) z.1 (varO D z.2.1 z.2.2 1048576).2.1 (varO D z.2.1 z.2.2 1048576).2.2)
  else opnT D k 0 z.1 z.2.1 z.2.2
def opnD (D : List UInt8) (at' over : Int) : EntR :=
  opnK D at' over (numV D at'.toNat 0 1) (varO D (stepAt D.length at'.toNat 0 1) (hasErr D.length at'.toNat 0 1) 4000)
def opnE (bs : List UInt8) (at' over : Int) : EntR :=
  if bs.length < 44 then zE 10 else if at' < 12 ∨ (bs.length : Int) - 32 ≤ at' then zE 2 else opnD (bs.take (bs.length - 32)) at' over

/-- What Open tells. -/
def OpPost (w : World) (R : EntR) (e : Ending) (w' : World) : Prop :=
  ∃ v, e = .returned (.tuple #[.agg #[.int .i64 R.1.1, .int .i64 R.1.2.1, .int .i64 R.1.2.2.1, .int .u32 R.1.2.2.2.1, v], .int .i64 R.2]) ∧ w'.ownsRow w.heap.size 5 1 v R.1.2.2.2.2.length (bytesV R.1.2.2.2.2) ∧ Below w.heap.size w w'
theorem Whole.five {w : World} {g : Nat} {t : TypeId} {a b c d e : Value} (h : Whole w g t #[a, b, c, d, e]) : w.cell? ⟨g, 0, none⟩ = some a ∧ w.cell? ⟨g, 1, none⟩ = some b ∧ w.cell? ⟨g, 2, none⟩ = some c ∧ w.cell? ⟨g, 3, none⟩ = some d ∧ w.cell? ⟨g, 4, none⟩ = some e :=
  ⟨by rw [h.cell]; rfl, by rw [h.cell]; rfl, by rw [h.cell]; rfl, by rw [h.cell]; rfl, by rw [h.cell]; rfl⟩
theorem setE_whole {w : World} {g : Nat} {t : TypeId} {a b c d e x0 x1 x2 x3 x4 : Value} (h : Whole w g t #[x0, x1, x2, x3, x4]) : Whole (((((w.setCell ⟨g, 0, none⟩ a).setCell ⟨g, 1, none⟩ b).setCell ⟨g, 2, none⟩ c).setCell ⟨g, 3, none⟩ d).setCell ⟨g, 4, none⟩ e) g t #[a, b, c, d, e] := ((((h.set 0 a).set 1 b).set 2 c).set 3 d).set 4 e
theorem setE_fr (w : World) (g : Nat) (a b c d e : Value) : Fr (fun j => j = g) w (((((w.setCell ⟨g, 0, none⟩ a).setCell ⟨g, 1, none⟩ b).setCell ⟨g, 2, none⟩ c).setCell ⟨g, 3, none⟩ d).setCell ⟨g, 4, none⟩ e) :=
  (((((Fr.refl (fun j => j = g) w).setCell (p := ⟨g, 0, none⟩) (fun _ => rfl) _).setCell (p := ⟨g, 1, none⟩) (fun _ => rfl) _).setCell (p := ⟨g, 2, none⟩) (fun _ => rfl) _).setCell (p := ⟨g, 3, none⟩) (fun _ => rfl) _).setCell (p := ⟨g, 4, none⟩) (fun _ => rfl) _

theorem varO_mostP (bs : List UInt8) (p : Nat) (er most : Int) (hm : 0 ≤ most) : ((varO bs p er most).1 : Int) ≤ most := by
  unfold varO
  split
  · simpa using hm
  · split
    · simpa using hm
    · simp only; omega
theorem Lies.takeP {w : World} {A : Option Addr} {l : List UInt8} (h : Lies w A (bytesV l)) (m : Nat) : Lies w A (bytesV (l.take m)) := by
  rcases h with h | ⟨b, o, rfl, hcl⟩
  · have : l = [] := by simpa [bytesV] using h
    subst this
    exact .inl (by simp [bytesV])
  · refine .inr ⟨b, o, rfl, fun j u hu => hcl j u ?_⟩
    rw [bytesV, List.map_take, List.getElem?_take] at hu
    split at hu
    · exact hu
    · cases hu
theorem slice_hB (A : Option Addr) (hA : ∃ b o, A = some ⟨b, o, none⟩) (n c m : Nat) (h : m ≤ c) (w : World) : (Instr.slice 25 (.slice A n c) none (some (.int .i64 m)) none).run Tryz.prog w = .ok (.slice A m c) w := by
  have hu : Tryz.prog.underlying 25 = some (.slice (Tryz.prog.elem 25)) := by kernel_rfl
  have hs : (sizeOf (Tryz.prog.elem 25)).run Tryz.prog w = .ok 1 w := by kernel_rfl
  have e := run_slice_h (P := Tryz.prog) w 25 A n c hu .i64 (m : Int) (by omega) (by omega)
  rw [e, hs]
  obtain ⟨b, o, rfl⟩ := hA
  simp [sliced, add_off]
theorem own_lowerP {w : World} {base base' : Nat} {e : TypeId} {size n : Nat} {v : Value} {xs : List Value} (h : w.ownsRow base e size v n xs) (hb : base' ≤ base) : w.ownsRow base' e size v n xs := by
  refine ⟨h.1, ?_⟩
  rcases h.2 with h0 | ⟨g, cap, cur, hv, hbg, r⟩
  · exact .inl h0
  · exact .inr ⟨g, cap, cur, hv, Nat.le_trans hb hbg, r⟩
/-- As wpAnyH_take; the destination is set at once. -/
theorem wpAnyH_takeP {P : Program} {ops : Array Oper} {Q : Exit → Act → World → Prop} {md : Region.Mode} {S : World → Prop} {i : Nat} {oi : Oper} {v : Value} {fuel : Nat} {listed : Array Bool} {t : Array Value} {df : List Deferred} {w : World} (d : Tmp) (hi : ops[i]? = some oi) (hd : oi.dst = some d)
    (hs : Region.noSelect ops = true) (hf : Region.free md ops listed i = true) (hr : (Region.ready md ops listed).contains i = true)
    (hQ : ∀ c a w, Q (.panic c) (a.put oi.dst v) w → Q (.panic c) a w) (hy : YieldsIf P ops S oi v { tmps := t, defers := df }) (hS : S w)
    (h : wpAnyH P md ops Q S fuel (listed.setIfInBounds i true) { tmps := t.setIfInBounds d v, defers := df } w) : wpAnyH P md ops Q S (fuel + 1) listed { tmps := t, defers := df } w :=
  wpAnyH_take hi hs hf hr hQ hy hS (by rw [hd]; exact h)
set_option maxHeartbeats 12800000 in
set_option maxRecDepth 100000 in
theorem QPOpen_any (A : Option Addr) (c : Nat) (bs : List UInt8) (hc : bs.length ≤ c) (hcc : c ≤ 9223372036854775807) (hbs : bs.length ≤ 140737488355328) (at' over : Int) (ha : -9223372036854775808 ≤ at' ∧ at' ≤ 9223372036854775807) (w : World) (hl : Lies w A (bytesV bs)) :
    Calls Tryz.prog 36 #[.slice A bs.length c, .int .i64 at', .int .i64 over] w (OpPost w (opnE bs at' over)) := by
  obtain ⟨R, hR⟩ : ∃ R, opnE bs at' over = R := ⟨_, rfl⟩
  rw [hR]
  unfold opnE at hR
  obtain ⟨L, hL⟩ : ∃ L, bs.length = L := ⟨_, rfl⟩
  have HL := Lib.hid hL
  obtain ⟨w1, hw1⟩ : ∃ w1, w.alloc (.cells #[.int .i64 0, .int .i64 0, .int .i64 0, .int .u32 0, .slice none 0 0] 89) = w1 := ⟨_, rfl⟩
  have HF1 := Lib.hid (show Fr (fun j => w.heap.size ≤ j) w w1 by subst hw1; exact (Fr.refl _ _).alloc _)
  have HF01 := Lib.hid (show Fr (fun _ => False) w w1 by subst hw1; exact (Fr.refl _ _).alloc _)
  have HW1 := Lib.hid (show Whole w1 w.heap.size 89 #[.int .i64 0, .int .i64 0, .int .i64 0, .int .u32 0, .slice none 0 0] by subst hw1; exact Whole.new _ _ _)
  have HS1 := Lib.hid (show w1.heap.size = w.heap.size + 1 by subst hw1; simp)
  have HA := Lib.hid hl
  obtain ⟨ha0, ha1⟩ := ha
  rw [hL] at hR hc hbs ⊢
  by_cases h44 : L < 44
  · rw [if_pos h44] at hR
    have HR := Lib.hid hR.symm
    have h44' : (L : Int) < 44 := by omega
    clear hR hL hl
    go_enter Tryz.func36, Tryz.ntmps36
    go_upto_region 1 with fail
    clear hw1
    (
      obtain ⟨e0, e1, e2, e3, e4⟩ := HW1.out.five
      have z0 := HW1.out.frozen 0
      have z1 := HW1.out.frozen 1
      have z2 := HW1.out.frozen 2
      have z3 := HW1.out.frozen 3
      have z4 := HW1.out.frozen 4)
    go_wp2_with fail
    (
      have hW9 := setE_whole (a := .int .i64 0) (b := .int .i64 0) (c := .int .i64 0) (d := .int .u32 0) (e := .slice none 0 0) HW1.out
      have hF9 := setE_fr w1 w.heap.size (.int .i64 0) (.int .i64 0) (.int .i64 0) (.int .u32 0) (.slice none 0 0)
      refine bodyPost_ret (v := .tuple #[.agg #[.int .i64 0, .int .i64 0, .int .i64 0, .int .u32 0, .slice none 0 0], .int .i64 10]) (results_cell_slot (p := 6) (u := 7) rfl _ _ _ _ _ _ rfl hW9 Tryz.underlying89 rfl (by kernel_rfl)) rfl ?_
      rw [HR.out]
      exact ⟨.slice none 0 0, rfl, World.ownsRow_nil _ _ _ _, (HF1.out.trans hF9 (fun i hi e => by omega)).below (fun i hi e => by omega)⟩)
  · rw [if_neg h44] at hR
    have h44' : ¬ (L : Int) < 44 := by omega
    have hw32 : IntKind.i64.wrap ((L : Int) - 32) = (L : Int) - 32 := by rw [IntKind.wrap_i64]; omega
    by_cases ha12 : at' < 12
    · rw [if_pos (Or.inl ha12)] at hR
      have HR := Lib.hid hR.symm
      clear hR hL hl
      go_enter Tryz.func36, Tryz.ntmps36
      go_upto_region 1 with fail
      clear hw1
      (
        obtain ⟨e0, e1, e2, e3, e4⟩ := HW1.out.five
        have z0 := HW1.out.frozen 0
        have z1 := HW1.out.frozen 1
        have z2 := HW1.out.frozen 2
        have z3 := HW1.out.frozen 3
        have z4 := HW1.out.frozen 4)
      go_wp2_with fail
      (
        have hW9 := setE_whole (a := .int .i64 0) (b := .int .i64 0) (c := .int .i64 0) (d := .int .u32 0) (e := .slice none 0 0) HW1.out
        have hF9 := setE_fr w1 w.heap.size (.int .i64 0) (.int .i64 0) (.int .i64 0) (.int .u32 0) (.slice none 0 0)
        refine bodyPost_ret (v := .tuple #[.agg #[.int .i64 0, .int .i64 0, .int .i64 0, .int .u32 0, .slice none 0 0], .int .i64 2]) (results_cell_slot (p := 6) (u := 7) rfl _ _ _ _ _ _ rfl hW9 Tryz.underlying89 rfl (by kernel_rfl)) rfl ?_
        rw [HR.out]
        exact ⟨.slice none 0 0, rfl, World.ownsRow_nil _ _ _ _, (HF1.out.trans hF9 (fun i hi e => by omega)).below (fun i hi e => by omega)⟩)
    · by_cases ha32 : (L : Int) - 32 ≤ at'
      · rw [if_pos (Or.inr ha32)] at hR
        have HR := Lib.hid hR.symm
        clear hR hL hl
        go_enter Tryz.func36, Tryz.ntmps36
        go_upto_region 1 with fail
        clear hw1
        (
          obtain ⟨e0, e1, e2, e3, e4⟩ := HW1.out.five
          have z0 := HW1.out.frozen 0
          have z1 := HW1.out.frozen 1
          have z2 := HW1.out.frozen 2
          have z3 := HW1.out.frozen 3
          have z4 := HW1.out.frozen 4)
        go_wp2_with fail
        (
          have hW9 := setE_whole (a := .int .i64 0) (b := .int .i64 0) (c := .int .i64 0) (d := .int .u32 0) (e := .slice none 0 0) HW1.out
          have hF9 := setE_fr w1 w.heap.size (.int .i64 0) (.int .i64 0) (.int .i64 0) (.int .u32 0) (.slice none 0 0)
          refine bodyPost_ret (v := .tuple #[.agg #[.int .i64 0, .int .i64 0, .int .i64 0, .int .u32 0, .slice none 0 0], .int .i64 2]) (results_cell_slot (p := 6) (u := 7) rfl _ _ _ _ _ _ rfl hW9 Tryz.underlying89 rfl (by kernel_rfl)) rfl ?_
          rw [HR.out]
          exact ⟨.slice none 0 0, rfl, World.ownsRow_nil _ _ _ _, (HF1.out.trans hF9 (fun i hi e => by omega)).below (fun i hi e => by omega)⟩)
      · rw [if_neg (by omega)] at hR
        obtain ⟨N, hN⟩ : ∃ N, L - 32 = N := ⟨_, rfl⟩
        obtain ⟨P, rfl⟩ := Int.eq_ofNat_of_zero_le (show 0 ≤ at' by omega)
        have hNL : (L : Int) - 32 = N := by omega
        obtain ⟨D, hD⟩ : ∃ D, bs.take N = D := ⟨_, rfl⟩
        have hDl : D.length = N := by rw [← hD, List.length_take, hL]; omega
        have hPN : P < N := by omega
        rw [hN, hD] at hR
        unfold opnD at hR
        rw [Int.toNat_natCast] at hR
        have hlD : Lies w A (bytesV D) := by rw [← hD]; exact hl.takeP N
        have hAl : ∀ ad, A = some ad → D ≠ [] → ad.block < w.heap.size := fun ad hA hb => by
          rcases hlD with h0 | ⟨b', o', hB', hcl⟩
          · exact absurd (by simpa [bytesV] using h0) hb
          · rw [hA] at hB'
            injection hB' with hB'
            subst hB'
            obtain ⟨q, l, hql⟩ := List.exists_cons_of_ne_nil hb
            exact World.block_lt_of_cell? w ⟨b', o' + 0, none⟩ (hcl 0 (byteV q) (by rw [hql]; rfl))
        have hAs : ∃ b o, A = some ⟨b, o, none⟩ := by
          rcases hl with h0 | ⟨b, o, h0, _⟩
          · have : bs = [] := by simpa [bytesV] using h0
            rw [this] at hL
            simp at hL
            omega
          · exact ⟨b, o, h0⟩
        have hsl : ∀ w, (Instr.slice 25 (.slice A L c) none (some (.int .i64 ((L : Int) - 32))) none).run Tryz.prog w = .ok (.slice A N c) w := fun w => by
          rw [hNL]
          exact slice_hB A hAs L c N (by omega) w
        obtain ⟨w2, hw2⟩ : ∃ w2, w1.alloc (.cells #[.slice A N c, .int .i64 P, .int .i64 0] 137) = w2 := ⟨_, rfl⟩
        have HF2 := Lib.hid (show Fr (fun _ => False) w1 w2 by subst hw2; exact (Fr.refl _ _).alloc _)
        have hs2 : w2.heap.size = w1.heap.size + 1 := by subst hw2; simp
        obtain ⟨h, hh⟩ : ∃ h, w1.heap.size = h := ⟨_, rfl⟩
        have HHh := Lib.hid (show h = w.heap.size + 1 ∧ w2.heap.size = h + 1 from by have := HS1.out; omega)
        have HQ2 := Lib.hid (show Qd w2 h A c D P 0 from ⟨by subst hw2; subst hh; rw [hDl]; exact Whole.new _ _ _, (hlD.fr HF01.out (fun _ _ e => e)).fr HF2.out (fun _ _ e => e), by omega, by omega, by omega, fun ad hA hb => by have := hAl ad hA hb; have := HS1.out; omega⟩)
        have HAl := Lib.hid (show ∀ (S : Nat → Prop), (∀ j, S j → w.heap.size ≤ j) → ∀ ad, A = some ad → D ≠ [] → ¬ S ad.block from fun S hS ad hA hb e => by have := hAl ad hA hb; have := hS _ e; omega)
        have HDl := Lib.hid hDl
        have HB1 := Lib.hid (qBig_any h A c D P 0 1 w2 HQ2.out (by omega))
        have hk0 := numV_lt D P 0 1
        unfold QPost at HB1
        simp only [show ((1 : Nat) : Int) = 1 from rfl] at HB1
        rw [hDl] at hR HB1
        obtain ⟨k, hk⟩ : ∃ k, numV D P 0 1 = k := ⟨_, rfl⟩
        obtain ⟨p1, hp1⟩ : ∃ p1, stepAt N P 0 1 = p1 := ⟨_, rfl⟩
        obtain ⟨r1, hr1⟩ : ∃ r1, hasErr N P 0 1 = r1 := ⟨_, rfl⟩
        rw [hp1, hr1] at hR HB1
        rw [hk] at hR HB1 hk0
        have hm1 := varO_mostP D p1 r1 4000 (by omega)
        have HV1 := Lib.hid (fun w' (q : Qd w' h A c D p1 r1) => qVar_any h A c D p1 r1 4000 w' q (by omega) (by omega))
        unfold QPost at HV1
        obtain ⟨⟨v1, p2, r2⟩, hv1⟩ : ∃ z, varO D p1 r1 4000 = z := ⟨_, rfl⟩
        rw [hv1] at hR HV1 hm1
        simp only at hm1 HV1
        unfold opnK at hR
        simp only at hR
        have hkw : IntKind.i64.wrap (k : Int) = k := by rw [IntKind.wrap_i64]; omega
        have hvw : IntKind.i64.wrap (v1 : Int) = v1 := by rw [IntKind.wrap_i64]; omega
        have hnat : ¬ ((P : Int) < 12) := ha12
        have hge : ¬ ((L : Int) - 32 ≤ P) := ha32
        clear hl hL hN hD hlD hAl hDl hk hp1 hr1 hv1 hNL
        go_enter Tryz.func36, Tryz.ntmps36
        go_upto_region 6 with fail
        clear hw1 hw2 hh hs2
        go_upto_region 7 with (go_at_call 60; refine HB1.out.mono ?_; rintro e w3 ⟨rfl, q3, f3⟩; have HQ3 := Lib.hid q3; have HF3 := Lib.hid f3; clear q3 f3)
        obtain ⟨w4, hw4⟩ : ∃ w4, w3.alloc (.cells #[.int .i64 k, .int .i64 0, .int .i64 0, .int .u32 0, .slice none 0 0] 89) = w4 := ⟨_, rfl⟩
        rw [hw4]
        have HF34 := Lib.hid (show Fr (fun _ => False) w3 w4 by subst hw4; exact (Fr.refl _ _).alloc _)
        have HX4 := Lib.hid (show Whole w4 w3.heap.size 89 #[.int .i64 k, .int .i64 0, .int .i64 0, .int .u32 0, .slice none 0 0] by subst hw4; exact Whole.new _ _ _)
        obtain ⟨sb, hsb⟩ : ∃ sb, w3.heap.size = sb := ⟨_, rfl⟩
        have HSb := Lib.hid (show h < sb from by have := Fr.size HF3.out; have := HHh.out; omega)
        rw [hsb] at HX4 ⊢
        have HQ4 := Lib.hid (HQ3.out.fr HF34.out (fun e => e) (fun _ _ _ e => e))
        have HF13 := Lib.hid (show Fr (fun j => j = h) w1 w4 from ((HF2.out.mono (T := fun j => j = h) (fun _ _ e => e.elim)).trans HF3.out (fun _ _ e => e)).trans HF34.out (fun _ _ e => e.elim))
        have HW4 := Lib.hid (HW1.out.fr HF13.out (fun e => by have := HHh.out; omega))
        have HF4 := Lib.hid (show Fr (fun j => w.heap.size ≤ j) w w4 from HF1.out.trans HF13.out (fun i hi e => by have := HHh.out; omega))
        clear hw4 hsb
        obtain ⟨x0, x1, x2, x3, x4⟩ := HX4.out.five
        by_cases hk1 : (k : Int) < 1
        · rw [if_pos (Or.inl hk1)] at hR
          have HR := Lib.hid hR.symm
          clear hR
          (
            obtain ⟨e0, e1, e2, e3, e4⟩ := HW4.out.five
            have z0 := HW4.out.frozen 0
            have z1 := HW4.out.frozen 1
            have z2 := HW4.out.frozen 2
            have z3 := HW4.out.frozen 3
            have z4 := HW4.out.frozen 4)
          go_wp2_with fail
          (
            have hW9 := setE_whole (a := .int .i64 0) (b := .int .i64 0) (c := .int .i64 0) (d := .int .u32 0) (e := .slice none 0 0) HW4.out
            have hF9 := setE_fr w4 w.heap.size (.int .i64 0) (.int .i64 0) (.int .i64 0) (.int .u32 0) (.slice none 0 0)
            refine bodyPost_ret (v := .tuple #[.agg #[.int .i64 0, .int .i64 0, .int .i64 0, .int .u32 0, .slice none 0 0], .int .i64 19]) (results_cell_slot (p := 6) (u := 7) rfl _ _ _ _ _ _ rfl hW9 Tryz.underlying89 rfl (by kernel_rfl)) rfl ?_
            rw [HR.out]
            exact ⟨.slice none 0 0, rfl, World.ownsRow_nil _ _ _ _, (HF4.out.trans hF9 (fun i hi e => by omega)).below (fun i hi e => by omega)⟩)
        · by_cases hk5 : (5 : Int) < k
          · rw [if_pos (Or.inr hk5)] at hR
            have HR := Lib.hid hR.symm
            clear hR
            (
              obtain ⟨e0, e1, e2, e3, e4⟩ := HW4.out.five
              have z0 := HW4.out.frozen 0
              have z1 := HW4.out.frozen 1
              have z2 := HW4.out.frozen 2
              have z3 := HW4.out.frozen 3
              have z4 := HW4.out.frozen 4)
            go_wp2_with fail
            (
              have hW9 := setE_whole (a := .int .i64 0) (b := .int .i64 0) (c := .int .i64 0) (d := .int .u32 0) (e := .slice none 0 0) HW4.out
              have hF9 := setE_fr w4 w.heap.size (.int .i64 0) (.int .i64 0) (.int .i64 0) (.int .u32 0) (.slice none 0 0)
              refine bodyPost_ret (v := .tuple #[.agg #[.int .i64 0, .int .i64 0, .int .i64 0, .int .u32 0, .slice none 0 0], .int .i64 19]) (results_cell_slot (p := 6) (u := 7) rfl _ _ _ _ _ _ rfl hW9 Tryz.underlying89 rfl (by kernel_rfl)) rfl ?_
              rw [HR.out]
              exact ⟨.slice none 0 0, rfl, World.ownsRow_nil _ _ _ _, (HF4.out.trans hF9 (fun i hi e => by omega)).below (fun i hi e => by omega)⟩)
          · rw [if_neg (by omega)] at hR
            go_upto_region 10 with (go_at_call 61; refine (HV1.out w4 HQ4.out).mono ?_; rintro e w5 ⟨rfl, q5, f5⟩; have HQ5 := Lib.hid q5; have HF5 := Lib.hid f5; clear q5 f5)
            have HX5 := Lib.hid (HX4.out.fr HF5.out (fun e => by have := HSb.out; omega))
            have HW5 := Lib.hid (HW4.out.fr HF5.out (fun e => by have := HHh.out; omega))
            have HFw5 := Lib.hid (show Fr (fun j => w.heap.size ≤ j) w w5 from HF4.out.trans HF5.out (fun i hi e => by have := HHh.out; omega))
            clear x0 x1 x2 x3 x4
            obtain ⟨x0, x1, x2, x3, x4⟩ := HX5.out.five
            by_cases hkq : (k : Int) = 5
            · rw [if_pos hkq, ← hkq] at hR
              have hkq' : ((k : Int) == 5) = true := by simpa using hkq
              have HKq := Lib.hid hkq
              have hm2 := varO_mostP D p2 r2 1048576 (by omega)
              have HV2 := Lib.hid (fun w' (q : Qd w' h A c D p2 r2) => qVar_any h A c D p2 r2 1048576 w' q (by omega) (by omega))
              unfold QPost at HV2
              obtain ⟨⟨v2, p3, r3⟩, hv2⟩ : ∃ z, varO D p2 r2 1048576 = z := ⟨_, rfl⟩
              rw [hv2] at hR HV2 hm2
              simp only at hm2 HV2 hR
              have hv2w : IntKind.i64.wrap (v2 : Int) = v2 := by rw [IntKind.wrap_i64]; omega
              have hbw : IntKind.i64.wrap ((P : Int) - v2) = (P : Int) - v2 := by rw [IntKind.wrap_i64]; omega
              clear hkq hv2
              go_upto_region 12 with (go_at_call 61; refine (HV2.out w5 HQ5.out).mono ?_; rintro e wu ⟨rfl, qu, fu⟩; have HQu := Lib.hid qu; have HFu := Lib.hid fu; clear qu fu)
              have HXu := Lib.hid (HX5.out.fr HFu.out (fun e => by have := HSb.out; omega))
              have HWu := Lib.hid (HW5.out.fr HFu.out (fun e => by have := HHh.out; omega))
              have HFwu := Lib.hid (show Fr (fun j => w.heap.size ≤ j) w wu from HFw5.out.trans HFu.out (fun i hi e => by have := HHh.out; omega))
              have ru := HQu.out.c2
              clear x0 x1 x2 x3 x4
              by_cases hr3 : r3 = 0
              · subst hr3
                by_cases hz : v2 = 0
                · rw [if_pos ⟨rfl, Or.inl hz⟩] at hR
                  have HR := Lib.hid hR.symm
                  have hz' : ((v2 : Int) == 0) = true := by simpa using hz
                  clear hR hz
                  (
                    obtain ⟨e0, e1, e2, e3, e4⟩ := HWu.out.five
                    have z0 := HWu.out.frozen 0
                    have z1 := HWu.out.frozen 1
                    have z2 := HWu.out.frozen 2
                    have z3 := HWu.out.frozen 3
                    have z4 := HWu.out.frozen 4)
                  go_wp2_with fail
                  (
                    have hW9 := setE_whole (a := .int .i64 0) (b := .int .i64 0) (c := .int .i64 0) (d := .int .u32 0) (e := .slice none 0 0) HWu.out
                    have hF9 := setE_fr wu w.heap.size (.int .i64 0) (.int .i64 0) (.int .i64 0) (.int .u32 0) (.slice none 0 0)
                    refine bodyPost_ret (v := .tuple #[.agg #[.int .i64 0, .int .i64 0, .int .i64 0, .int .u32 0, .slice none 0 0], .int .i64 21]) (results_cell_slot (p := 6) (u := 7) rfl _ _ _ _ _ _ rfl hW9 Tryz.underlying89 rfl (by kernel_rfl)) rfl ?_
                    rw [HR.out]
                    exact ⟨.slice none 0 0, rfl, World.ownsRow_nil _ _ _ _, (HFwu.out.trans hF9 (fun i hi e => by omega)).below (fun i hi e => by omega)⟩)
                · have hz' : ((v2 : Int) == 0) = false := by simpa using hz
                  by_cases hlo : (P : Int) - v2 < 12
                  · rw [if_pos ⟨rfl, Or.inr hlo⟩] at hR
                    have HR := Lib.hid hR.symm
                    clear hR hz
                    (
                      obtain ⟨e0, e1, e2, e3, e4⟩ := HWu.out.five
                      have z0 := HWu.out.frozen 0
                      have z1 := HWu.out.frozen 1
                      have z2 := HWu.out.frozen 2
                      have z3 := HWu.out.frozen 3
                      have z4 := HWu.out.frozen 4)
                    go_wp2_with fail
                    (
                      have hW9 := setE_whole (a := .int .i64 0) (b := .int .i64 0) (c := .int .i64 0) (d := .int .u32 0) (e := .slice none 0 0) HWu.out
                      have hF9 := setE_fr wu w.heap.size (.int .i64 0) (.int .i64 0) (.int .i64 0) (.int .u32 0) (.slice none 0 0)
                      refine bodyPost_ret (v := .tuple #[.agg #[.int .i64 0, .int .i64 0, .int .i64 0, .int .u32 0, .slice none 0 0], .int .i64 21]) (results_cell_slot (p := 6) (u := 7) rfl _ _ _ _ _ _ rfl hW9 Tryz.underlying89 rfl (by kernel_rfl)) rfl ?_
                      rw [HR.out]
                      exact ⟨.slice none 0 0, rfl, World.ownsRow_nil _ _ _ _, (HFwu.out.trans hF9 (fun i hi e => by omega)).below (fun i hi e => by omega)⟩)
                  · rw [if_neg (by omega)] at hR
                    by_cases hov : over = 8
                    · rw [if_pos ⟨rfl, hov⟩] at hR
                      have HR := Lib.hid hR.symm
                      have hov' : (over == 8) = true := by simpa using hov
                      clear hR hz hov
                      (
                        obtain ⟨e0, e1, e2, e3, e4⟩ := HWu.out.five
                        have z0 := HWu.out.frozen 0
                        have z1 := HWu.out.frozen 1
                        have z2 := HWu.out.frozen 2
                        have z3 := HWu.out.frozen 3
                        have z4 := HWu.out.frozen 4)
                      go_wp2_with fail
                      (
                        have hW9 := setE_whole (a := .int .i64 0) (b := .int .i64 0) (c := .int .i64 0) (d := .int .u32 0) (e := .slice none 0 0) HWu.out
                        have hF9 := setE_fr wu w.heap.size (.int .i64 0) (.int .i64 0) (.int .i64 0) (.int .u32 0) (.slice none 0 0)
                        refine bodyPost_ret (v := .tuple #[.agg #[.int .i64 0, .int .i64 0, .int .i64 0, .int .u32 0, .slice none 0 0], .int .i64 20]) (results_cell_slot (p := 6) (u := 7) rfl _ _ _ _ _ _ rfl hW9 Tryz.underlying89 rfl (by kernel_rfl)) rfl ?_
                        rw [HR.out]
                        exact ⟨.slice none 0 0, rfl, World.ownsRow_nil _ _ _ _, (HFwu.out.trans hF9 (fun i hi e => by omega)).below (fun i hi e => by omega)⟩)
                    · rw [if_neg (by omega)] at hR
                      have hov' : (over == 8) = false := by simpa using hov
                      have HHz := Lib.hid hz
                      clear hz hov
                      (
                        obtain ⟨x0, x1, x2, x3, x4⟩ := HXu.out.five
                        have zx1 := HXu.out.frozen 1
                        go_upto_region 17 with fail
                        obtain ⟨wv, hwv⟩ : ∃ wv, wu.setCell ⟨sb, 1, none⟩ (.int .i64 ((P : Int) - v2)) = wv := ⟨_, rfl⟩
                        rw [hwv]
                        have HFv := Lib.hid (show Fr (fun j => j = sb) wu wv by subst hwv; exact Fr.setCell (S := fun j => j = sb) (p := ⟨sb, 1, none⟩) (Fr.refl _ wu) (fun _ => rfl) _)
                        have HXv := Lib.hid (show Whole wv sb 89 #[.int .i64 k, .int .i64 ((P : Int) - v2), .int .i64 0, .int .u32 0, .slice none 0 0] by subst hwv; exact HXu.out.set 1 _)
                        have HWv := Lib.hid (HWu.out.fr HFv.out (fun e => by have := HHh.out; have := HSb.out; omega))
                        have HFwv := Lib.hid (show Fr (fun j => w.heap.size ≤ j) w wv from HFwu.out.trans HFv.out (fun i hi e => by have := HHh.out; have := HSb.out; omega))
                        have HQv := Lib.hid (HQu.out.fr HFv.out (fun e => by have := HSb.out; omega) (HAl.out (fun j => j = sb) (fun j e => by have := HHh.out; have := HSb.out; omega)))
                        clear hwv zx1 ru
                        (
                          unfold opnT at hR
                          have HBg := Lib.hid (qBig_any h A c D p3 0 4 wv HQv.out (by omega))
                          have hs0 := numV_lt D p3 0 4
                          unfold QPost at HBg
                          simp only [show ((4 : Nat) : Int) = 4 from rfl] at HBg
                          rw [HDl.out] at HBg hR
                          obtain ⟨s, hs⟩ : ∃ s, numV D p3 0 4 = s := ⟨_, rfl⟩
                          obtain ⟨p4, hp4⟩ : ∃ p4, stepAt N p3 0 4 = p4 := ⟨_, rfl⟩
                          obtain ⟨r4, hr4⟩ : ∃ r4, hasErr N p3 0 4 = r4 := ⟨_, rfl⟩
                          rw [hp4, hr4] at hR HBg
                          rw [hs] at hR HBg hs0
                          have HRw := Lib.hid (fun w' (q : Qd w' h A c D p4 r4) => qRaw_any h A c D p4 r4 v1 w' q (by omega) (by omega))
                          unfold QRawPost at HRw
                          rw [HDl.out] at HRw
                          obtain ⟨ld, hld⟩ : ∃ ld, rawB D p4 r4 v1 = ld := ⟨_, rfl⟩
                          obtain ⟨p5, hp5⟩ : ∃ p5, rawAt N p4 r4 v1 = p5 := ⟨_, rfl⟩
                          obtain ⟨r5, hr5⟩ : ∃ r5, rawErr N p4 r4 v1 = r5 := ⟨_, rfl⟩
                          rw [hld, hp5, hr5] at hR
                          simp only [hld, hp5, hr5] at HRw
                          obtain ⟨LL, hLL⟩ : ∃ LL, ld.length = LL := ⟨_, rfl⟩
                          have HLL := Lib.hid hLL
                          simp only [hLL] at HRw
                          have hsw : IntKind.u32.wrap (s : Int) = s := by rw [IntKind.wrap_u32]; omega
                          have hHs := HSb.out
                          clear hs hp4 hr4 hld hp5 hr5 hLL
                          clear x0 x1 x2 x3 x4
                          have zx3 := HXv.out.frozen 3
                          obtain ⟨x0, x1, x2, x3, x4⟩ := HXv.out.five
                          go_upto_region 18 with (go_at_call 60; refine HBg.out.mono ?_; rintro e w6 ⟨rfl, q6, f6⟩; have HQ6 := Lib.hid q6; have HF6 := Lib.hid f6; have HX6 := Lib.hid (HXv.out.fr f6 (fun e => by omega)); obtain ⟨y0, y1, y2, y3, y4⟩ := HX6.out.five; have zy3 := HX6.out.frozen 3; clear q6 f6)
                          obtain ⟨w7, hw7⟩ : ∃ w7, w6.setCell ⟨sb, 3, none⟩ (.int .u32 s) = w7 := ⟨_, rfl⟩
                          rw [hw7]
                          have HF67 := Lib.hid (show Fr (fun j => j = sb) w6 w7 by subst hw7; exact Fr.setCell (S := fun j => j = sb) (p := ⟨sb, 3, none⟩) (Fr.refl _ w6) (fun _ => rfl) _)
                          have HX7 := Lib.hid (show Whole w7 sb 89 #[.int .i64 (k : Int), .int .i64 ((P : Int) - v2), .int .i64 0, .int .u32 s, .slice none 0 0] by subst hw7; exact HX6.out.set 3 _)
                          have HQ7 := Lib.hid (HQ6.out.fr HF67.out (fun e => by omega) (HAl.out (fun j => j = sb) (fun j e => by have := HHh.out; omega)))
                          clear hw7 x0 x1 x2 x3 x4 y0 y1 y2 y3 y4 zx3 zy3
                          obtain ⟨x0, x1, x2, x3, x4⟩ := HX7.out.five
                          go_upto_region 19 with (go_at_call 62; refine (HRw.out w7 HQ7.out).mono ?_; rintro e w8 ⟨v8, rfl, o8, q8, f8⟩; have HQ8 := Lib.hid q8; have HF8 := Lib.hid f8; have HX8 := Lib.hid (HX7.out.fr f8 (fun e => by omega)); obtain ⟨y0, y1, y2, y3, y4⟩ := HX8.out.five; have zy4 := HX8.out.frozen 4; have HO8 := Lib.hid o8; obtain ⟨A8, c8, hv8, _, _⟩ := own_slice o8; subst hv8; clear o8 q8 f8)
                          obtain ⟨w9, hw9⟩ : ∃ w9, w8.setCell ⟨sb, 4, none⟩ (.slice A8 LL c8) = w9 := ⟨_, rfl⟩
                          rw [hw9]
                          have HF89 := Lib.hid (show Fr (fun j => j = sb) w8 w9 by subst hw9; exact Fr.setCell (S := fun j => j = sb) (p := ⟨sb, 4, none⟩) (Fr.refl _ w8) (fun _ => rfl) _)
                          have HX9 := Lib.hid (show Whole w9 sb 89 #[.int .i64 (k : Int), .int .i64 ((P : Int) - v2), .int .i64 0, .int .u32 s, .slice A8 LL c8] by subst hw9; exact HX8.out.set 4 _)
                          have HQ9 := Lib.hid (HQ8.out.fr HF89.out (fun e => by omega) (HAl.out (fun j => j = sb) (fun j e => by have := HHh.out; omega)))
                          have hsb7 : sb < w7.heap.size := HX7.out.lt
                          have HO9 := Lib.hid (own_fr HO8.out HF89.out (fun j hj e => by have := (World.ownsRow.lt HO8.out j hj).1; omega))
                          have HFt9 := Lib.hid (show Fr (fun j => j = h ∨ j = sb) wv w9 from (((HF6.out.mono (T := fun j => j = h ∨ j = sb) (fun _ _ e => .inl e)).trans HF67.out (fun _ _ e => .inr e)).trans HF8.out (fun _ _ e => .inl e)).trans HF89.out (fun _ _ e => .inr e))
                          have HW9 := Lib.hid (HWv.out.fr HFt9.out (fun e => by have := HHh.out; omega))
                          have HFw9 := Lib.hid (show Fr (fun j => w.heap.size ≤ j) w w9 from HFwv.out.trans HFt9.out (fun i hi e => by have := HHh.out; omega))
                          clear hw9 x0 x1 x2 x3 x4 y0 y1 y2 y3 y4 zy4
                          have HSz7 := Lib.hid (show w.heap.size + 1 ≤ w7.heap.size ∧ sb < w7.heap.size from by have := HHh.out; omega)
                          have rc2 := HQ9.out.c2
                          by_cases hr : r5 = 0
                          · subst hr
                            rw [if_neg (by simp)] at hR
                            obtain ⟨X, hX⟩ : ∃ X, crcI ld = X := ⟨_, rfl⟩
                            rw [hX] at hR
                            have hlz : Lies w9 A8 (bytesV ld) := Lies.of_own HO9.out
                            have hLm : ld.length ≤ 9223372036854775807 := by
                              obtain ⟨_, _, hv, h1, h2⟩ := own_slice HO9.out
                              rw [HLL.out]
                              unfold maxLen at h2
                              omega
                            have hcr := fun (q : Later w9) => QcOf_any A8 c8 ld q.w' (hlz.fr q.fr (fun _ _ e => e)) hLm
                            simp only [HLL.out] at hcr
                            have HCr := Lib.hid hcr
                            clear hlz hLm hcr
                            unfold crcI at hX
                            simp only [hX] at HCr
                            have q3 : ∀ q : Later w9, q.w'.cell? ⟨sb, 3, none⟩ = some (.int .u32 s) := fun q => ((HX9.out.fr q.fr (fun e => e)).five).2.2.2.1
                            have q4 : ∀ q : Later w9, q.w'.cell? ⟨sb, 4, none⟩ = some (.slice A8 LL c8) := fun q => ((HX9.out.fr q.fr (fun e => e)).five).2.2.2.2
                            clear hX
                            by_cases hx : X = s
                            · subst hx
                              rw [if_neg (by simp)] at hR
                              have HR := Lib.hid hR.symm
                              clear hR
                              go_upto_region 21 with fail
                              refine wp_region_later (w0 := w9) (Fr.refl _ _) (by kernel_rfl) (by kernel_rfl) ?_
                              repeat (quiet_step ((go_at_call 31; refine Calls.later_of (HCr.out _))))
                              refine wpQuiet_nil ?_
                              intro _ hw'
                              obtain ⟨q, hw''⟩ := hw'
                              have HFq := Lib.hid q.fr
                              subst hw''
                              obtain ⟨wq, hwq⟩ : ∃ wq, q.w' = wq := ⟨_, rfl⟩
                              rw [hwq] at HFq ⊢
                              clear q3 q4 rc2 hwq q
                              have HWq := Lib.hid (HW9.out.fr HFq.out (fun e => e))
                              have HFwq := Lib.hid (show Fr (fun j => w.heap.size ≤ j) w wq from HFw9.out.trans HFq.out (fun _ _ e => e.elim))
                              have HXq := Lib.hid (HX9.out.fr HFq.out (fun e => e))
                              have HOq := Lib.hid (own_fr HO9.out HFq.out (fun _ _ e => e))
                              have rc1 := (HQ9.out.fr HFq.out (fun e => e) (fun _ _ _ e => e)).c1
                              obtain ⟨x0, x1, x2, x3, x4⟩ := HXq.out.five
                              have zx2 := HXq.out.frozen 2
                              go_upto_region 24 with fail
                              obtain ⟨wr, hwr⟩ : ∃ wr, wq.setCell ⟨sb, 2, none⟩ (.int .i64 p5) = wr := ⟨_, rfl⟩
                              rw [hwr]
                              have HFr := Lib.hid (show Fr (fun j => j = sb) wq wr by subst hwr; exact Fr.setCell (S := fun j => j = sb) (p := ⟨sb, 2, none⟩) (Fr.refl _ wq) (fun _ => rfl) _)
                              have HXr := Lib.hid (show Whole wr sb 89 #[.int .i64 (k : Int), .int .i64 ((P : Int) - v2), .int .i64 p5, .int .u32 s, .slice A8 LL c8] by subst hwr; exact HXq.out.set 2 _)
                              have HWr := Lib.hid (HWq.out.fr HFr.out (fun e => by have := HHh.out; omega))
                              have HOr := Lib.hid (own_fr HOq.out HFr.out (fun j hj e => by have := (World.ownsRow.lt HOq.out j hj).1; have := HSz7.out; omega))
                              have HFwr := Lib.hid (show Fr (fun j => w.heap.size ≤ j) w wr from HFwq.out.trans HFr.out (fun i hi e => by have := HHh.out; omega))
                              clear hwr x0 x1 x2 x3 x4 zx2 rc1
                              obtain ⟨x0, x1, x2, x3, x4⟩ := HXr.out.five
                              (
                                obtain ⟨e0, e1, e2, e3, e4⟩ := HWr.out.five
                                have z0 := HWr.out.frozen 0
                                have z1 := HWr.out.frozen 1
                                have z2 := HWr.out.frozen 2
                                have z3 := HWr.out.frozen 3
                                have z4 := HWr.out.frozen 4)
                              go_wp2_with fail
                              have hW9 := setE_whole (a := .int .i64 (k : Int)) (b := .int .i64 ((P : Int) - v2)) (c := .int .i64 p5) (d := .int .u32 s) (e := .slice A8 LL c8) HWr.out
                              have hF9 := setE_fr wr w.heap.size (.int .i64 (k : Int)) (.int .i64 ((P : Int) - v2)) (.int .i64 p5) (.int .u32 s) (.slice A8 LL c8)
                              refine bodyPost_ret (v := .tuple #[.agg #[.int .i64 (k : Int), .int .i64 ((P : Int) - v2), .int .i64 p5, .int .u32 s, .slice A8 LL c8], .int .i64 0]) (results_cell_slot (p := 6) (u := 7) rfl _ _ _ _ _ _ rfl hW9 Tryz.underlying89 rfl (by kernel_rfl)) rfl ?_
                              rw [HR.out]
                              refine ⟨.slice A8 LL c8, rfl, ?_, (HFwr.out.trans hF9 (fun i hi e => by omega)).below (fun i hi e => by omega)⟩
                              simp only [HLL.out]
                              exact own_lowerP (own_fr HOr.out hF9 (fun j hj e => by have := (World.ownsRow.lt HOr.out j hj).1; have := HSz7.out; omega)) (by have := HSz7.out; omega)
                            · rw [if_pos hx] at hR
                              have HR := Lib.hid hR.symm
                              have hx' : (X != (s : Int)) = true := by simpa using hx
                              clear hR
                              go_upto_region 21 with fail
                              refine wp_region_later (w0 := w9) (Fr.refl _ _) (by kernel_rfl) (by kernel_rfl) ?_
                              repeat (quiet_step ((go_at_call 31; refine Calls.later_of (HCr.out _))))
                              refine wpQuiet_nil ?_
                              intro _ hw'
                              obtain ⟨q, hw''⟩ := hw'
                              have HFq := Lib.hid q.fr
                              subst hw''
                              obtain ⟨wq, hwq⟩ : ∃ wq, q.w' = wq := ⟨_, rfl⟩
                              rw [hwq] at HFq ⊢
                              clear q3 q4 rc2 hwq q
                              have HWq := Lib.hid (HW9.out.fr HFq.out (fun e => e))
                              have HFwq := Lib.hid (show Fr (fun j => w.heap.size ≤ j) w wq from HFw9.out.trans HFq.out (fun _ _ e => e.elim))
                              (
                                obtain ⟨e0, e1, e2, e3, e4⟩ := HWq.out.five
                                have z0 := HWq.out.frozen 0
                                have z1 := HWq.out.frozen 1
                                have z2 := HWq.out.frozen 2
                                have z3 := HWq.out.frozen 3
                                have z4 := HWq.out.frozen 4)
                              go_wp2_with fail
                              (
                                have hW9 := setE_whole (a := .int .i64 0) (b := .int .i64 0) (c := .int .i64 0) (d := .int .u32 0) (e := .slice none 0 0) HWq.out
                                have hF9 := setE_fr wq w.heap.size (.int .i64 0) (.int .i64 0) (.int .i64 0) (.int .u32 0) (.slice none 0 0)
                                refine bodyPost_ret (v := .tuple #[.agg #[.int .i64 0, .int .i64 0, .int .i64 0, .int .u32 0, .slice none 0 0], .int .i64 13]) (results_cell_slot (p := 6) (u := 7) rfl _ _ _ _ _ _ rfl hW9 Tryz.underlying89 rfl (by kernel_rfl)) rfl ?_
                                rw [HR.out]
                                exact ⟨.slice none 0 0, rfl, World.ownsRow_nil _ _ _ _, (HFwq.out.trans hF9 (fun i hi e => by omega)).below (fun i hi e => by omega)⟩)
                          · rw [if_pos hr] at hR
                            have HR := Lib.hid hR.symm
                            have hr' : (r5 != 0) = true := by simpa using hr
                            clear hR
                            go_upto_region 20 with fail
                            have HQc := Lib.hid (show ∀ w', Fr (fun j => j = w.heap.size) w9 w' → w'.cell? ⟨h, 2, none⟩ = some (.int .i64 r5) from fun w' f => f.cell (HQ9.out.c2) (fun e => by have := HHh.out; simp only at e; omega))
                            refine wp_region_held (S := fun w' => Fr (fun j => j = w.heap.size) w9 w') (by kernel_rfl) ?_
                            have HSq := Lib.hid (show Fr (fun j => j = w.heap.size) w9 (World.drew w9) from (Fr.refl _ w9).drew)
                            (
                              refine wpAnyH_takeP (i := 0) (v := .agg #[.int .i64 0, .int .i64 0, .int .i64 0, .int .u32 0, .slice none 0 0]) 99 rfl rfl (by kernel_rfl) (by kernel_rfl) (by kernel_rfl) (fun _ _ _ h => h) (.inl ⟨by rfl, ?_⟩) HSq.out ?_
                              · intro xw xf
                                go_simp)
                            (
                              refine wpAnyH_takeP (i := 1) (v := .pointer (some ⟨h, 0, none⟩)) 100 rfl rfl (by kernel_rfl) (by kernel_rfl) (by kernel_rfl) (fun _ _ _ h => h) (.inl ⟨by rfl, ?_⟩) HSq.out ?_
                              · intro xw xf
                                go_simp)
                            (
                              refine wpAnyH_takeP (i := 2) (v := .pointer (some ⟨h, 0, none⟩)) 101 rfl rfl (by kernel_rfl) (by kernel_rfl) (by kernel_rfl) (fun _ _ _ h => h) (.inl ⟨by rfl, ?_⟩) HSq.out ?_
                              · intro xw xf
                                go_simp)
                            (
                              refine wpAnyH_takeP (i := 3) (v := .pointer (some ⟨h, 2, none⟩)) 102 rfl rfl (by kernel_rfl) (by kernel_rfl) (by kernel_rfl) (fun _ _ _ h => h) (.inl ⟨by rfl, ?_⟩) HSq.out ?_
                              · intro xw xf
                                go_simp)
                            (
                              refine wpAnyH_takeP (i := 4) (v := .int .i64 r5) 103 rfl rfl (by kernel_rfl) (by kernel_rfl) (by kernel_rfl) (fun _ _ _ h => h) (.inl ⟨by rfl, ?_⟩) HSq.out ?_
                              · intro xw xf
                                have xc := HQc.out xw xf
                                go_simp)
                            change wpAnyH _ _ _ _ _ _ _ _ (World.drew w9)
                            have HFd := Lib.hid (show Fr (fun _ => False) w9 (World.drew w9) from (Fr.refl _ w9).drew)
                            obtain ⟨wd, hwd⟩ : ∃ wd, World.drew w9 = wd := ⟨_, rfl⟩
                            rw [hwd]
                            rw [hwd] at HFd
                            clear hwd HSq
                            have HWd := Lib.hid (HW9.out.fr HFd.out (fun e => e))
                            have HFwd := Lib.hid (show Fr (fun j => w.heap.size ≤ j) w wd from HFw9.out.trans HFd.out (fun _ _ e => e.elim))
                            (
                              obtain ⟨e0, e1, e2, e3, e4⟩ := HWd.out.five
                              have z0 := HWd.out.frozen 0
                              have z1 := HWd.out.frozen 1
                              have z2 := HWd.out.frozen 2
                              have z3 := HWd.out.frozen 3
                              have z4 := HWd.out.frozen 4)
                            have HSs := Lib.hid (show Fr (fun j => j = w.heap.size) w9 (((((wd.setCell ⟨w.heap.size, 0, none⟩ (.int .i64 0)).setCell ⟨w.heap.size, 1, none⟩ (.int .i64 0)).setCell ⟨w.heap.size, 2, none⟩ (.int .i64 0)).setCell ⟨w.heap.size, 3, none⟩ (.int .u32 0)).setCell ⟨w.heap.size, 4, none⟩ (.slice none 0 0)) from (HFd.out.mono (fun _ _ e => e.elim)).trans (setE_fr wd w.heap.size _ _ _ _ _) (fun _ _ e => e))
                            (
                              try simp only [List.setIfInBounds_toArray, List.set_cons_succ, List.set_cons_zero]
                              refine wpAnyH_all (rs := [5]) (by kernel_rfl) (by simp) ?_
                              intro i hi
                              simp only [List.mem_cons, List.not_mem_nil, or_false] at hi
                              subst hi)
                            refine wpOp_step rfl (fun K hK => ?_)
                            go_simp
                            refine hK _ _ ⟨HSs.out, ?_⟩
                            clear hK K
                            (
                              try simp only [List.setIfInBounds_toArray, List.set_cons_succ, List.set_cons_zero]
                              refine wpAnyH_all (rs := [6]) (by kernel_rfl) (by simp) ?_
                              intro i hi
                              simp only [List.mem_cons, List.not_mem_nil, or_false] at hi
                              subst hi)
                            refine wpOp_step rfl (fun K hK => ?_)
                            go_simp
                            refine hK _ _ ⟨HSs.out, ?_⟩
                            clear hK K
                            refine wpAnyH_done (by kernel_rfl) ?_ _
                            go_wp2_with fail
                            (
                              have hW9 := setE_whole (a := .int .i64 0) (b := .int .i64 0) (c := .int .i64 0) (d := .int .u32 0) (e := .slice none 0 0) HWd.out
                              have hF9 := setE_fr wd w.heap.size (.int .i64 0) (.int .i64 0) (.int .i64 0) (.int .u32 0) (.slice none 0 0)
                              refine bodyPost_ret (v := .tuple #[.agg #[.int .i64 0, .int .i64 0, .int .i64 0, .int .u32 0, .slice none 0 0], .int .i64 r5]) (results_cell_slot (p := 6) (u := 7) rfl _ _ _ _ _ _ rfl hW9 Tryz.underlying89 rfl (by kernel_rfl)) rfl ?_
                              rw [HR.out]
                              exact ⟨.slice none 0 0, rfl, World.ownsRow_nil _ _ _ _, (HFwd.out.trans hF9 (fun i hi e => by omega)).below (fun i hi e => by omega)⟩)))
              · rw [if_neg (by omega), if_neg (by omega)] at hR
                have hr3' : (r3 == 0) = false := by simpa using hr3
                clear hr3
                (
                  obtain ⟨x0, x1, x2, x3, x4⟩ := HXu.out.five
                  have zx1 := HXu.out.frozen 1
                  go_upto_region 17 with fail
                  obtain ⟨wv, hwv⟩ : ∃ wv, wu.setCell ⟨sb, 1, none⟩ (.int .i64 ((P : Int) - v2)) = wv := ⟨_, rfl⟩
                  rw [hwv]
                  have HFv := Lib.hid (show Fr (fun j => j = sb) wu wv by subst hwv; exact Fr.setCell (S := fun j => j = sb) (p := ⟨sb, 1, none⟩) (Fr.refl _ wu) (fun _ => rfl) _)
                  have HXv := Lib.hid (show Whole wv sb 89 #[.int .i64 k, .int .i64 ((P : Int) - v2), .int .i64 0, .int .u32 0, .slice none 0 0] by subst hwv; exact HXu.out.set 1 _)
                  have HWv := Lib.hid (HWu.out.fr HFv.out (fun e => by have := HHh.out; have := HSb.out; omega))
                  have HFwv := Lib.hid (show Fr (fun j => w.heap.size ≤ j) w wv from HFwu.out.trans HFv.out (fun i hi e => by have := HHh.out; have := HSb.out; omega))
                  have HQv := Lib.hid (HQu.out.fr HFv.out (fun e => by have := HSb.out; omega) (HAl.out (fun j => j = sb) (fun j e => by have := HHh.out; have := HSb.out; omega)))
                  clear hwv zx1 ru
                  (
                    unfold opnT at hR
                    have HBg := Lib.hid (qBig_any h A c D p3 r3 4 wv HQv.out (by omega))
                    have hs0 := numV_lt D p3 r3 4
                    unfold QPost at HBg
                    simp only [show ((4 : Nat) : Int) = 4 from rfl] at HBg
                    rw [HDl.out] at HBg hR
                    obtain ⟨s, hs⟩ : ∃ s, numV D p3 r3 4 = s := ⟨_, rfl⟩
                    obtain ⟨p4, hp4⟩ : ∃ p4, stepAt N p3 r3 4 = p4 := ⟨_, rfl⟩
                    obtain ⟨r4, hr4⟩ : ∃ r4, hasErr N p3 r3 4 = r4 := ⟨_, rfl⟩
                    rw [hp4, hr4] at hR HBg
                    rw [hs] at hR HBg hs0
                    have HRw := Lib.hid (fun w' (q : Qd w' h A c D p4 r4) => qRaw_any h A c D p4 r4 v1 w' q (by omega) (by omega))
                    unfold QRawPost at HRw
                    rw [HDl.out] at HRw
                    obtain ⟨ld, hld⟩ : ∃ ld, rawB D p4 r4 v1 = ld := ⟨_, rfl⟩
                    obtain ⟨p5, hp5⟩ : ∃ p5, rawAt N p4 r4 v1 = p5 := ⟨_, rfl⟩
                    obtain ⟨r5, hr5⟩ : ∃ r5, rawErr N p4 r4 v1 = r5 := ⟨_, rfl⟩
                    rw [hld, hp5, hr5] at hR
                    simp only [hld, hp5, hr5] at HRw
                    obtain ⟨LL, hLL⟩ : ∃ LL, ld.length = LL := ⟨_, rfl⟩
                    have HLL := Lib.hid hLL
                    simp only [hLL] at HRw
                    have hsw : IntKind.u32.wrap (s : Int) = s := by rw [IntKind.wrap_u32]; omega
                    have hHs := HSb.out
                    clear hs hp4 hr4 hld hp5 hr5 hLL
                    clear x0 x1 x2 x3 x4
                    have zx3 := HXv.out.frozen 3
                    obtain ⟨x0, x1, x2, x3, x4⟩ := HXv.out.five
                    go_upto_region 18 with (go_at_call 60; refine HBg.out.mono ?_; rintro e w6 ⟨rfl, q6, f6⟩; have HQ6 := Lib.hid q6; have HF6 := Lib.hid f6; have HX6 := Lib.hid (HXv.out.fr f6 (fun e => by omega)); obtain ⟨y0, y1, y2, y3, y4⟩ := HX6.out.five; have zy3 := HX6.out.frozen 3; clear q6 f6)
                    obtain ⟨w7, hw7⟩ : ∃ w7, w6.setCell ⟨sb, 3, none⟩ (.int .u32 s) = w7 := ⟨_, rfl⟩
                    rw [hw7]
                    have HF67 := Lib.hid (show Fr (fun j => j = sb) w6 w7 by subst hw7; exact Fr.setCell (S := fun j => j = sb) (p := ⟨sb, 3, none⟩) (Fr.refl _ w6) (fun _ => rfl) _)
                    have HX7 := Lib.hid (show Whole w7 sb 89 #[.int .i64 (k : Int), .int .i64 ((P : Int) - v2), .int .i64 0, .int .u32 s, .slice none 0 0] by subst hw7; exact HX6.out.set 3 _)
                    have HQ7 := Lib.hid (HQ6.out.fr HF67.out (fun e => by omega) (HAl.out (fun j => j = sb) (fun j e => by have := HHh.out; omega)))
                    clear hw7 x0 x1 x2 x3 x4 y0 y1 y2 y3 y4 zx3 zy3
                    obtain ⟨x0, x1, x2, x3, x4⟩ := HX7.out.five
                    go_upto_region 19 with (go_at_call 62; refine (HRw.out w7 HQ7.out).mono ?_; rintro e w8 ⟨v8, rfl, o8, q8, f8⟩; have HQ8 := Lib.hid q8; have HF8 := Lib.hid f8; have HX8 := Lib.hid (HX7.out.fr f8 (fun e => by omega)); obtain ⟨y0, y1, y2, y3, y4⟩ := HX8.out.five; have zy4 := HX8.out.frozen 4; have HO8 := Lib.hid o8; obtain ⟨A8, c8, hv8, _, _⟩ := own_slice o8; subst hv8; clear o8 q8 f8)
                    obtain ⟨w9, hw9⟩ : ∃ w9, w8.setCell ⟨sb, 4, none⟩ (.slice A8 LL c8) = w9 := ⟨_, rfl⟩
                    rw [hw9]
                    have HF89 := Lib.hid (show Fr (fun j => j = sb) w8 w9 by subst hw9; exact Fr.setCell (S := fun j => j = sb) (p := ⟨sb, 4, none⟩) (Fr.refl _ w8) (fun _ => rfl) _)
                    have HX9 := Lib.hid (show Whole w9 sb 89 #[.int .i64 (k : Int), .int .i64 ((P : Int) - v2), .int .i64 0, .int .u32 s, .slice A8 LL c8] by subst hw9; exact HX8.out.set 4 _)
                    have HQ9 := Lib.hid (HQ8.out.fr HF89.out (fun e => by omega) (HAl.out (fun j => j = sb) (fun j e => by have := HHh.out; omega)))
                    have hsb7 : sb < w7.heap.size := HX7.out.lt
                    have HO9 := Lib.hid (own_fr HO8.out HF89.out (fun j hj e => by have := (World.ownsRow.lt HO8.out j hj).1; omega))
                    have HFt9 := Lib.hid (show Fr (fun j => j = h ∨ j = sb) wv w9 from (((HF6.out.mono (T := fun j => j = h ∨ j = sb) (fun _ _ e => .inl e)).trans HF67.out (fun _ _ e => .inr e)).trans HF8.out (fun _ _ e => .inl e)).trans HF89.out (fun _ _ e => .inr e))
                    have HW9 := Lib.hid (HWv.out.fr HFt9.out (fun e => by have := HHh.out; omega))
                    have HFw9 := Lib.hid (show Fr (fun j => w.heap.size ≤ j) w w9 from HFwv.out.trans HFt9.out (fun i hi e => by have := HHh.out; omega))
                    clear hw9 x0 x1 x2 x3 x4 y0 y1 y2 y3 y4 zy4
                    have HSz7 := Lib.hid (show w.heap.size + 1 ≤ w7.heap.size ∧ sb < w7.heap.size from by have := HHh.out; omega)
                    have rc2 := HQ9.out.c2
                    by_cases hr : r5 = 0
                    · subst hr
                      rw [if_neg (by simp)] at hR
                      obtain ⟨X, hX⟩ : ∃ X, crcI ld = X := ⟨_, rfl⟩
                      rw [hX] at hR
                      have hlz : Lies w9 A8 (bytesV ld) := Lies.of_own HO9.out
                      have hLm : ld.length ≤ 9223372036854775807 := by
                        obtain ⟨_, _, hv, h1, h2⟩ := own_slice HO9.out
                        rw [HLL.out]
                        unfold maxLen at h2
                        omega
                      have hcr := fun (q : Later w9) => QcOf_any A8 c8 ld q.w' (hlz.fr q.fr (fun _ _ e => e)) hLm
                      simp only [HLL.out] at hcr
                      have HCr := Lib.hid hcr
                      clear hlz hLm hcr
                      unfold crcI at hX
                      simp only [hX] at HCr
                      have q3 : ∀ q : Later w9, q.w'.cell? ⟨sb, 3, none⟩ = some (.int .u32 s) := fun q => ((HX9.out.fr q.fr (fun e => e)).five).2.2.2.1
                      have q4 : ∀ q : Later w9, q.w'.cell? ⟨sb, 4, none⟩ = some (.slice A8 LL c8) := fun q => ((HX9.out.fr q.fr (fun e => e)).five).2.2.2.2
                      clear hX
                      by_cases hx : X = s
                      · subst hx
                        rw [if_neg (by simp)] at hR
                        have HR := Lib.hid hR.symm
                        clear hR
                        go_upto_region 21 with fail
                        refine wp_region_later (w0 := w9) (Fr.refl _ _) (by kernel_rfl) (by kernel_rfl) ?_
                        repeat (quiet_step ((go_at_call 31; refine Calls.later_of (HCr.out _))))
                        refine wpQuiet_nil ?_
                        intro _ hw'
                        obtain ⟨q, hw''⟩ := hw'
                        have HFq := Lib.hid q.fr
                        subst hw''
                        obtain ⟨wq, hwq⟩ : ∃ wq, q.w' = wq := ⟨_, rfl⟩
                        rw [hwq] at HFq ⊢
                        clear q3 q4 rc2 hwq q
                        have HWq := Lib.hid (HW9.out.fr HFq.out (fun e => e))
                        have HFwq := Lib.hid (show Fr (fun j => w.heap.size ≤ j) w wq from HFw9.out.trans HFq.out (fun _ _ e => e.elim))
                        have HXq := Lib.hid (HX9.out.fr HFq.out (fun e => e))
                        have HOq := Lib.hid (own_fr HO9.out HFq.out (fun _ _ e => e))
                        have rc1 := (HQ9.out.fr HFq.out (fun e => e) (fun _ _ _ e => e)).c1
                        obtain ⟨x0, x1, x2, x3, x4⟩ := HXq.out.five
                        have zx2 := HXq.out.frozen 2
                        go_upto_region 24 with fail
                        obtain ⟨wr, hwr⟩ : ∃ wr, wq.setCell ⟨sb, 2, none⟩ (.int .i64 p5) = wr := ⟨_, rfl⟩
                        rw [hwr]
                        have HFr := Lib.hid (show Fr (fun j => j = sb) wq wr by subst hwr; exact Fr.setCell (S := fun j => j = sb) (p := ⟨sb, 2, none⟩) (Fr.refl _ wq) (fun _ => rfl) _)
                        have HXr := Lib.hid (show Whole wr sb 89 #[.int .i64 (k : Int), .int .i64 ((P : Int) - v2), .int .i64 p5, .int .u32 s, .slice A8 LL c8] by subst hwr; exact HXq.out.set 2 _)
                        have HWr := Lib.hid (HWq.out.fr HFr.out (fun e => by have := HHh.out; omega))
                        have HOr := Lib.hid (own_fr HOq.out HFr.out (fun j hj e => by have := (World.ownsRow.lt HOq.out j hj).1; have := HSz7.out; omega))
                        have HFwr := Lib.hid (show Fr (fun j => w.heap.size ≤ j) w wr from HFwq.out.trans HFr.out (fun i hi e => by have := HHh.out; omega))
                        clear hwr x0 x1 x2 x3 x4 zx2 rc1
                        obtain ⟨x0, x1, x2, x3, x4⟩ := HXr.out.five
                        (
                          obtain ⟨e0, e1, e2, e3, e4⟩ := HWr.out.five
                          have z0 := HWr.out.frozen 0
                          have z1 := HWr.out.frozen 1
                          have z2 := HWr.out.frozen 2
                          have z3 := HWr.out.frozen 3
                          have z4 := HWr.out.frozen 4)
                        go_wp2_with fail
                        have hW9 := setE_whole (a := .int .i64 (k : Int)) (b := .int .i64 ((P : Int) - v2)) (c := .int .i64 p5) (d := .int .u32 s) (e := .slice A8 LL c8) HWr.out
                        have hF9 := setE_fr wr w.heap.size (.int .i64 (k : Int)) (.int .i64 ((P : Int) - v2)) (.int .i64 p5) (.int .u32 s) (.slice A8 LL c8)
                        refine bodyPost_ret (v := .tuple #[.agg #[.int .i64 (k : Int), .int .i64 ((P : Int) - v2), .int .i64 p5, .int .u32 s, .slice A8 LL c8], .int .i64 0]) (results_cell_slot (p := 6) (u := 7) rfl _ _ _ _ _ _ rfl hW9 Tryz.underlying89 rfl (by kernel_rfl)) rfl ?_
                        rw [HR.out]
                        refine ⟨.slice A8 LL c8, rfl, ?_, (HFwr.out.trans hF9 (fun i hi e => by omega)).below (fun i hi e => by omega)⟩
                        simp only [HLL.out]
                        exact own_lowerP (own_fr HOr.out hF9 (fun j hj e => by have := (World.ownsRow.lt HOr.out j hj).1; have := HSz7.out; omega)) (by have := HSz7.out; omega)
                      · rw [if_pos hx] at hR
                        have HR := Lib.hid hR.symm
                        have hx' : (X != (s : Int)) = true := by simpa using hx
                        clear hR
                        go_upto_region 21 with fail
                        refine wp_region_later (w0 := w9) (Fr.refl _ _) (by kernel_rfl) (by kernel_rfl) ?_
                        repeat (quiet_step ((go_at_call 31; refine Calls.later_of (HCr.out _))))
                        refine wpQuiet_nil ?_
                        intro _ hw'
                        obtain ⟨q, hw''⟩ := hw'
                        have HFq := Lib.hid q.fr
                        subst hw''
                        obtain ⟨wq, hwq⟩ : ∃ wq, q.w' = wq := ⟨_, rfl⟩
                        rw [hwq] at HFq ⊢
                        clear q3 q4 rc2 hwq q
                        have HWq := Lib.hid (HW9.out.fr HFq.out (fun e => e))
                        have HFwq := Lib.hid (show Fr (fun j => w.heap.size ≤ j) w wq from HFw9.out.trans HFq.out (fun _ _ e => e.elim))
                        (
                          obtain ⟨e0, e1, e2, e3, e4⟩ := HWq.out.five
                          have z0 := HWq.out.frozen 0
                          have z1 := HWq.out.frozen 1
                          have z2 := HWq.out.frozen 2
                          have z3 := HWq.out.frozen 3
                          have z4 := HWq.out.frozen 4)
                        go_wp2_with fail
                        (
                          have hW9 := setE_whole (a := .int .i64 0) (b := .int .i64 0) (c := .int .i64 0) (d := .int .u32 0) (e := .slice none 0 0) HWq.out
                          have hF9 := setE_fr wq w.heap.size (.int .i64 0) (.int .i64 0) (.int .i64 0) (.int .u32 0) (.slice none 0 0)
                          refine bodyPost_ret (v := .tuple #[.agg #[.int .i64 0, .int .i64 0, .int .i64 0, .int .u32 0, .slice none 0 0], .int .i64 13]) (results_cell_slot (p := 6) (u := 7) rfl _ _ _ _ _ _ rfl hW9 Tryz.underlying89 rfl (by kernel_rfl)) rfl ?_
                          rw [HR.out]
                          exact ⟨.slice none 0 0, rfl, World.ownsRow_nil _ _ _ _, (HFwq.out.trans hF9 (fun i hi e => by omega)).below (fun i hi e => by omega)⟩)
                    · rw [if_pos hr] at hR
                      have HR := Lib.hid hR.symm
                      have hr' : (r5 != 0) = true := by simpa using hr
                      clear hR
                      go_upto_region 20 with fail
                      have HQc := Lib.hid (show ∀ w', Fr (fun j => j = w.heap.size) w9 w' → w'.cell? ⟨h, 2, none⟩ = some (.int .i64 r5) from fun w' f => f.cell (HQ9.out.c2) (fun e => by have := HHh.out; simp only at e; omega))
                      refine wp_region_held (S := fun w' => Fr (fun j => j = w.heap.size) w9 w') (by kernel_rfl) ?_
                      have HSq := Lib.hid (show Fr (fun j => j = w.heap.size) w9 (World.drew w9) from (Fr.refl _ w9).drew)
                      (
                        refine wpAnyH_takeP (i := 0) (v := .agg #[.int .i64 0, .int .i64 0, .int .i64 0, .int .u32 0, .slice none 0 0]) 99 rfl rfl (by kernel_rfl) (by kernel_rfl) (by kernel_rfl) (fun _ _ _ h => h) (.inl ⟨by rfl, ?_⟩) HSq.out ?_
                        · intro xw xf
                          go_simp)
                      (
                        refine wpAnyH_takeP (i := 1) (v := .pointer (some ⟨h, 0, none⟩)) 100 rfl rfl (by kernel_rfl) (by kernel_rfl) (by kernel_rfl) (fun _ _ _ h => h) (.inl ⟨by rfl, ?_⟩) HSq.out ?_
                        · intro xw xf
                          go_simp)
                      (
                        refine wpAnyH_takeP (i := 2) (v := .pointer (some ⟨h, 0, none⟩)) 101 rfl rfl (by kernel_rfl) (by kernel_rfl) (by kernel_rfl) (fun _ _ _ h => h) (.inl ⟨by rfl, ?_⟩) HSq.out ?_
                        · intro xw xf
                          go_simp)
                      (
                        refine wpAnyH_takeP (i := 3) (v := .pointer (some ⟨h, 2, none⟩)) 102 rfl rfl (by kernel_rfl) (by kernel_rfl) (by kernel_rfl) (fun _ _ _ h => h) (.inl ⟨by rfl, ?_⟩) HSq.out ?_
                        · intro xw xf
                          go_simp)
                      (
                        refine wpAnyH_takeP (i := 4) (v := .int .i64 r5) 103 rfl rfl (by kernel_rfl) (by kernel_rfl) (by kernel_rfl) (fun _ _ _ h => h) (.inl ⟨by rfl, ?_⟩) HSq.out ?_
                        · intro xw xf
                          have xc := HQc.out xw xf
                          go_simp)
                      change wpAnyH _ _ _ _ _ _ _ _ (World.drew w9)
                      have HFd := Lib.hid (show Fr (fun _ => False) w9 (World.drew w9) from (Fr.refl _ w9).drew)
                      obtain ⟨wd, hwd⟩ : ∃ wd, World.drew w9 = wd := ⟨_, rfl⟩
                      rw [hwd]
                      rw [hwd] at HFd
                      clear hwd HSq
                      have HWd := Lib.hid (HW9.out.fr HFd.out (fun e => e))
                      have HFwd := Lib.hid (show Fr (fun j => w.heap.size ≤ j) w wd from HFw9.out.trans HFd.out (fun _ _ e => e.elim))
                      (
                        obtain ⟨e0, e1, e2, e3, e4⟩ := HWd.out.five
                        have z0 := HWd.out.frozen 0
                        have z1 := HWd.out.frozen 1
                        have z2 := HWd.out.frozen 2
                        have z3 := HWd.out.frozen 3
                        have z4 := HWd.out.frozen 4)
                      have HSs := Lib.hid (show Fr (fun j => j = w.heap.size) w9 (((((wd.setCell ⟨w.heap.size, 0, none⟩ (.int .i64 0)).setCell ⟨w.heap.size, 1, none⟩ (.int .i64 0)).setCell ⟨w.heap.size, 2, none⟩ (.int .i64 0)).setCell ⟨w.heap.size, 3, none⟩ (.int .u32 0)).setCell ⟨w.heap.size, 4, none⟩ (.slice none 0 0)) from (HFd.out.mono (fun _ _ e => e.elim)).trans (setE_fr wd w.heap.size _ _ _ _ _) (fun _ _ e => e))
                      (
                        try simp only [List.setIfInBounds_toArray, List.set_cons_succ, List.set_cons_zero]
                        refine wpAnyH_all (rs := [5]) (by kernel_rfl) (by simp) ?_
                        intro i hi
                        simp only [List.mem_cons, List.not_mem_nil, or_false] at hi
                        subst hi)
                      refine wpOp_step rfl (fun K hK => ?_)
                      go_simp
                      refine hK _ _ ⟨HSs.out, ?_⟩
                      clear hK K
                      (
                        try simp only [List.setIfInBounds_toArray, List.set_cons_succ, List.set_cons_zero]
                        refine wpAnyH_all (rs := [6]) (by kernel_rfl) (by simp) ?_
                        intro i hi
                        simp only [List.mem_cons, List.not_mem_nil, or_false] at hi
                        subst hi)
                      refine wpOp_step rfl (fun K hK => ?_)
                      go_simp
                      refine hK _ _ ⟨HSs.out, ?_⟩
                      clear hK K
                      refine wpAnyH_done (by kernel_rfl) ?_ _
                      go_wp2_with fail
                      (
                        have hW9 := setE_whole (a := .int .i64 0) (b := .int .i64 0) (c := .int .i64 0) (d := .int .u32 0) (e := .slice none 0 0) HWd.out
                        have hF9 := setE_fr wd w.heap.size (.int .i64 0) (.int .i64 0) (.int .i64 0) (.int .u32 0) (.slice none 0 0)
                        refine bodyPost_ret (v := .tuple #[.agg #[.int .i64 0, .int .i64 0, .int .i64 0, .int .u32 0, .slice none 0 0], .int .i64 r5]) (results_cell_slot (p := 6) (u := 7) rfl _ _ _ _ _ _ rfl hW9 Tryz.underlying89 rfl (by kernel_rfl)) rfl ?_
                        rw [HR.out]
                        exact ⟨.slice none 0 0, rfl, World.ownsRow_nil _ _ _ _, (HFwd.out.trans hF9 (fun i hi e => by omega)).below (fun i hi e => by omega)⟩)))
            · rw [if_neg hkq] at hR
              have hkq' : ((k : Int) == 5) = false := by simpa using hkq
              (
                unfold opnT at hR
                have HBg := Lib.hid (qBig_any h A c D p2 r2 4 w5 HQ5.out (by omega))
                have hs0 := numV_lt D p2 r2 4
                unfold QPost at HBg
                simp only [show ((4 : Nat) : Int) = 4 from rfl] at HBg
                rw [HDl.out] at HBg hR
                obtain ⟨s, hs⟩ : ∃ s, numV D p2 r2 4 = s := ⟨_, rfl⟩
                obtain ⟨p4, hp4⟩ : ∃ p4, stepAt N p2 r2 4 = p4 := ⟨_, rfl⟩
                obtain ⟨r4, hr4⟩ : ∃ r4, hasErr N p2 r2 4 = r4 := ⟨_, rfl⟩
                rw [hp4, hr4] at hR HBg
                rw [hs] at hR HBg hs0
                have HRw := Lib.hid (fun w' (q : Qd w' h A c D p4 r4) => qRaw_any h A c D p4 r4 v1 w' q (by omega) (by omega))
                unfold QRawPost at HRw
                rw [HDl.out] at HRw
                obtain ⟨ld, hld⟩ : ∃ ld, rawB D p4 r4 v1 = ld := ⟨_, rfl⟩
                obtain ⟨p5, hp5⟩ : ∃ p5, rawAt N p4 r4 v1 = p5 := ⟨_, rfl⟩
                obtain ⟨r5, hr5⟩ : ∃ r5, rawErr N p4 r4 v1 = r5 := ⟨_, rfl⟩
                rw [hld, hp5, hr5] at hR
                simp only [hld, hp5, hr5] at HRw
                obtain ⟨LL, hLL⟩ : ∃ LL, ld.length = LL := ⟨_, rfl⟩
                have HLL := Lib.hid hLL
                simp only [hLL] at HRw
                have hsw : IntKind.u32.wrap (s : Int) = s := by rw [IntKind.wrap_u32]; omega
                have hHs := HSb.out
                clear hs hp4 hr4 hld hp5 hr5 hLL
                clear x0 x1 x2 x3 x4
                have zx3 := HX5.out.frozen 3
                obtain ⟨x0, x1, x2, x3, x4⟩ := HX5.out.five
                go_upto_region 18 with (go_at_call 60; refine HBg.out.mono ?_; rintro e w6 ⟨rfl, q6, f6⟩; have HQ6 := Lib.hid q6; have HF6 := Lib.hid f6; have HX6 := Lib.hid (HX5.out.fr f6 (fun e => by omega)); obtain ⟨y0, y1, y2, y3, y4⟩ := HX6.out.five; have zy3 := HX6.out.frozen 3; clear q6 f6)
                obtain ⟨w7, hw7⟩ : ∃ w7, w6.setCell ⟨sb, 3, none⟩ (.int .u32 s) = w7 := ⟨_, rfl⟩
                rw [hw7]
                have HF67 := Lib.hid (show Fr (fun j => j = sb) w6 w7 by subst hw7; exact Fr.setCell (S := fun j => j = sb) (p := ⟨sb, 3, none⟩) (Fr.refl _ w6) (fun _ => rfl) _)
                have HX7 := Lib.hid (show Whole w7 sb 89 #[.int .i64 (k : Int), .int .i64 0, .int .i64 0, .int .u32 s, .slice none 0 0] by subst hw7; exact HX6.out.set 3 _)
                have HQ7 := Lib.hid (HQ6.out.fr HF67.out (fun e => by omega) (HAl.out (fun j => j = sb) (fun j e => by have := HHh.out; omega)))
                clear hw7 x0 x1 x2 x3 x4 y0 y1 y2 y3 y4 zx3 zy3
                obtain ⟨x0, x1, x2, x3, x4⟩ := HX7.out.five
                go_upto_region 19 with (go_at_call 62; refine (HRw.out w7 HQ7.out).mono ?_; rintro e w8 ⟨v8, rfl, o8, q8, f8⟩; have HQ8 := Lib.hid q8; have HF8 := Lib.hid f8; have HX8 := Lib.hid (HX7.out.fr f8 (fun e => by omega)); obtain ⟨y0, y1, y2, y3, y4⟩ := HX8.out.five; have zy4 := HX8.out.frozen 4; have HO8 := Lib.hid o8; obtain ⟨A8, c8, hv8, _, _⟩ := own_slice o8; subst hv8; clear o8 q8 f8)
                obtain ⟨w9, hw9⟩ : ∃ w9, w8.setCell ⟨sb, 4, none⟩ (.slice A8 LL c8) = w9 := ⟨_, rfl⟩
                rw [hw9]
                have HF89 := Lib.hid (show Fr (fun j => j = sb) w8 w9 by subst hw9; exact Fr.setCell (S := fun j => j = sb) (p := ⟨sb, 4, none⟩) (Fr.refl _ w8) (fun _ => rfl) _)
                have HX9 := Lib.hid (show Whole w9 sb 89 #[.int .i64 (k : Int), .int .i64 0, .int .i64 0, .int .u32 s, .slice A8 LL c8] by subst hw9; exact HX8.out.set 4 _)
                have HQ9 := Lib.hid (HQ8.out.fr HF89.out (fun e => by omega) (HAl.out (fun j => j = sb) (fun j e => by have := HHh.out; omega)))
                have hsb7 : sb < w7.heap.size := HX7.out.lt
                have HO9 := Lib.hid (own_fr HO8.out HF89.out (fun j hj e => by have := (World.ownsRow.lt HO8.out j hj).1; omega))
                have HFt9 := Lib.hid (show Fr (fun j => j = h ∨ j = sb) w5 w9 from (((HF6.out.mono (T := fun j => j = h ∨ j = sb) (fun _ _ e => .inl e)).trans HF67.out (fun _ _ e => .inr e)).trans HF8.out (fun _ _ e => .inl e)).trans HF89.out (fun _ _ e => .inr e))
                have HW9 := Lib.hid (HW5.out.fr HFt9.out (fun e => by have := HHh.out; omega))
                have HFw9 := Lib.hid (show Fr (fun j => w.heap.size ≤ j) w w9 from HFw5.out.trans HFt9.out (fun i hi e => by have := HHh.out; omega))
                clear hw9 x0 x1 x2 x3 x4 y0 y1 y2 y3 y4 zy4
                have HSz7 := Lib.hid (show w.heap.size + 1 ≤ w7.heap.size ∧ sb < w7.heap.size from by have := HHh.out; omega)
                have rc2 := HQ9.out.c2
                by_cases hr : r5 = 0
                · subst hr
                  rw [if_neg (by simp)] at hR
                  obtain ⟨X, hX⟩ : ∃ X, crcI ld = X := ⟨_, rfl⟩
                  rw [hX] at hR
                  have hlz : Lies w9 A8 (bytesV ld) := Lies.of_own HO9.out
                  have hLm : ld.length ≤ 9223372036854775807 := by
                    obtain ⟨_, _, hv, h1, h2⟩ := own_slice HO9.out
                    rw [HLL.out]
                    unfold maxLen at h2
                    omega
                  have hcr := fun (q : Later w9) => QcOf_any A8 c8 ld q.w' (hlz.fr q.fr (fun _ _ e => e)) hLm
                  simp only [HLL.out] at hcr
                  have HCr := Lib.hid hcr
                  clear hlz hLm hcr
                  unfold crcI at hX
                  simp only [hX] at HCr
                  have q3 : ∀ q : Later w9, q.w'.cell? ⟨sb, 3, none⟩ = some (.int .u32 s) := fun q => ((HX9.out.fr q.fr (fun e => e)).five).2.2.2.1
                  have q4 : ∀ q : Later w9, q.w'.cell? ⟨sb, 4, none⟩ = some (.slice A8 LL c8) := fun q => ((HX9.out.fr q.fr (fun e => e)).five).2.2.2.2
                  clear hX
                  by_cases hx : X = s
                  · subst hx
                    rw [if_neg (by simp)] at hR
                    have HR := Lib.hid hR.symm
                    clear hR
                    go_upto_region 21 with fail
                    refine wp_region_later (w0 := w9) (Fr.refl _ _) (by kernel_rfl) (by kernel_rfl) ?_
                    repeat (quiet_step ((go_at_call 31; refine Calls.later_of (HCr.out _))))
                    refine wpQuiet_nil ?_
                    intro _ hw'
                    obtain ⟨q, hw''⟩ := hw'
                    have HFq := Lib.hid q.fr
                    subst hw''
                    obtain ⟨wq, hwq⟩ : ∃ wq, q.w' = wq := ⟨_, rfl⟩
                    rw [hwq] at HFq ⊢
                    clear q3 q4 rc2 hwq q
                    have HWq := Lib.hid (HW9.out.fr HFq.out (fun e => e))
                    have HFwq := Lib.hid (show Fr (fun j => w.heap.size ≤ j) w wq from HFw9.out.trans HFq.out (fun _ _ e => e.elim))
                    have HXq := Lib.hid (HX9.out.fr HFq.out (fun e => e))
                    have HOq := Lib.hid (own_fr HO9.out HFq.out (fun _ _ e => e))
                    have rc1 := (HQ9.out.fr HFq.out (fun e => e) (fun _ _ _ e => e)).c1
                    obtain ⟨x0, x1, x2, x3, x4⟩ := HXq.out.five
                    have zx2 := HXq.out.frozen 2
                    go_upto_region 24 with fail
                    obtain ⟨wr, hwr⟩ : ∃ wr, wq.setCell ⟨sb, 2, none⟩ (.int .i64 p5) = wr := ⟨_, rfl⟩
                    rw [hwr]
                    have HFr := Lib.hid (show Fr (fun j => j = sb) wq wr by subst hwr; exact Fr.setCell (S := fun j => j = sb) (p := ⟨sb, 2, none⟩) (Fr.refl _ wq) (fun _ => rfl) _)
                    have HXr := Lib.hid (show Whole wr sb 89 #[.int .i64 (k : Int), .int .i64 0, .int .i64 p5, .int .u32 s, .slice A8 LL c8] by subst hwr; exact HXq.out.set 2 _)
                    have HWr := Lib.hid (HWq.out.fr HFr.out (fun e => by have := HHh.out; omega))
                    have HOr := Lib.hid (own_fr HOq.out HFr.out (fun j hj e => by have := (World.ownsRow.lt HOq.out j hj).1; have := HSz7.out; omega))
                    have HFwr := Lib.hid (show Fr (fun j => w.heap.size ≤ j) w wr from HFwq.out.trans HFr.out (fun i hi e => by have := HHh.out; omega))
                    clear hwr x0 x1 x2 x3 x4 zx2 rc1
                    obtain ⟨x0, x1, x2, x3, x4⟩ := HXr.out.five
                    (
                      obtain ⟨e0, e1, e2, e3, e4⟩ := HWr.out.five
                      have z0 := HWr.out.frozen 0
                      have z1 := HWr.out.frozen 1
                      have z2 := HWr.out.frozen 2
                      have z3 := HWr.out.frozen 3
                      have z4 := HWr.out.frozen 4)
                    go_wp2_with fail
                    have hW9 := setE_whole (a := .int .i64 (k : Int)) (b := .int .i64 0) (c := .int .i64 p5) (d := .int .u32 s) (e := .slice A8 LL c8) HWr.out
                    have hF9 := setE_fr wr w.heap.size (.int .i64 (k : Int)) (.int .i64 0) (.int .i64 p5) (.int .u32 s) (.slice A8 LL c8)
                    refine bodyPost_ret (v := .tuple #[.agg #[.int .i64 (k : Int), .int .i64 0, .int .i64 p5, .int .u32 s, .slice A8 LL c8], .int .i64 0]) (results_cell_slot (p := 6) (u := 7) rfl _ _ _ _ _ _ rfl hW9 Tryz.underlying89 rfl (by kernel_rfl)) rfl ?_
                    rw [HR.out]
                    refine ⟨.slice A8 LL c8, rfl, ?_, (HFwr.out.trans hF9 (fun i hi e => by omega)).below (fun i hi e => by omega)⟩
                    simp only [HLL.out]
                    exact own_lowerP (own_fr HOr.out hF9 (fun j hj e => by have := (World.ownsRow.lt HOr.out j hj).1; have := HSz7.out; omega)) (by have := HSz7.out; omega)
                  · rw [if_pos hx] at hR
                    have HR := Lib.hid hR.symm
                    have hx' : (X != (s : Int)) = true := by simpa using hx
                    clear hR
                    go_upto_region 21 with fail
                    refine wp_region_later (w0 := w9) (Fr.refl _ _) (by kernel_rfl) (by kernel_rfl) ?_
                    repeat (quiet_step ((go_at_call 31; refine Calls.later_of (HCr.out _))))
                    refine wpQuiet_nil ?_
                    intro _ hw'
                    obtain ⟨q, hw''⟩ := hw'
                    have HFq := Lib.hid q.fr
                    subst hw''
                    obtain ⟨wq, hwq⟩ : ∃ wq, q.w' = wq := ⟨_, rfl⟩
                    rw [hwq] at HFq ⊢
                    clear q3 q4 rc2 hwq q
                    have HWq := Lib.hid (HW9.out.fr HFq.out (fun e => e))
                    have HFwq := Lib.hid (show Fr (fun j => w.heap.size ≤ j) w wq from HFw9.out.trans HFq.out (fun _ _ e => e.elim))
                    (
                      obtain ⟨e0, e1, e2, e3, e4⟩ := HWq.out.five
                      have z0 := HWq.out.frozen 0
                      have z1 := HWq.out.frozen 1
                      have z2 := HWq.out.frozen 2
                      have z3 := HWq.out.frozen 3
                      have z4 := HWq.out.frozen 4)
                    go_wp2_with fail
                    (
                      have hW9 := setE_whole (a := .int .i64 0) (b := .int .i64 0) (c := .int .i64 0) (d := .int .u32 0) (e := .slice none 0 0) HWq.out
                      have hF9 := setE_fr wq w.heap.size (.int .i64 0) (.int .i64 0) (.int .i64 0) (.int .u32 0) (.slice none 0 0)
                      refine bodyPost_ret (v := .tuple #[.agg #[.int .i64 0, .int .i64 0, .int .i64 0, .int .u32 0, .slice none 0 0], .int .i64 13]) (results_cell_slot (p := 6) (u := 7) rfl _ _ _ _ _ _ rfl hW9 Tryz.underlying89 rfl (by kernel_rfl)) rfl ?_
                      rw [HR.out]
                      exact ⟨.slice none 0 0, rfl, World.ownsRow_nil _ _ _ _, (HFwq.out.trans hF9 (fun i hi e => by omega)).below (fun i hi e => by omega)⟩)
                · rw [if_pos hr] at hR
                  have HR := Lib.hid hR.symm
                  have hr' : (r5 != 0) = true := by simpa using hr
                  clear hR
                  go_upto_region 20 with fail
                  have HQc := Lib.hid (show ∀ w', Fr (fun j => j = w.heap.size) w9 w' → w'.cell? ⟨h, 2, none⟩ = some (.int .i64 r5) from fun w' f => f.cell (HQ9.out.c2) (fun e => by have := HHh.out; simp only at e; omega))
                  refine wp_region_held (S := fun w' => Fr (fun j => j = w.heap.size) w9 w') (by kernel_rfl) ?_
                  have HSq := Lib.hid (show Fr (fun j => j = w.heap.size) w9 (World.drew w9) from (Fr.refl _ w9).drew)
                  (
                    refine wpAnyH_takeP (i := 0) (v := .agg #[.int .i64 0, .int .i64 0, .int .i64 0, .int .u32 0, .slice none 0 0]) 99 rfl rfl (by kernel_rfl) (by kernel_rfl) (by kernel_rfl) (fun _ _ _ h => h) (.inl ⟨by rfl, ?_⟩) HSq.out ?_
                    · intro xw xf
                      go_simp)
                  (
                    refine wpAnyH_takeP (i := 1) (v := .pointer (some ⟨h, 0, none⟩)) 100 rfl rfl (by kernel_rfl) (by kernel_rfl) (by kernel_rfl) (fun _ _ _ h => h) (.inl ⟨by rfl, ?_⟩) HSq.out ?_
                    · intro xw xf
                      go_simp)
                  (
                    refine wpAnyH_takeP (i := 2) (v := .pointer (some ⟨h, 0, none⟩)) 101 rfl rfl (by kernel_rfl) (by kernel_rfl) (by kernel_rfl) (fun _ _ _ h => h) (.inl ⟨by rfl, ?_⟩) HSq.out ?_
                    · intro xw xf
                      go_simp)
                  (
                    refine wpAnyH_takeP (i := 3) (v := .pointer (some ⟨h, 2, none⟩)) 102 rfl rfl (by kernel_rfl) (by kernel_rfl) (by kernel_rfl) (fun _ _ _ h => h) (.inl ⟨by rfl, ?_⟩) HSq.out ?_
                    · intro xw xf
                      go_simp)
                  (
                    refine wpAnyH_takeP (i := 4) (v := .int .i64 r5) 103 rfl rfl (by kernel_rfl) (by kernel_rfl) (by kernel_rfl) (fun _ _ _ h => h) (.inl ⟨by rfl, ?_⟩) HSq.out ?_
                    · intro xw xf
                      have xc := HQc.out xw xf
                      go_simp)
                  change wpAnyH _ _ _ _ _ _ _ _ (World.drew w9)
                  have HFd := Lib.hid (show Fr (fun _ => False) w9 (World.drew w9) from (Fr.refl _ w9).drew)
                  obtain ⟨wd, hwd⟩ : ∃ wd, World.drew w9 = wd := ⟨_, rfl⟩
                  rw [hwd]
                  rw [hwd] at HFd
                  clear hwd HSq
                  have HWd := Lib.hid (HW9.out.fr HFd.out (fun e => e))
                  have HFwd := Lib.hid (show Fr (fun j => w.heap.size ≤ j) w wd from HFw9.out.trans HFd.out (fun _ _ e => e.elim))
                  (
                    obtain ⟨e0, e1, e2, e3, e4⟩ := HWd.out.five
                    have z0 := HWd.out.frozen 0
                    have z1 := HWd.out.frozen 1
                    have z2 := HWd.out.frozen 2
                    have z3 := HWd.out.frozen 3
                    have z4 := HWd.out.frozen 4)
                  have HSs := Lib.hid (show Fr (fun j => j = w.heap.size) w9 (((((wd.setCell ⟨w.heap.size, 0, none⟩ (.int .i64 0)).setCell ⟨w.heap.size, 1, none⟩ (.int .i64 0)).setCell ⟨w.heap.size, 2, none⟩ (.int .i64 0)).setCell ⟨w.heap.size, 3, none⟩ (.int .u32 0)).setCell ⟨w.heap.size, 4, none⟩ (.slice none 0 0)) from (HFd.out.mono (fun _ _ e => e.elim)).trans (setE_fr wd w.heap.size _ _ _ _ _) (fun _ _ e => e))
                  (
                    try simp only [List.setIfInBounds_toArray, List.set_cons_succ, List.set_cons_zero]
                    refine wpAnyH_all (rs := [5]) (by kernel_rfl) (by simp) ?_
                    intro i hi
                    simp only [List.mem_cons, List.not_mem_nil, or_false] at hi
                    subst hi)
                  refine wpOp_step rfl (fun K hK => ?_)
                  go_simp
                  refine hK _ _ ⟨HSs.out, ?_⟩
                  clear hK K
                  (
                    try simp only [List.setIfInBounds_toArray, List.set_cons_succ, List.set_cons_zero]
                    refine wpAnyH_all (rs := [6]) (by kernel_rfl) (by simp) ?_
                    intro i hi
                    simp only [List.mem_cons, List.not_mem_nil, or_false] at hi
                    subst hi)
                  refine wpOp_step rfl (fun K hK => ?_)
                  go_simp
                  refine hK _ _ ⟨HSs.out, ?_⟩
                  clear hK K
                  refine wpAnyH_done (by kernel_rfl) ?_ _
                  go_wp2_with fail
                  (
                    have hW9 := setE_whole (a := .int .i64 0) (b := .int .i64 0) (c := .int .i64 0) (d := .int .u32 0) (e := .slice none 0 0) HWd.out
                    have hF9 := setE_fr wd w.heap.size (.int .i64 0) (.int .i64 0) (.int .i64 0) (.int .u32 0) (.slice none 0 0)
                    refine bodyPost_ret (v := .tuple #[.agg #[.int .i64 0, .int .i64 0, .int .i64 0, .int .u32 0, .slice none 0 0], .int .i64 r5]) (results_cell_slot (p := 6) (u := 7) rfl _ _ _ _ _ _ rfl hW9 Tryz.underlying89 rfl (by kernel_rfl)) rfl ?_
                    rw [HR.out]
                    exact ⟨.slice none 0 0, rfl, World.ownsRow_nil _ _ _ _, (HFwd.out.trans hF9 (fun i hi e => by omega)).below (fun i hi e => by omega)⟩))
end Go.Proofs.YtkaeoflgnnlbeaaGreatDoor
/- What is proved: the object of an entry, plainly, and by the document; over what reading a script and applying it tells. Conditions: the bytes are there; the two calls on scripts tell what is said of them. -/
namespace Go.Proofs.YtkaeoflgnnlbeaaGreatDoor
open Go.RowKit
set_option linter.unusedVariables false

/-- The object of an entry; n more may lie on one another. -/
def readP (rd : List UInt8 → (Int × Int × List DOp) × Int) (ap : List UInt8 → Int → Int → List DOp → List UInt8 × Int) (bs : List UInt8) : Nat → Int → (Int × List UInt8) × Int
  | 0, at' => let x := opnE bs at' 8; if x.2 ≠ 0 then ((0, []), x.2) else ((x.1.1, x.1.2.2.2.2), 0)
  | n + 1, at' =>
    let x := opnE bs at' (8 - (n + 1))
    if x.2 ≠ 0 then ((0, []), x.2)
    else if x.1.1 < 5 then ((x.1.1, x.1.2.2.2.2), 0)
    else
      let r := readP rd ap bs n x.1.2.1
      if r.2 ≠ 0 then ((0, []), r.2)
      else
        let s := rd x.1.2.2.2.2
        if s.2 ≠ 0 then ((0, []), s.2)
        else
          let a := ap r.1.2 s.1.1 s.1.2.1 s.1.2.2
          if a.2 ≠ 0 then ((0, []), a.2) else ((r.1.1, a.1), 0)
theorem opnT_ok {D : List UInt8} {k base size : Int} {p : Nat} {er : Int} (h : (opnT D k base size p er).2 = 0) : (opnT D k base size p er).1.1 = k ∧ (opnT D k base size p er).1.2.1 = base ∧ (0 ≤ size → er = 0) := by
  unfold opnT at h ⊢
  split at h
  · rename_i h1
    exact absurd h h1
  · rename_i h1
    rw [if_neg h1]
    split at h
    · exact absurd h (by simp [zE])
    · rename_i h2
      rw [if_neg h2]
      refine ⟨rfl, rfl, fun hs => ?_⟩
      by_cases he : er = 0
      · exact he
      · exfalso
        apply h1
        unfold rawErr
        rw [if_neg (by omega)]
        have e1 : hasErr D.length p er 4 = er := by unfold hasErr; rw [if_neg he]
        rw [e1]
        unfold hasErr
        rw [if_neg he]
        exact he
/-- Of an entry that is told: its kind, and where its base begins. -/
theorem opnE_ok {bs : List UInt8} {at' over : Int} (h : (opnE bs at' over).2 = 0) : (over = 8 → (opnE bs at' over).1.1 < 5) ∧ 0 ≤ (opnE bs at' over).1.2.1 ∧ (opnE bs at' over).1.2.1 ≤ bs.length := by
  unfold opnE at h ⊢
  split at h
  · cases h
  · rename_i h1
    rw [if_neg h1]
    split at h
    · cases h
    · rename_i h2
      rw [if_neg h2]
      generalize hD : bs.take (bs.length - 32) = D at h ⊢
      unfold opnD opnK at h ⊢
      generalize varO D (stepAt D.length at'.toNat 0 1) (hasErr D.length at'.toNat 0 1) 4000 = z at h ⊢
      split at h
      · cases h
      · rename_i h3
        rw [if_neg h3]
        split at h
        · rename_i h4
          rw [if_pos h4]
          generalize varO D z.2.1 z.2.2 1048576 = y at h ⊢
          split at h
          · cases h
          · rename_i h5
            rw [if_neg h5]
            split at h
            · cases h
            · rename_i h6
              rw [if_neg h6]
              obtain ⟨g1, g2, g3⟩ := opnT_ok h
              have g4 := g3 (by omega)
              rw [g1, g2]
              refine ⟨fun ho => absurd ⟨g4, ho⟩ h6, ?_, ?_⟩
              · have : ¬ ((y.1 : Int) = 0 ∨ at' - y.1 < 12) := fun e => h5 ⟨g4, by simpa using e⟩
                omega
              · omega
        · rename_i h4
          rw [if_neg h4]
          obtain ⟨g1, g2, _⟩ := opnT_ok h
          rw [g1, g2]
          refine ⟨fun _ => by omega, by omega, by omega⟩

/-- What Read tells. -/
def RdPost (w : World) (R : (Int × List UInt8) × Int) (e : Ending) (w' : World) : Prop :=
  ∃ v, e = .returned (.tuple #[.int .i64 R.1.1, v, .int .i64 R.2]) ∧ w'.ownsRow w.heap.size 5 1 v R.1.2.length (bytesV R.1.2) ∧ Below w.heap.size w w'
theorem Fr.below0 {a b c : World} (h : Fr (fun _ => False) b c) (k : Below a.heap.size a b) : Below a.heap.size a c :=
  ((Fr.of_below (S := fun _ => False) k).trans h (fun _ _ e => e)).below (fun _ _ e => e)
theorem opnE_load (bs : List UInt8) (at' over : Int) : (opnE bs at' over).1.2.2.2.2.length ≤ bs.length := by
  have hz : ∀ e, (zE e).1.2.2.2.2.length ≤ bs.length := fun e => Nat.zero_le _
  have ht : ∀ (k base size : Int) (p : Nat) (er : Int), (opnT (bs.take (bs.length - 32)) k base size p er).1.2.2.2.2.length ≤ bs.length := fun k base size p er => by
    unfold opnT
    split
    · exact hz _
    · split
      · exact hz _
      · simp only
        unfold rawB
        split
        · exact Nat.zero_le _
        · split
          · rw [List.length_take, List.length_drop, List.length_take]; omega
          · exact Nat.zero_le _
  unfold opnE
  split
  · exact hz _
  · split
    · exact hz _
    · unfold opnD opnK
      split
      · exact hz _
      · split
        · split
          · exact hz _
          · split
            · exact hz _
            · exact ht _ _ _ _ _
        · exact ht _ _ _ _ _

set_option maxHeartbeats 12800000 in
set_option maxRecDepth 100000 in
theorem QPRead_any (rd : List UInt8 → (Int × Int × List DOp) × Int) (ap : List UInt8 → Int → Int → List DOp → List UInt8 × Int)
    (hrd : ∀ (A : Option Addr) (c : Nat) (l : List UInt8) (w : World), l.length ≤ 140737488355328 → l.length ≤ c → Lies w A (bytesV l) → Calls Tryz.prog 37 #[.slice A l.length c] w fun e w' => ∃ A' c' ps, e = .returned (.tuple #[.agg #[.int .i64 (rd l).1.1, .int .i64 (rd l).1.2.1, .slice A' ps.length c'], .int .i64 (rd l).2]) ∧ Scr w' A' c' ps ∧ opsO ps = (rd l).1.2.2 ∧ Below w.heap.size w w')
    (hap : ∀ (A : Option Addr) (c : Nat) (xs : List UInt8) (b t : Int) (S : Option Addr) (d : Nat) (ps : List POp) (w : World), xs.length ≤ c → c ≤ 9223372036854775807 → Lies w A (bytesV xs) → Scr w S d ps → Calls Tryz.prog 38 #[.slice A xs.length c, .agg #[.int .i64 b, .int .i64 t, .slice S ps.length d]] w fun e w' => ∃ v, e = .returned (.tuple #[v, .int .i64 (ap xs b t (opsO ps)).2]) ∧ w'.ownsRow w.heap.size 5 1 v (ap xs b t (opsO ps)).1.length (bytesV (ap xs b t (opsO ps)).1) ∧ Below w.heap.size w w')
    (A : Option Addr) (c : Nat) (bs : List UInt8) (hc : bs.length ≤ c) (hcc : c ≤ 9223372036854775807) (hbs : bs.length ≤ 140737488355328) :
    ∀ (n : Nat) (at' ov : Int) (w : World), n ≤ 8 → ov = 8 - n → -9223372036854775808 ≤ at' ∧ at' ≤ 9223372036854775807 → Lies w A (bytesV bs) →
      Calls Tryz.prog 16 #[.slice A bs.length c, .int .i64 at', .int .i64 ov] w (RdPost w (readP rd ap bs n at')) := by
  have HRD := Lib.hid hrd
  have HAP := Lib.hid hap
  have HHy := Lib.hid (And.intro hc (And.intro hcc hbs))
  clear hrd hap hc hcc hbs
  intro n
  induction n with
  | zero =>
    intro at' ov w hn hov ha hl
    obtain rfl : ov = 8 := by omega
    obtain ⟨Q, hQ⟩ : ∃ Q, readP rd ap bs 0 at' = Q := ⟨_, rfl⟩
    rw [hQ]
    have HO := Lib.hid (QPOpen_any A c bs HHy.out.1 HHy.out.2.1 HHy.out.2.2 at' 8 ha w hl)
    have hok := opnE_ok (bs := bs) (at' := at') (over := 8)
    unfold readP at hQ
    obtain ⟨⟨⟨k, ba, en, sm, ld⟩, E⟩, hR⟩ : ∃ R, opnE bs at' 8 = R := ⟨_, rfl⟩
    rw [hR] at HO hQ hok
    unfold OpPost at HO
    simp only at HO hQ hok
    obtain ⟨LL, hLL⟩ : ∃ LL, ld.length = LL := ⟨_, rfl⟩
    have HLL := Lib.hid hLL
    rw [hLL] at HO
    obtain ⟨L, hL⟩ : ∃ L, bs.length = L := ⟨_, rfl⟩
    rw [hL] at HO ⊢
    clear hLL hL hR hov hn
    obtain ⟨ha0, ha1⟩ := ha
    by_cases hE : E = 0
    · subst hE
      rw [if_neg (by simp)] at hQ
      have HQ := Lib.hid hQ.symm
      have hk := (hok rfl).1 trivial
      clear hQ hok
      go_enter Tryz.func16, Tryz.ntmps16
      go_upto_region 2 with (go_at_call 36; refine HO.out.mono ?_; rintro e w1 ⟨v1, rfl, o1, b1⟩; have HO1 := Lib.hid o1; have HB1 := Lib.hid b1; obtain ⟨A1, c1, hv1, _, _⟩ := own_slice o1; subst hv1; clear o1 b1)
      (
        obtain ⟨w2, hw2⟩ : ∃ w2, w1.alloc (.cells #[.int .i64 k, .int .i64 ba, .int .i64 en, .int .u32 sm, .slice A1 LL c1] 89) = w2 := ⟨_, rfl⟩
        rw [hw2]
        have HF2 := Lib.hid (show Fr (fun _ => False) w1 w2 by subst hw2; exact (Fr.refl _ _).alloc _)
        have HX2 := Lib.hid (show Whole w2 w1.heap.size 89 #[.int .i64 k, .int .i64 ba, .int .i64 en, .int .u32 sm, .slice A1 LL c1] by subst hw2; exact Whole.new _ _ _)
        clear hw2
        obtain ⟨x0, x1, x2, x3, x4⟩ := HX2.out.five)
      have hkl : (k : Int) < 5 := hk
      (
        go_upto_region 5 with fail
        go_big_region
        have HFd := Lib.hid (show Fr (fun _ => False) w1 w2.drew from HF2.out.drew)
        go_wp2_with fail
        go_ret3
        rw [HQ.out]
        exact ⟨.slice A1 LL c1, rfl, by simp only [HLL.out]; exact own_fr HO1.out HFd.out (fun _ _ e => e), HFd.out.below0 HB1.out⟩)
    · rw [if_pos hE] at hQ
      have HQ := Lib.hid hQ.symm
      have hE' : (E != 0) = true := by simpa using hE
      clear hQ hok hE
      go_enter Tryz.func16, Tryz.ntmps16
      go_upto_region 2 with (go_at_call 36; refine HO.out.mono ?_; rintro e w1 ⟨v1, rfl, o1, b1⟩; have HO1 := Lib.hid o1; have HB1 := Lib.hid b1; obtain ⟨A1, c1, hv1, _, _⟩ := own_slice o1; subst hv1; clear o1 b1)
      (
        obtain ⟨w2, hw2⟩ : ∃ w2, w1.alloc (.cells #[.int .i64 k, .int .i64 ba, .int .i64 en, .int .u32 sm, .slice A1 LL c1] 89) = w2 := ⟨_, rfl⟩
        rw [hw2]
        have HF2 := Lib.hid (show Fr (fun _ => False) w1 w2 by subst hw2; exact (Fr.refl _ _).alloc _)
        have HX2 := Lib.hid (show Whole w2 w1.heap.size 89 #[.int .i64 k, .int .i64 ba, .int .i64 en, .int .u32 sm, .slice A1 LL c1] by subst hw2; exact Whole.new _ _ _)
        clear hw2
        obtain ⟨x0, x1, x2, x3, x4⟩ := HX2.out.five)
      (
        go_wp2_with fail
        go_ret3
        rw [HQ.out]
        exact ⟨.slice none 0 0, rfl, World.ownsRow_nil _ _ _ _, HF2.out.below0 HB1.out⟩)
  | succ n ih =>
    intro at' ov w hn hov ha hl
    have hov1 : ov = 8 - ((n : Int) + 1) := by rw [hov]; push_cast; rfl
    obtain ⟨Q, hQ⟩ : ∃ Q, readP rd ap bs (n + 1) at' = Q := ⟨_, rfl⟩
    rw [hQ]
    have HO := Lib.hid (QPOpen_any A c bs HHy.out.1 HHy.out.2.1 HHy.out.2.2 at' ov ha w hl)
    have hok := opnE_ok (bs := bs) (at' := at') (over := ov)
    have hll := opnE_load bs at' ov
    unfold readP at hQ
    rw [← hov1] at hQ
    obtain ⟨⟨⟨k, ba, en, sm, ld⟩, E⟩, hR⟩ : ∃ R, opnE bs at' ov = R := ⟨_, rfl⟩
    rw [hR] at HO hQ hok hll
    unfold OpPost at HO
    simp only at HO hQ hok hll
    obtain ⟨LL, hLL⟩ : ∃ LL, ld.length = LL := ⟨_, rfl⟩
    have HLL := Lib.hid hLL
    rw [hLL] at HO hll
    have HL0 := Lib.hid (show LL ≤ 140737488355328 from Nat.le_trans hll HHy.out.2.2)
    have HIh := Lib.hid (fun (b0 : 0 ≤ ba) (b1 : ba ≤ bs.length) (w' : World) (l : Lies w' A (bytesV bs)) => ih ba (ov + 1) w' (by omega) (by omega) ⟨by omega, by have := HHy.out.2.2; omega⟩ l)
    have hwo : IntKind.i64.wrap (ov + 1) = ov + 1 := by rw [IntKind.wrap_i64]; omega
    have HA := Lib.hid hl
    obtain ⟨⟨⟨kr, body⟩, Er⟩, hr⟩ : ∃ r, readP rd ap bs n ba = r := ⟨_, rfl⟩
    rw [hr] at HIh hQ
    simp only at hQ
    have HRd := Lib.hid (fun A1 (c1 : Nat) (h1 : ld.length ≤ c1) w' (l : Lies w' A1 (bytesV ld)) => HRD.out A1 c1 ld w' (by rw [hLL]; exact HL0.out) h1 l)
    obtain ⟨⟨⟨sb, st, os⟩, Es⟩, hs⟩ : ∃ s, rd ld = s := ⟨_, rfl⟩
    rw [hs] at HRd hQ
    simp only [hLL] at HRd hQ
    have HAp := Lib.hid (fun A3 (c3 : Nat) S (d : Nat) (ps : List POp) (e : opsO ps = os) w' (h1 : body.length ≤ c3) (h2 : c3 ≤ 9223372036854775807) (l : Lies w' A3 (bytesV body)) (sc : Scr w' S d ps) => by
      have := HAP.out A3 c3 body sb st S d ps w' h1 h2 l sc
      rw [e] at this
      exact this)
    obtain ⟨⟨out, Ea⟩, ha'⟩ : ∃ a, ap body sb st os = a := ⟨_, rfl⟩
    rw [ha'] at HAp hQ
    unfold RdPost at HIh
    obtain ⟨LB, hLB⟩ : ∃ LB, body.length = LB := ⟨_, rfl⟩
    obtain ⟨LO, hLO⟩ : ∃ LO, out.length = LO := ⟨_, rfl⟩
    have HLB := Lib.hid hLB
    have HLO := Lib.hid hLO
    simp only [hLB, hLO] at HIh HAp
    simp only at hQ
    obtain ⟨L, hL⟩ : ∃ L, bs.length = L := ⟨_, rfl⟩
    rw [hL] at HO HIh hok ⊢
    clear hLL hL hR hov hov1 hn hr hs ha' hLB hLO ih hll hl
    obtain ⟨ha0, ha1⟩ := ha
    by_cases hE : E = 0
    · subst hE
      rw [if_neg (by simp)] at hQ
      obtain ⟨-, hb0, hb1⟩ := hok rfl
      clear hok
      go_enter Tryz.func16, Tryz.ntmps16
      go_upto_region 2 with (go_at_call 36; refine HO.out.mono ?_; rintro e w1 ⟨v1, rfl, o1, b1⟩; have HO1 := Lib.hid o1; have HB1 := Lib.hid b1; obtain ⟨A1, c1, hv1, hk1, _⟩ := own_slice o1; subst hv1; clear o1 b1)
      (
        obtain ⟨w2, hw2⟩ : ∃ w2, w1.alloc (.cells #[.int .i64 k, .int .i64 ba, .int .i64 en, .int .u32 sm, .slice A1 LL c1] 89) = w2 := ⟨_, rfl⟩
        rw [hw2]
        have HF2 := Lib.hid (show Fr (fun _ => False) w1 w2 by subst hw2; exact (Fr.refl _ _).alloc _)
        have HX2 := Lib.hid (show Whole w2 w1.heap.size 89 #[.int .i64 k, .int .i64 ba, .int .i64 en, .int .u32 sm, .slice A1 LL c1] by subst hw2; exact Whole.new _ _ _)
        clear hw2
        obtain ⟨x0, x1, x2, x3, x4⟩ := HX2.out.five)
      by_cases hk : (k : Int) < 5
      · rw [if_pos hk] at hQ
        have HQ := Lib.hid hQ.symm
        clear hQ
        (
          go_upto_region 5 with fail
          go_big_region
          have HFd := Lib.hid (show Fr (fun _ => False) w1 w2.drew from HF2.out.drew)
          go_wp2_with fail
          go_ret3
          rw [HQ.out]
          exact ⟨.slice A1 LL c1, rfl, by simp only [HLL.out]; exact own_fr HO1.out HFd.out (fun _ _ e => e), HFd.out.below0 HB1.out⟩)
      · rw [if_neg hk] at hQ
        have HA2 := Lib.hid (HA.out.fr ((Fr.of_below (S := fun _ => False) HB1.out).trans HF2.out (fun _ _ e => e)) (fun _ _ e => e))
        have HCl := Lib.hid (HIh.out hb0 hb1 w2 HA2.out)
        have HF02 := Lib.hid (show Fr (fun _ => False) w w2 from (Fr.of_below (S := fun _ => False) HB1.out).trans HF2.out (fun _ _ e => e))
        clear hb0 hb1
        go_upto_region 7 with (go_at_call 16; refine HCl.out.mono ?_; rintro e w3 ⟨v3, rfl, o3, b3⟩; have HO3 := Lib.hid o3; have HF3 := Lib.hid (HF02.out.then_below b3); have HX3 := Lib.hid (HX2.out.fr (Fr.of_below (S := fun _ => False) b3) (fun e => e)); have HO13 := Lib.hid (own_fr HO1.out (HF2.out.then_below b3) (fun _ _ e => e)); obtain ⟨A3, c3, hv3, hk3, hk3m⟩ := own_slice o3; subst hv3; clear o3 b3)
        clear x0 x1 x2 x3 x4
        obtain ⟨x0, x1, x2, x3, x4⟩ := HX3.out.five
        by_cases hEr : Er = 0
        · subst hEr
          rw [if_neg (by simp)] at hQ
          have HRc := Lib.hid (HRd.out A1 c1 hk1 w3 (Lies.of_own HO13.out))
          go_upto_region 10 with (go_at_call 37; refine HRc.out.mono ?_; rintro e w4 ⟨A4, c4, ps, rfl, s4, o4, b4⟩; have HS4 := Lib.hid s4; have HOp4 := Lib.hid o4; have HF4 := Lib.hid (HF3.out.then_below b4); have HO34 := Lib.hid (own_fr HO3.out (Fr.of_below (S := fun _ => False) b4) (fun _ _ e => e)); clear s4 o4 b4)
          obtain ⟨LP, hLP⟩ : ∃ LP, ps.length = LP := ⟨_, rfl⟩
          have HLP := Lib.hid hLP
          rw [hLP]
          obtain ⟨w5, hw5⟩ : ∃ w5, w4.alloc (.cells #[.int .i64 sb, .int .i64 st, .slice A4 LP c4] 94) = w5 := ⟨_, rfl⟩
          rw [hw5]
          have HF45 := Lib.hid (show Fr (fun _ => False) w4 w5 by subst hw5; exact (Fr.refl _ _).alloc _)
          have HT5 := Lib.hid (show Whole w5 w4.heap.size 94 #[.int .i64 sb, .int .i64 st, .slice A4 LP c4] by subst hw5; exact Whole.new _ _ _)
          have HF5 := Lib.hid (HF4.out.trans HF45.out (fun _ _ e => e))
          have HS5 := Lib.hid (HS4.out.fr HF45.out)
          have HO5 := Lib.hid (own_fr HO34.out HF45.out (fun _ _ e => e))
          clear hw5 hLP
          have y0 : w5.cell? ⟨w4.heap.size, 0, none⟩ = some (.int .i64 sb) := by rw [HT5.out.cell]; rfl
          have y1 : w5.cell? ⟨w4.heap.size, 1, none⟩ = some (.int .i64 st) := by rw [HT5.out.cell]; rfl
          have y2 : w5.cell? ⟨w4.heap.size, 2, none⟩ = some (.slice A4 LP c4) := by rw [HT5.out.cell]; rfl
          by_cases hEs : Es = 0
          · subst hEs
            rw [if_neg (by simp)] at hQ
            have HAc := Lib.hid (HAp.out A3 c3 A4 c4 ps HOp4.out w5 hk3 (by unfold maxLen at hk3m; omega) (Lies.of_own HO5.out) HS5.out)
            simp only [HLP.out] at HAc
            go_upto_region 13 with (go_at_call 38; refine HAc.out.mono ?_; rintro e w6 ⟨v6, rfl, o6, b6⟩; have HO6 := Lib.hid o6; have HF6 := Lib.hid (HF5.out.then_below b6); obtain ⟨A6, c6, hv6, _, _⟩ := own_slice o6; subst hv6; clear o6 b6)
            by_cases hEa : Ea = 0
            · subst hEa
              rw [if_neg (by simp)] at hQ
              have HQ := Lib.hid hQ.symm
              clear hQ
              go_wp2_with fail
              go_ret3
              rw [HQ.out]
              exact ⟨.slice A6 LO c6, rfl, by simp only [HLO.out]; exact own_lowerP HO6.out HF5.out.size, HF6.out.below (fun _ _ e => e)⟩
            · rw [if_pos hEa] at hQ
              have HQ := Lib.hid hQ.symm
              have hEa' : (Ea != 0) = true := by simpa using hEa
              clear hQ hEa
              (
                go_wp2_with fail
                go_ret3
                rw [HQ.out]
                exact ⟨.slice none 0 0, rfl, World.ownsRow_nil _ _ _ _, HF6.out.below (fun _ _ e => e)⟩)
          · rw [if_pos hEs] at hQ
            have HQ := Lib.hid hQ.symm
            have hEs' : (Es != 0) = true := by simpa using hEs
            clear hQ hEs
            (
              go_wp2_with fail
              go_ret3
              rw [HQ.out]
              exact ⟨.slice none 0 0, rfl, World.ownsRow_nil _ _ _ _, HF5.out.below (fun _ _ e => e)⟩)
        · rw [if_pos hEr] at hQ
          have HQ := Lib.hid hQ.symm
          have hEr' : (Er != 0) = true := by simpa using hEr
          clear hQ hEr
          (
            go_wp2_with fail
            go_ret3
            rw [HQ.out]
            exact ⟨.slice none 0 0, rfl, World.ownsRow_nil _ _ _ _, HF3.out.below (fun _ _ e => e)⟩)
    · rw [if_pos hE] at hQ
      have HQ := Lib.hid hQ.symm
      have hE' : (E != 0) = true := by simpa using hE
      clear hQ hok hE
      go_enter Tryz.func16, Tryz.ntmps16
      go_upto_region 2 with (go_at_call 36; refine HO.out.mono ?_; rintro e w1 ⟨v1, rfl, o1, b1⟩; have HO1 := Lib.hid o1; have HB1 := Lib.hid b1; obtain ⟨A1, c1, hv1, _, _⟩ := own_slice o1; subst hv1; clear o1 b1)
      (
        obtain ⟨w2, hw2⟩ : ∃ w2, w1.alloc (.cells #[.int .i64 k, .int .i64 ba, .int .i64 en, .int .u32 sm, .slice A1 LL c1] 89) = w2 := ⟨_, rfl⟩
        rw [hw2]
        have HF2 := Lib.hid (show Fr (fun _ => False) w1 w2 by subst hw2; exact (Fr.refl _ _).alloc _)
        have HX2 := Lib.hid (show Whole w2 w1.heap.size 89 #[.int .i64 k, .int .i64 ba, .int .i64 en, .int .u32 sm, .slice A1 LL c1] by subst hw2; exact Whole.new _ _ _)
        clear hw2
        obtain ⟨x0, x1, x2, x3, x4⟩ := HX2.out.five)
      (
        go_wp2_with fail
        go_ret3
        rw [HQ.out]
        exact ⟨.slice none 0 0, rfl, World.ownsRow_nil _ _ _ _, HF2.out.below0 HB1.out⟩)
end Go.Proofs.YtkaeoflgnnlbeaaGreatDoor

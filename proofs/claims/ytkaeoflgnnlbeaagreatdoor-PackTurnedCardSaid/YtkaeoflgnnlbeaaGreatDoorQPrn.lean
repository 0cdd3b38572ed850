/- What is proved: texts that stand one behind the other: Prn. Conditions: each theorem names its own. -/
import Derived.Test.YtkaeoflgnnlbeaaGreatDoorQPrd
import Derived.Test.YtkaeoflgnnlbeaaGreatDoorDej
/- What is proved: the program's reader of an entry is made. Conditions: the bytes are there; the place is in the pack. -/
namespace Go.Proofs.YtkaeoflgnnlbeaaGreatDoor
open Go.RowKit
set_option linter.unusedVariables false

/-- The window of an entry's bytes. -/
def winB (bs : List UInt8) (P : Nat) : List UInt8 := ((bs.take (bs.length - 32)).drop P).take 4025
theorem winB_win {bs : List UInt8} {P : Nat} (h : P + 32 < bs.length) : Win (bs.take (bs.length - 32)) (winB bs P) P := ⟨rfl, by rw [List.length_take]; omega⟩
theorem winB_cut {bs : List UInt8} {P E : Nat} (h : P + 32 < bs.length) (hE : E = min (bs.length - 32) (P + 4025)) : winB bs P = (bs.drop P).take (E - P) := by
  unfold winB
  rw [List.drop_take, List.take_take, hE]
  congr 1
  omega
theorem winB_len {bs : List UInt8} {P E : Nat} (h : P + 32 < bs.length) (hE : E = min (bs.length - 32) (P + 4025)) : (winB bs P).length = E - P := by
  rw [winB_cut h hE, List.length_take, List.length_drop]; omega
def NrPost (w : World) (P : Int) (W : List UInt8) (e : Ending) (w' : World) : Prop :=
  ∃ g v, e = .returned (.pointer (some ⟨g, 0, none⟩)) ∧ w.heap.size ≤ g ∧ (∀ k, v.ownBlock = some k → w.heap.size ≤ k) ∧ Rd (some P) w' g v W 0 0 ∧ Below w.heap.size w w'

set_option maxHeartbeats 3200000 in
set_option maxRecDepth 100000 in
theorem PnewReader_any (A : Option Addr) (c : Nat) (bs : List UInt8) (hc : bs.length ≤ c) (hcc : c ≤ 9223372036854775807) (hbs : bs.length ≤ 140737488355328) (P : Nat) (hP : P + 32 < bs.length) (w : World) (h : Lies w A (bytesV bs)) :
    Calls Tryz.prog 55 #[.slice A bs.length c, .int .i64 P] w (NrPost w P (winB bs P)) := by
  unfold NrPost
  obtain ⟨E, hE⟩ : ∃ E, min (bs.length - 32) (P + 4025) = E := ⟨_, rfl⟩
  have hwc := winB_cut hP hE.symm
  have hwl := winB_len hP hE.symm
  have HL := Lib.hid (show Lies w (tlB A c P) (bytesV (winB bs P)) from by rw [hwc]; exact h.cutB c P (E - P) hc)
  obtain ⟨W, hW⟩ : ∃ W, winB bs P = W := ⟨_, rfl⟩
  rw [hW] at HL hwl ⊢
  have hsl : ∀ w, (Instr.slice 25 (.slice A bs.length c) (some (.int .i64 P)) (some (.int .i64 E)) none).run Tryz.prog w = .ok (.slice (tlB A c P) (E - P) (c - P)) w := fun w => slice_lhB A bs.length c P E (by omega) (by omega) w
  have HN := Lib.hid (fun w' (l : Lies w' (tlB A c P) (bytesV W)) => NewReader_any (tlB A c P) (c - P) W w' l (by omega))
  unfold NewRPost at HN
  obtain ⟨L, hL⟩ : ∃ L, bs.length = L := ⟨_, rfl⟩
  rw [hL] at hP hE hsl hbs ⊢
  obtain ⟨M, hM⟩ : ∃ M, E - P = M := ⟨_, rfl⟩
  rw [hwl, hM] at HN
  rw [hM] at hsl hwl
  obtain ⟨B, hB⟩ : ∃ B, tlB A c P = B := ⟨_, rfl⟩
  obtain ⟨d, hd⟩ : ∃ d, c - P = d := ⟨_, rfl⟩
  rw [hB, hd] at HN hsl
  rw [hB] at HL
  have hw1 : IntKind.i64.wrap ((L : Int) - 32) = (L : Int) - 32 := by rw [IntKind.wrap_i64]; omega
  have hw2 : IntKind.i64.wrap ((P : Int) + 4025) = (P : Int) + 4025 := by rw [IntKind.wrap_i64]; omega
  have HE := Lib.hid hE
  clear hE hwc hW hL hB hd h
  by_cases hlt : (L : Int) - 32 ≤ (P : Int) + 4025
  · have hEL : (E : Int) = (L : Int) - 32 := by have := HE.out; omega
    rw [hEL] at hsl
    clear hEL
    go_enter Tryz.func55, Tryz.ntmps55
    (
      go_wp2_with (go_at_call 64; refine (HN.out w HL.out).mono ?_; rintro e w1 ⟨g, v, rfl, g1, o1, r1, b1⟩; have HG := Lib.hid (And.intro g1 o1); have HR1 := Lib.hid r1; have HB1 := Lib.hid b1; obtain ⟨A1, c1, hv1, _, _⟩ := own_slice r1.own; subst hv1; have y0 := r1.c0; have y1 := r1.c1; have y2 := r1.c2; clear r1 b1 g1 o1)
      go_ret
      subst hwl
      exact ⟨w1.heap.size, _, rfl, HB1.out.size, HG.out.2, ⟨Whole.new _ _ _, own_fr HR1.out.own ((Fr.refl (fun _ => False) w1).alloc _) (fun _ _ e => e), HR1.out.le, HR1.out.small⟩, HB1.out.alloc HB1.out.size _⟩)
  · have hEL : (E : Int) = (P : Int) + 4025 := by have := HE.out; omega
    rw [hEL] at hsl
    clear hEL
    go_enter Tryz.func55, Tryz.ntmps55
    (
      go_wp2_with (go_at_call 64; refine (HN.out w HL.out).mono ?_; rintro e w1 ⟨g, v, rfl, g1, o1, r1, b1⟩; have HG := Lib.hid (And.intro g1 o1); have HR1 := Lib.hid r1; have HB1 := Lib.hid b1; obtain ⟨A1, c1, hv1, _, _⟩ := own_slice r1.own; subst hv1; have y0 := r1.c0; have y1 := r1.c1; have y2 := r1.c2; clear r1 b1 g1 o1)
      go_ret
      subst hwl
      exact ⟨w1.heap.size, _, rfl, HB1.out.size, HG.out.2, ⟨Whole.new _ _ _, own_fr HR1.out.own ((Fr.refl (fun _ => False) w1).alloc _) (fun _ _ e => e), HR1.out.le, HR1.out.small⟩, HB1.out.alloc HB1.out.size _⟩)
end Go.Proofs.YtkaeoflgnnlbeaaGreatDoor

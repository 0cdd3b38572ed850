/- What is proved: what the condition on the table of constants gives; that the program's own start meets it; and the statement ShaPads. Conditions: those of the statement itself (the table starts as the program's text lays it; the card ties that). -/
import Derived.Test.YtbbjappmaigobaaDoorShx
import Derived.Test.YtbbjappmaigobaaDoorShr2
import Derived.Test.YtbbjappmaigobaaDoorStr
import Derived.ProofKit
import Derived.OpenShut
import Derived.LaidMore
import Derived.Lib.LaidTab
import Derived.Stop.Joined
import Derived.SizedLaws
namespace Go.Proofs.YtbbjappmaigobaaDoor
open Go.ChangeShapes Go.WideShapes Go.ChangeAt Go.RowKit
set_option linter.unusedVariables false

theorem own_knob : ownKnob Tryd.prog.godebug = none := by kernel_rfl
theorem laidOut : laidOutB Tryd.prog = true := by kernel_rfl
theorem gK : Tryd.prog.globalNamed "sleuth/sha.k" = some 0 := by kernel_rfl
theorem tK : (Tryd.prog.globals[0]?).map (·.type) = some 48 := by kernel_rfl
theorem cells64 : Tryd.prog.cellsOf 48 = 64 := by kernel_rfl
theorem cells1 : Tryd.prog.cellsOf 22 = 1 := by kernel_rfl
theorem laid_eq : (Rows.laid_sleuth_sha_k : DataW Unit) = Lib.tabData .u32 kt := rfl

/-- What the condition gives: the table. -/
theorem tab_of_laid {W : World} (h : laidMetH Tryd.prog [("sleuth/sha.k", Rows.laid_sleuth_sha_k)] W) : Tab W := by
  rw [MakeChecks.laidMetH_plain _ _ _ (by kernel_rfl), laid_eq] at h
  have ht := Lib.tabIs_of_head gK tK Tryd.underlying48 Tryd.underlying22 cells1 cells64 h
  intro i hi
  exact ht.cell gK i hi

set_option maxRecDepth 100000 in
/-- The door's own heap meets the condition. -/
theorem door_met (os : Os) (args : Array Value) : laidMetH Tryd.prog [("sleuth/sha.k", Rows.laid_sleuth_sha_k)] ((World.doorLaid Tryd.prog 400 os).forCall (fun _ _ => 0) ⟨#[], args, []⟩).memory :=
  laidMetH_of_parts3 (fuel := 8) (laidMet_of_run' 8 (by kernel_rfl) (by kernel_rfl)) (by kernel_rfl) (by kernel_rfl)
end Go.Proofs.YtbbjappmaigobaaDoor
namespace Go.Proofs.YtbbjappmaigobaaDoor.pads
open Go.ChangeShapes Go.WideShapes Go.ChangeAt Go.RowKit
set_option linter.unusedVariables false

theorem walk (n : Nat) (hn : n < 18446744073709551616) (w : World) (ht : Tab w) :
    Calls Tryd.prog 4 #[.int .u64 n] w fun e w' => e = .returned (.bool true) ∧ Below w.heap.size w w' := by
  have hwh := padB_whole n
  have hlt := noughts_lt n
  have hpl := padB_length n
  obtain ⟨L, hL⟩ : ∃ L, (padB n).length = L := ⟨_, rfl⟩
  obtain ⟨r, hr⟩ : ∃ r, n % 64 = r := ⟨_, rfl⟩
  have hr64 : r < 64 := by rw [← hr]; exact Nat.mod_lt _ (by decide)
  have hL72 : L ≤ 72 := by omega
  have e0 : (n : Int) % 64 = (r : Int) := by omega
  have e1 : ((r : Int) + L) % 64 = 0 := by rw [hL] at hwh; omega
  have HL := Lib.hid hL
  have HT := Lib.hid ht
  have HSP := fun w => SPad_any n hn w
  have HQP := fun w => QPad_any n hn w
  obtain ⟨N, hN⟩ : ∃ N : Int, (n : Int) = N := ⟨_, rfl⟩
  have hN0 : 0 ≤ N := by omega
  rw [hN] at e0 HSP HQP ⊢
  have HSP := Lib.hid HSP
  have HQP := Lib.hid HQP
  clear hwh hlt hpl hL hr hN ht
  go_enter Tryd.func4, Tryd.ntmps4
  go_wp2_with (first
    | (go_at_call 12; refine (HSP.out _).mono ?_; rintro e w1 ⟨g, rfl, hg, hp, b1⟩; rw [HL.out])
    | (go_at_call 14; refine (HQP.out _).mono ?_; rintro e w2 ⟨v, rfl, ho⟩; obtain ⟨A2, c2, rfl, hc2, hl2, hb2⟩ := ho.slice; rw [HL.out])
    | (go_at_call 13
       have hl1 : Lies w2 (some ⟨g, 0, none⟩) (bytesV (padB n)) := .inr ⟨g, 0, rfl, fun j u hu => by rw [Nat.zero_add, (hp.fr ho.2 (fun e => e)).cell]; simpa using hu⟩
       refine Calls.mono (by have h := Same_any (some ⟨g, 0, none⟩) A2 L c2 (padB n) (padB n) w2 hl1 hl2; rw [HL.out] at h; exact h) ?_
       rintro e w3 ⟨rfl, rfl⟩
       rw [show (padB n == padB n) = true by simp])
    | (go_at_call 8; refine (works_any _ (Tab.fr HT.out ((Fr.of_below (S := fun _ => False) b1).trans ho.2 (fun _ _ e => e)) (fun e => e))).mono ?_; rintro e w4 ⟨rfl, b4⟩))
  go_ret
  exact ⟨rfl, (((Fr.of_below (S := fun _ => False) b1).trans ho.2 (fun _ _ e => e)).then_below b4).below (fun _ _ e => e)⟩
end Go.Proofs.YtbbjappmaigobaaDoor.pads

/- What is proved: the deferred closure of Get: where a panic goes through, it is caught, and the answer is none; else nothing is done. Conditions: none. -/
import Derived.Test.YtppddpbacpeadaaDoorRwb
import Derived.Defers
import Derived.Recover
import Derived.Laws.Pointers
namespace Go.Proofs.YtppddpbacpeadaaDoor
open Go.RowKit Go.Sort Go.Shelf
open Ids (idC dgt big idC_size idC_get idC_one cellD zero32 size32 dgt_lt hexB)
set_option linter.unusedVariables false

theorem zero_build (w : World) : (Instr.build 26 #[]).run Tryd.prog w = .ok (.agg zeroR) w := by kernel_rfl
theorem zeroR_size : zeroR.size = 36 := rfl
theorem zeroR_one : zeroR.all (·.oneCell') = true := by kernel_rfl
set_option maxHeartbeats 1600000 in
set_option maxRecDepth 100000 in
theorem catch_panicking (gc ge : Nat) (hne : gc ≠ ge) (u : TypeId) (pv : Value) (older : List PanicEntry) (cs : Array Value) (hcs : cs.size = 36) (x : Int) (w : World) (hC : Whole w gc 26 cs) (hE : Whole w ge 28 #[.int .i64 x]) :
    CallsD Tryd.prog 38 #[.pointer (some ⟨gc, 0, none⟩), .pointer (some ⟨ge, 0, none⟩)] (.panicking ({ v := .iface u pv, recovered := false } :: older)) w fun e u' w' =>
      e = .returned (.tuple #[]) ∧ u' = .panicking ({ v := .iface u pv, recovered := true } :: older) ∧ Whole w' gc 26 zeroR ∧ Whole w' ge 28 #[.int .i64 12] ∧ Fr (fun k => k = gc ∨ k = ge) w w' := by
  have HC := Lib.hid hC
  have HE := Lib.hid hE
  have HB := Lib.hid zero_build
  clear hC hE
  refine callsD_of_wpS Tryd.func38 rfl fun c₀ cs' hu => ?_
  apply wpS_seq
  apply wpS_region
  simp [wpOpsS, go_sem, recoverD, hu, Tryd.ntmps38, Exit.thenS]
  refine wpS_cond (t := true) (by simp [Act.eval, Array.replicate]) ?_
  simp only [if_true]
  apply wpS_of_wp
  rw [show (#[Value.pointer (some ⟨gc, 0, none⟩), Value.pointer (some ⟨ge, 0, none⟩)] ++ ((Array.replicate 3 undef).setIfInBounds 0 (Value.iface u pv)).setIfInBounds 1 (Value.bool true)) = [Value.pointer (some ⟨gc, 0, none⟩), Value.pointer (some ⟨ge, 0, none⟩), Value.iface u pv, Value.bool true, undef].toArray from rfl]
  go_wp2_with (first
    | (refine wpList_build_to rfl 26 _ rfl #[] (by first | rfl | simp [Act.eval]) (.agg zeroR) (HB.out _) ?_)
    | (refine wpList_store_at rfl 26 _ _ rfl gc 0 26 cs zeroR rfl rfl HC.out (by rw [hcs]; decide) size36 zeroR_one ?_
       intro w2 hw2 hf2
       rw [laidAt_all _ _ (by rw [hcs]; rfl)] at hw2
       have HE2 := Lib.hid (HE.out.fr hf2 (fun e => hne e.symm))
       have c2 := HE2.out.cell 0
       have z2 := HE2.out.frozen 0
       rw [show (#[Value.int IntKind.i64 x])[0]? = some (Value.int IntKind.i64 x) from rfl] at c2))
  have f3 : Fr (fun k => k = ge) w2 (w2.setCell ⟨ge, 0, none⟩ (.int .i64 12)) := Fr.setCell (S := fun k => k = ge) (p := ⟨ge, 0, none⟩) (Fr.refl _ w2) (fun _ => rfl) _
  refine ⟨rfl, _, rfl, .tuple #[], by simp [results, Tryd.results38], rfl, rfl, hw2.fr f3 hne, HE2.out.set 0 (.int .i64 12), (hf2.mono (fun _ _ e => .inl e) : Fr (fun k => k = gc ∨ k = ge) w w2).trans f3 (fun _ _ e => .inr e)⟩
theorem catch_idle (p q : Addr) (w : World) :
    CallsD Tryd.prog 38 #[.pointer (some p), .pointer (some q)] .returning w fun e u' w' => e = .returned (.tuple #[]) ∧ u' = .returning ∧ w' = w := by
  refine callsD_of_wpS Tryd.func38 rfl fun c₀ cs hu => ?_
  apply wpS_seq
  apply wpS_region
  simp [wpOpsS, go_sem, recoverD, hu, Tryd.ntmps38, Exit.thenS]
  refine wpS_cond (t := false) (by simp [Act.eval, Array.replicate]) ?_
  simp only [Bool.false_eq_true, if_false]
  refine wpS_of_wp (wp_skip ?_)
  cases c₀
  simp_all [bodyPostS, results, Tryd.results38]
end Go.Proofs.YtppddpbacpeadaaDoor

/- What is proved: works, the example of the laws, is true; the law TreeChecks is true of all lists. Conditions: the list's cells are there. -/
import Derived.Test.YtcbgpbcfpeanjaaTrr
namespace Go.Proofs.Ytcbgpbcfpeanjaa
open Go.RowKit Go.Sort Go.Shelf
set_option linter.unusedVariables false

theorem wpList_build_to {P : Program} {ops : Array Oper} {rest : List Oper} {o : Oper} {a : Act} {w : World} {Q : Exit → Act → World → Prop} (hgd : o.guard = none) (t : TypeId) (parts : Array (Nat × Operand)) (ho : o.op = .build t parts)
    (vals : Array (Nat × Value)) (hvals : (parts.map fun (i, x) => (i, a.eval x)) = vals) (v : Value) (hv : (Instr.build t vals).run P w = .ok v w) (h : wpList P ops Q rest (a.put o.dst v) w) : wpList P ops Q (o :: rest) a w :=
  wpList_plain hgd fun K hK => by
    unfold Oper.wp execOp
    simp only [ho, hvals, Sem.run_bind, hv, Result.andThen_ok, Sem.run_pure]
    exact hK _ _ h
theorem wpList_buildSlice_to {P : Program} {ops : Array Oper} {rest : List Oper} {o : Oper} {a : Act} {w : World} {Q : Exit → Act → World → Prop} (hgd : o.guard = none) (t : TypeId) (n : Nat) (parts : Array (Nat × Operand)) (ho : o.op = .buildSlice t n parts)
    (vals : Array (Nat × Value)) (hvals : (parts.map fun (i, x) => (i, a.eval x)) = vals) (v : Value) (w' : World) (hv : (Instr.buildSlice t n vals).run P w = .ok v w') (h : wpList P ops Q rest (a.put o.dst v) w') : wpList P ops Q (o :: rest) a w :=
  wpList_plain hgd fun K hK => by
    unfold Oper.wp execOp
    simp only [ho, hvals, Sem.run_bind, hv, Result.andThen_ok, Sem.run_pure]
    exact hK _ _ h

def exA : Ent := ⟨[97], 3, List.replicate 32 0, by decide, by decide, by decide⟩
def exA0 : Ent := ⟨[97, 48], 1, List.replicate 32 0, by decide, by decide, by decide⟩
def exAb : Ent := ⟨[97, 46, 98], 1, List.replicate 32 0, by decide, by decide, by decide⟩
theorem ex_sorted : srt (ltOf keyCmp) [exA, exA0, exAb] = [exAb, exA, exA0] := by kernel_rfl
theorem ex_chk : chk [exAb, exA, exA0] = 0 := by kernel_rfl
theorem ex_build (w : World) : (Instr.build 45 #[(0, .string ⟨#[97]⟩), (1, .int .i64 3)]).run Try.prog w = .ok (.agg (entV exA).toArray) w := by kernel_rfl
theorem ex_build0 (w : World) : (Instr.build 45 #[(0, .string ⟨#[97, 48]⟩), (1, .int .i64 1)]).run Try.prog w = .ok (.agg (entV exA0).toArray) w := by kernel_rfl
theorem ex_buildb (w : World) : (Instr.build 45 #[(0, .string ⟨#[97, 46, 98]⟩), (1, .int .i64 1)]).run Try.prog w = .ok (.agg (entV exAb).toArray) w := by kernel_rfl
theorem ex_slice (w : World) : (Instr.buildSlice 22 3 #[(0, .agg (entV exA).toArray), (1, .agg (entV exA0).toArray), (2, .agg (entV exAb).toArray)]).run Try.prog w = .ok (.slice (some ⟨w.heap.size, 0, none⟩) 3 3) (w.alloc (.cells (flatE [exA, exA0, exAb]).toArray 45)) := by kernel_rfl
theorem Lies.of_whole {w : World} {g : Nat} {t : TypeId} {xs : List Value} (h : Whole w g t xs.toArray) : Lies w (some ⟨g, 0, none⟩) xs :=
  .inr ⟨g, 0, rfl, fun j u hu => by rw [Nat.zero_add, h.cell, List.getElem?_toArray]; exact hu⟩

set_option maxHeartbeats 3200000 in
set_option maxRecDepth 100000 in
theorem works6_any (w : World) : Calls Try.prog 8 #[] w fun e w' => e = .returned (.bool true) ∧ Below w.heap.size w w' := by
  have hS := fun w1 g h => TSorted_any (some ⟨g, 0, none⟩) 3 [exA, exA0, exAb] (by decide) w1 h
  rw [ex_sorted] at hS
  have hC := fun w1 A c h => TCheck_any A c [exAb, exA, exA0] (by decide) w1 h
  rw [ex_chk] at hC
  have b1 := ex_build
  have b2 := ex_build0
  have b3 := ex_buildb
  have b4 := ex_slice
  have hl : ∀ (w : World), Lies (w.alloc (.cells (flatE [exA, exA0, exAb]).toArray 45)) (some ⟨w.heap.size, 0, none⟩) (flatE [exA, exA0, exAb]) := fun w => Lies.of_whole (Whole.new w 45 _)
  obtain ⟨c1, hc1⟩ : ∃ c, (entV exA).toArray = c := ⟨_, rfl⟩
  obtain ⟨c2, hc2⟩ : ∃ c, (entV exA0).toArray = c := ⟨_, rfl⟩
  obtain ⟨c3, hc3⟩ : ∃ c, (entV exAb).toArray = c := ⟨_, rfl⟩
  obtain ⟨F, hF⟩ : ∃ F, flatE [exA, exA0, exAb] = F := ⟨_, rfl⟩
  rw [hc1] at b1 b4
  rw [hc2] at b2 b4
  rw [hc3] at b3 b4
  rw [hF] at b4 hl hS
  have B1 := Lib.hid b1
  have B2 := Lib.hid b2
  have B3 := Lib.hid b3
  have B4 := Lib.hid b4
  have HS := Lib.hid hS
  have HC := Lib.hid hC
  have HL := Lib.hid hl
  clear b1 b2 b3 b4 hS hC hl hc1 hc2 hc3 hF
  go_enter Try.func8, Try.ntmps8
  go_wp2_with (first
    | (have _ := M2; refine wpList_build_to rfl 45 _ rfl #[(0, .string ⟨#[97, 46, 98]⟩), (1, .int .i64 1)] (by first | rfl | simp [Act.eval]) (.agg c3) (B3.out _) ?_)
    | (have _ := M1; refine wpList_build_to rfl 45 _ rfl #[(0, .string ⟨#[97, 48]⟩), (1, .int .i64 1)] (by first | rfl | simp [Act.eval]) (.agg c2) (B2.out _) ?_; have M2 := True.intro)
    | (refine wpList_build_to rfl 45 _ rfl #[(0, .string ⟨#[97]⟩), (1, .int .i64 3)] (by first | rfl | simp [Act.eval]) (.agg c1) (B1.out _) ?_; have M1 := True.intro)
    | (refine wpList_buildSlice_to rfl 22 3 _ rfl #[(0, .agg c1), (1, .agg c2), (2, .agg c3)] (by simp [Act.eval, Act.put]) _ _ (B4.out _) ?_)
    | (go_at_call 9
       refine (HS.out _ _ (HL.out w)).mono ?_
       rintro e w2 ⟨v, rfl, ho⟩
       obtain ⟨A, c, rfl, hlc, hcm, hA, hli⟩ := ho.shape
       have hF2 := Lib.hid ho.2
       obtain ⟨b, o, rfl⟩ := hli.someE (by decide)
       have d0 : w2.cell? ⟨b, o, none⟩ = some (.string { data := #[97, 46, 98] }) := (by have := name_at hli (i := 0) rfl (Fr.refl _ _); rwa [Nat.zero_mul, Nat.add_zero] at this)
       have d1 : w2.cell? ⟨b, o + 34, none⟩ = some (.string { data := #[97] }) := (by have := name_at hli (i := 1) rfl (Fr.refl _ _); rwa [Nat.one_mul] at this)
       have d2 : w2.cell? ⟨b, o + 68, none⟩ = some (.string { data := #[97, 48] }) := name_at hli (i := 2) rfl (Fr.refl _ _)
       have HCC := Lib.hid (HC.out w2 (some ⟨b, o, none⟩) c hli)
       clear ho hli hA
       simp only [List.length_cons, List.length_nil, Nat.zero_add, Nat.reduceAdd])
    | (go_at_call 10; refine HCC.out.mono ?_; rintro e w3 ⟨rfl, bb⟩))
  go_ret
  exact ⟨rfl, ((((Fr.refl (fun _ => False) w).alloc _).trans hF2.out (fun _ _ e => e)).then_below bb).below (fun _ _ e => e)⟩
end Go.Proofs.Ytcbgpbcfpeanjaa

/- What is proved: OidRanges, for every question: the law returns true and the arguments read as they did. Conditions: none beyond the row's own. -/
import Derived.Test.YtbfbgopbelmghaaOjxG
import Derived.Test.YtbfbgopbelmghaaOyK
import Derived.Test.YtbfbgopbelmghaaOyA
namespace Go.Proofs.Ytbfbgopbelmghaa.ranges
open Go.ChangeShapes Go.WideShapes Go.ChangeAt Go.RowKit Go.ChangeMaps
set_option linter.unusedVariables false

set_option maxRecDepth 100000 in
theorem lifted (os : Os) (started : os.Started) (H : Type) (enc : TypeId × Value → H) :
    ReturnsInHanded {} Try.checked os 7 .any (Rows.oidRangesSpec.pre6 enc Try.prog Try.f7 Rows.oidRangesRow.domain false) (Rows.oidRangesSpec.post enc Try.prog Try.f7 false true false false) := by
  refine returnsInHanded_of_change_sized (C := Try.checked) own_knob started (by kernel_rfl) Try.func7
    (ChangeSpec.witness6 (enc := enc) (C := Try.checked) false ⟨#[], #[.agg ((Value.slice none 0 0 :: (List.replicate 32 (Value.int .u8 0) ++ [Value.int .i64 0])) ++ (List.replicate 32 (Value.int .u8 0) ++ [Value.int .i64 0])).toArray], []⟩ 8 (by kernel_rfl) (by kernel_rfl) (by kernel_rfl) (by kernel_rfl)) ?_
  intro W base args ds gs before hval0 hW hcnd hsz0 _
  have hval : ∀ (j : Nat) t v, Try.f7.params[j]? = some t → args[j]? = some v → Value.okWide Try.prog W .any base t v := hval0
  have hW' := hW
  obtain ⟨p, q, hA0, hV, rfl, hfz, hnd⟩ := hW
  have hA : DataW.TrodAll enc Try.prog W 0 (fun _ => true) true Try.f7.params.toList args.toList ds p := hA0
  rw [Try.params7] at hA hval
  obtain ⟨v0, vs0, d0, ds0, p0, q0, hargs, rfl, rfl, h0, r0⟩ := trodAll_cons hA
  obtain ⟨rfl, rfl, rfl⟩ := trodAll_nil r0
  obtain rfl : args = #[v0] := by cases args; simp_all
  obtain ⟨rfl, rfl⟩ := trodVars_none hV
  have k0 := h0
  have lt0 : ∀ x ∈ p0, x.block < W.heap.size := by obtain ⟨fm, hm⟩ := k0; exact DataW.trod_lt fm _ _ _ hm
  obtain ⟨cs0, rfl, hcz0⟩ := okWide_agg (.inr ⟨_, Try.underlying52⟩) (hval 0 52 v0 rfl rfl)
  obtain ⟨fuel0, hf0⟩ := h0
  obtain ⟨A0, cap0, l0, a0, N0, i0, L0, hle0, hcm0, hl0, hb0, ha0, hN0, hM0, hi0, hL0, hK0, hc0⟩ := open_asked hf0
  obtain rfl : cs0 = askC A0 cap0 l0 a0 N0 i0 L0 := Array.toList_inj.1 hc0
  clear hA0 hval0
  refine (ranges_walk A0 cap0 l0 hl0 hb0 a0 N0 i0 L0 ha0 hN0 hM0 hi0 hL0 hK0 hcm0).mono fun e W' ⟨he, bel⟩ => ?_
  subst he
  exact ⟨_, rfl, _, _, _, [], _, [], hW', trodAll_mk1 (shut_bool Try.underlying4 _), (trodAll_cons_mk (Below.trod laidOut (by kernel_rfl) (of_decide_eq_true (by kernel_rfl)) k0 bel lt0) trodAll_mk0), rfl, bel.frame _, fun h => by cases h⟩

theorem over : Rows.oidRangesRow.holds Try.pinned (OpenSpec.ofChange Rows.oidRangesSpec) :=
  OpenClaim.holds_of_wide 7 Try.f7 rfl rfl rfl rfl rfl rfl rfl ⟨rfl, rfl, rfl, rfl, rfl⟩ rfl rfl rfl rfl rfl (by kernel_rfl) Try.func7 (by kernel_rfl)
    (of_decide_eq_true (by kernel_rfl)) (by unfold Func.isWrapper; first | (rw [if_pos (by decide +kernel)]; kernel_rfl) | (rw [if_neg (by decide +kernel)]; exact ⟨rfl, rfl⟩))
    (fun os started H enc _ => lifted os started H enc)

/-- The statement. -/
theorem proved : Rows.OidRangesSaid := over
#print axioms proved
end Go.Proofs.Ytbfbgopbelmghaa.ranges

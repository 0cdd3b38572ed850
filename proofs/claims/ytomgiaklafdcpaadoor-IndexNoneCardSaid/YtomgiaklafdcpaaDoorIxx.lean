/- What is proved: the walk of the law IndexNone. Conditions: the table of the sums lies as its text lays it. -/
import Derived.Test.YtomgiaklafdcpaaDoorIxw
namespace Go.Proofs.YtomgiaklafdcpaaDoor
open Go.RowKit
set_option linter.unusedVariables false

theorem zidx : Tryd.zeroCells61 = idxC (fanC (fun _ => 0)) (.slice none 0 0) (.slice none 0 0) (.slice none 0 0) (idC (dgt 0)) := by kernel_rfl
theorem eq_zpl (w : World) : (Op.equalIn 10000 49 (.agg zeroPl) (.agg zeroPl)).run Tryd.prog w = .ok true w := by kernel_rfl
theorem eq_zid (w : World) : (Op.equalIn 10000 24 (.agg zero32) (.agg zero32)).run Tryd.prog w = .ok true w := by kernel_rfl
theorem ris_nil0 : ris (keyL 0 (fun _ => 0)) := fun i j h1 h2 => by simp [keyL] at h2
theorem find_none (x : Nat) : fndI 0 (fun _ => 0) (fun _ => 0) (fun _ => 0) (fun _ => 0) x = ⟨0, 0, 0⟩ ∧ fhsI 0 (fun _ => 0) (fun _ => 0) x = false := by
  have h : hasN (subI (fun _ => 0) (keyL 0 (fun _ => 0)) x) x = false := by
    unfold hasN subI
    exact decide_eq_false (fun h => by have := h.1; simp [keyL] at this)
  refine ⟨?_, h⟩
  unfold fndI
  rw [if_neg (by rw [h]; decide)]

/-- What the calls on an index tell that has nothing. -/
structure None0 (w : World) (ptr : Value) (a p : Nat) (N k : Int) : Prop where
  fi : ∀ w', Fr (fun _ => False) w w' → Calls Tryd.prog 17 #[ptr, .agg (idC (dgt a))] w' fun e w'' => e = .returned (.tuple #[.agg zeroPl, .bool false]) ∧ Fr (fun _ => False) w' w''
  le : ∀ w', Fr (fun _ => False) w w' → Calls Tryd.prog 15 #[ptr] w' fun e w'' => e = .returned (.int .i64 0) ∧ w' = w''
  at' : ∀ w', Fr (fun _ => False) w w' → Calls Tryd.prog 18 #[ptr, .int .i64 k] w' fun e w'' => e = .returned (.agg zeroPl) ∧ Below w'.heap.size w' w''
  of : ∀ w', Fr (fun _ => False) w w' → Calls Tryd.prog 16 #[ptr] w' fun e w'' => e = .returned (.agg zero32) ∧ Below w'.heap.size w' w''
  bg : ∀ w', Fr (fun _ => False) w w' → Calls Tryd.prog 19 #[ptr, .agg (pfC (dgt p) N)] w' fun e w'' => e = .returned (.slice (some ⟨w'.heap.size + 1, 0, none⟩) 0 0) ∧ Below w'.heap.size w' w''
theorem none_nil (w : World) (a p : Nat) (N k : Int) (hp : p < big) (h0 : -9223372036854775808 ≤ N) (h1 : N ≤ 9223372036854775807) : None0 w (.pointer none) a p N k where
  fi w' _ := by have := IFind_nil a w'; rw [zpl] at this; exact this
  le w' _ := ILen_nil w'
  at' w' _ := by have := IAt_nil k w'; rw [zpl] at this; exact this.mono (fun e w'' h => ⟨h.1, h.2.below (fun _ _ e => e)⟩)
  of w' _ := by have := IOf_nil w'; rw [zero_id] at this; exact this.mono (fun e w'' h => ⟨h.1, h.2.below (fun _ _ e => e)⟩)
  bg w' _ := IBegins_e (.pointer none) p N h0 h1 hp w' (fun w'' _ => ILen_nil w'')
theorem none_zero (w : World) (X a p : Nat) (N k : Int) (ha : a < big) (hp : p < big) (h0 : -9223372036854775808 ≤ N) (h1 : N ≤ 9223372036854775807) (h : Whole w X 61 Tryd.zeroCells61) : None0 w (.pointer (some ⟨X, 0, none⟩)) a p N k := by
  have hx : IX w X 0 none 0 none 0 none 0 (fun _ => 0) (fun _ => 0) (fun _ => 0) (fun _ => 0) 0 := ⟨by rw [← zidx]; exact h, .inl rfl, .inl rfl, .inl rfl, Nat.le_refl _⟩
  have hat : atI 0 (fun _ => 0) (fun _ => 0) (fun _ => 0) k = ⟨0, 0, 0⟩ := by unfold atI; rw [if_neg (by omega)]
  constructor
  · intro w' f
    have := IFind_any X 0 none none none 0 0 0 (fun _ => 0) (fun _ => 0) (fun _ => 0) (fun _ => 0) 0 a (by decide) (fun j hj => by omega) ha (fun m hm => by simp [keyL] at hm) ris_nil0 (by unfold loF; split <;> exact Nat.le_refl _) (Nat.le_refl _) w' (hx.fr f)
    rw [(find_none a).1, (find_none a).2, zpl] at this
    exact this
  · intro w' f
    exact ILen_any X 0 none none none 0 0 0 (fun _ => 0) (fun _ => 0) (fun _ => 0) (fun _ => 0) 0 w' (hx.fr f)
  · intro w' f
    have := IAt_any X 0 none none none 0 0 0 (fun _ => 0) (fun _ => 0) (fun _ => 0) (fun _ => 0) 0 k (by decide) (fun j hj => by omega) w' (hx.fr f)
    rw [hat, zpl] at this
    exact this.mono (fun e w'' h => ⟨h.1, h.2.below (fun _ _ e => e)⟩)
  · intro w' f
    have := IOf_any X 0 none none none 0 0 0 (fun _ => 0) (fun _ => 0) (fun _ => 0) (fun _ => 0) 0 w' (hx.fr f)
    rw [zero_id] at this
    exact this.mono (fun e w'' h => ⟨h.1, h.2.below (fun _ _ e => e)⟩)
  · intro w' f
    exact IBegins_e (.pointer (some ⟨X, 0, none⟩)) p N h0 h1 hp w' (fun w'' f2 => ILen_any X 0 none none none 0 0 0 (fun _ => 0) (fun _ => 0) (fun _ => 0) (fun _ => 0) 0 w'' (hx.fr (f.trans f2 (fun _ _ e => e))))
end Go.Proofs.YtomgiaklafdcpaaDoor

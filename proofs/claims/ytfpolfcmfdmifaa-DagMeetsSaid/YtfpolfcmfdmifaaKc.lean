/- What is proved: the library's Index, Contains, IndexFunc, ContainsFunc, Less at numbers. Conditions: the lists' cells are there. -/
import Derived.Test.YtfpolfcmfdmifaaKb
import Derived.Shelf.Abstract
namespace Go.Proofs.Ytfpolfcmfdmifaa
open Go.RowKit Go.Shelf
set_option linter.unusedVariables false

set_option maxHeartbeats 1600000 in
theorem GnIndex_any (A : Option Addr) (c : Nat) (l : List Int) (x : Int) (w : World) (hn : l.length ≤ 1000000) (h : Lies w A (zC l)) :
    Calls Try.prog 41 #[.slice A l.length c, .int .i64 x] w fun e w' => ∃ r : Int, e = .returned (.int .i64 r) ∧ decide (r ≥ 0) = l.contains x ∧ w = w' := by
  have HL := Lib.hid (lies_int h (Fr.refl _ w))
  have HC : Hid (∀ k, k < l.length → l.getD k 0 = x → l.contains x = true) := Lib.hid (fun k hk e => by
    rw [List.contains_iff_mem, ← e, List.getD_eq_getElem?_getD, List.getElem?_eq_getElem hk]; exact List.getElem_mem hk)
  have HN : Hid ((∀ k, k < l.length → ¬ x = l.getD k 0) → l.contains x = false) := Lib.hid (fun hh => by
    rw [Bool.eq_false_iff]; intro e
    rw [List.contains_iff_mem] at e
    obtain ⟨k, hk, rfl⟩ := List.getElem_of_mem e
    exact hh k hk (by rw [List.getD_eq_getElem?_getD, List.getElem?_eq_getElem hk]; rfl))
  obtain ⟨n, hn'⟩ : ∃ n, l.length = n := ⟨_, rfl⟩
  rw [hn'] at hn HL HC HN ⊢
  obtain ⟨R, hR⟩ : ∃ R, l.contains x = R := ⟨_, rfl⟩
  rw [hR] at HC HN ⊢
  clear h hn' hR
  go_enter Try.func41, Try.ntmps41
  go_wp2
  go_loopg [8] n (fun kx i wr => ∃ k : Nat, k ≤ n ∧ i = .int .i64 k ∧ n - k ≤ kx ∧ w = wr ∧ Hid (∀ j, j < k → ¬ x = l.getD j 0))
  case atStart => exact ⟨0, by omega, rfl, by omega, rfl, Lib.hid (fun j hj => by omega)⟩
  case round =>
    obtain ⟨k, hk, rfl, hkx, rfl, hI⟩ := hrel
    by_cases hlt : k < n
    · obtain ⟨b, o, rfl, hc⟩ := HL.out k hlt
      have HCk := Lib.hid (HC.out k hlt)
      obtain ⟨y, hy⟩ : ∃ y, l.getD k 0 = y := ⟨_, rfl⟩
      have HY := Lib.hid hy
      rw [hy] at hc HCk
      clear hy
      by_cases e : x = y
      · subst e
        go_wp2
        go_ret
        exact ⟨k, rfl, by rw [HCk.out (by simp)]; simp, rfl⟩
      · go_wp2
        go_roundg (n - (k + 1))
        case measure => omega
        case rel => exact ⟨k + 1, by omega, by go_num, Nat.le_refl _, rfl, Lib.hid (fun j hj => (by omega : j < k ∨ j = k).elim (hI.out j) (fun q => by subst q; rw [HY.out]; exact e))⟩
    · obtain rfl : k = n := by omega
      go_wp2
      go_ret
      exact ⟨-1, rfl, by rw [HN.out hI.out]; rfl, rfl⟩
set_option maxHeartbeats 800000 in
theorem GnContains_any (A : Option Addr) (c : Nat) (l : List Int) (x : Int) (w : World) (hn : l.length ≤ 1000000) (h : Lies w A (zC l)) :
    Calls Try.prog 35 #[.slice A l.length c, .int .i64 x] w fun e w' => e = .returned (.bool (l.contains x)) ∧ w = w' := by
  have HC := Lib.hid (GnIndex_any A c l x w hn h)
  obtain ⟨R, hR⟩ : ∃ R, l.contains x = R := ⟨_, rfl⟩
  rw [hR] at HC ⊢
  clear h hR
  go_enter Try.func35, Try.ntmps35
  go_wp2_with (go_at_call 41; refine HC.out.mono ?_; rintro e w' ⟨r, rfl, hr, rfl⟩; have HR := Lib.hid hr; clear hr)
  go_ret
  exact ⟨by rw [← HR.out]; rfl, rfl⟩

set_option maxHeartbeats 1600000 in
theorem GnIndexF_any (g : Nat) (cb : Array Value) (A : Option Addr) (c : Nat) (l : List Int) (p : Int → Bool) (w : World) (eg : ∀ args w, (callFunc g args).run Try.prog w = .ok (.enter g args) w) (hn : l.length ≤ 1000000)
    (hf : ∀ (q : Later w) (z : Int), z ∈ l → Calls Try.prog g (#[.int .i64 z] ++ cb) q.w' fun e w' => e = .returned (.bool (p z)) ∧ Below q.w'.heap.size q.w' w') (h : Lies w A (zC l)) :
    Calls Try.prog 42 #[.slice A l.length c, .func (.func g) #[] cb] w fun e w' => ∃ r : Int, e = .returned (.int .i64 r) ∧ decide (r ≥ 0) = l.any p ∧ Below w.heap.size w w' := by
  have HF : Hid (∀ (q : Later w) (k : Nat), k < l.length → Calls Try.prog g (#[.int .i64 (l.getD k 0)] ++ cb) q.w' fun e w' => e = .returned (.bool (p (l.getD k 0))) ∧ Below q.w'.heap.size q.w' w') := Lib.hid (fun q k hk => hf q _ (by rw [List.getD_eq_getElem?_getD, List.getElem?_eq_getElem hk]; exact List.getElem_mem hk))
  have HL := Lib.hid (fun w' (f : Fr (fun _ => False) w w') => lies_int h f)
  have HC : Hid (∀ k, k < l.length → p (l.getD k 0) = true → l.any p = true) := Lib.hid (fun k hk e => by
    rw [List.any_eq_true]
    refine ⟨_, ?_, e⟩
    rw [List.getD_eq_getElem?_getD, List.getElem?_eq_getElem hk]; exact List.getElem_mem hk)
  have HN : Hid ((∀ k, k < l.length → p (l.getD k 0) = false) → l.any p = false) := Lib.hid (fun hh => by
    rw [List.any_eq_false]
    intro z hz
    obtain ⟨k, hk, rfl⟩ := List.getElem_of_mem hz
    have := hh k hk
    rw [List.getD_eq_getElem?_getD, List.getElem?_eq_getElem hk, Option.getD_some] at this
    rw [this]; simp)
  obtain ⟨n, hn'⟩ : ∃ n, l.length = n := ⟨_, rfl⟩
  obtain ⟨R, hR⟩ : ∃ R, l.any p = R := ⟨_, rfl⟩
  rw [hn'] at hn HF HL HC HN ⊢
  rw [hR] at HC HN ⊢
  clear hf h hn' hR
  go_enter Try.func42, Try.ntmps42
  go_wp2
  go_loopg [8] n (fun kx i wr => ∃ k : Nat, k ≤ n ∧ i = .int .i64 k ∧ n - k ≤ kx ∧ Fr (fun _ => False) w wr ∧ Hid (∀ j, j < k → p (l.getD j 0) = false))
  case atStart => exact ⟨0, by omega, rfl, by omega, Fr.refl _ _, Lib.hid (fun j hj => by omega)⟩
  case round =>
    obtain ⟨k, hk, rfl, hkx, hfr, hI⟩ := hrel
    have HFr := Lib.hid hfr
    by_cases hlt : k < n
    · obtain ⟨b, o, rfl, hc⟩ := HL.out wr hfr k hlt
      have hcall := HF.out ⟨wr, hfr⟩ k hlt
      simp only at hcall
      have HCk := Lib.hid (HC.out k hlt)
      obtain ⟨x, hx⟩ : ∃ x, l.getD k 0 = x := ⟨_, rfl⟩
      have HX := Lib.hid hx
      rw [hx] at hc hcall HCk
      obtain ⟨b0, hb0⟩ : ∃ b, p x = b := ⟨_, rfl⟩
      rw [hb0] at hcall HCk
      have HB := Lib.hid hb0
      have HCl := Lib.hid hcall
      clear hx hb0 hfr hcall
      cases b0
      · go_wp2_with (go_at_fn g; refine HCl.out.mono ?_; rintro e w3 ⟨rfl, b3⟩)
        have HF3 := Lib.hid (HFr.out.then_below b3)
        go_roundg (n - (k + 1))
        case measure => omega
        case rel => exact ⟨k + 1, by omega, by go_num, Nat.le_refl _, HF3.out, Lib.hid (fun j hj => (by omega : j < k ∨ j = k).elim (hI.out j) (fun e => by rw [e, HX.out, HB.out]))⟩
      · go_wp2_with (go_at_fn g; refine HCl.out.mono ?_; rintro e w3 ⟨rfl, b3⟩)
        go_ret
        exact ⟨k, rfl, by rw [HCk.out (by simp)]; simp, (HFr.out.then_below b3).below (fun _ _ e => e)⟩
    · obtain rfl : k = n := by omega
      clear hfr
      go_wp2_with fail
      go_ret
      exact ⟨-1, rfl, by rw [HN.out hI.out]; rfl, HFr.out.below (fun _ _ e => e)⟩
set_option maxHeartbeats 800000 in
theorem GnContainsF_any (g : Nat) (cb : Array Value) (A : Option Addr) (c : Nat) (l : List Int) (p : Int → Bool) (w : World) (eg : ∀ args w, (callFunc g args).run Try.prog w = .ok (.enter g args) w) (hn : l.length ≤ 1000000)
    (hf : ∀ (q : Later w) (z : Int), z ∈ l → Calls Try.prog g (#[.int .i64 z] ++ cb) q.w' fun e w' => e = .returned (.bool (p z)) ∧ Below q.w'.heap.size q.w' w') (h : Lies w A (zC l)) :
    Calls Try.prog 36 #[.slice A l.length c, .func (.func g) #[] cb] w fun e w' => e = .returned (.bool (l.any p)) ∧ Below w.heap.size w w' := by
  have HC := Lib.hid (GnIndexF_any g cb A c l p w eg hn hf h)
  obtain ⟨R, hR⟩ : ∃ R, l.any p = R := ⟨_, rfl⟩
  rw [hR] at HC ⊢
  clear hf h eg hR
  go_enter Try.func36, Try.ntmps36
  go_wp2_with (go_at_call 42; refine HC.out.mono ?_; rintro e w' ⟨r, rfl, hr, b⟩; have HR := Lib.hid hr; clear hr)
  go_ret
  exact ⟨by rw [← HR.out]; rfl, b⟩

theorem GnLess_any (x y : Int) (w : World) : Calls Try.prog 45 #[.int .i64 x, .int .i64 y] w fun e w' => e = .returned (.bool (decide (x < y))) ∧ w = w' := by
  go_enter Try.func45, Try.ntmps45
  go_wp2
  go_ret
  exact ⟨rfl, rfl⟩

end Go.Proofs.Ytfpolfcmfdmifaa

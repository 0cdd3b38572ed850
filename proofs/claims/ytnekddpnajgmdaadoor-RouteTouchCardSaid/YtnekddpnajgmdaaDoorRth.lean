/- What is proved: what the library finds in lists of texts, and of truths. Conditions: the list's cells are there. -/
import Derived.Test.YtnekddpnajgmdaaDoorRtg
import Derived.Shelf.Abstract
namespace Go.Proofs.YtnekddpnajgmdaaDoor
open Go.RowKit
set_option linter.unusedVariables false

theorem lies_str {w w' : World} {A : Option Addr} {ps : List (List UInt8)} (h : Lies w A (strV ps)) (f : Fr (fun _ => False) w w') : ∀ k, k < ps.length → ∃ b o, A = some ⟨b, o, none⟩ ∧ w'.cell? ⟨b, o + k, none⟩ = some (.string (strB (ps.getD k []))) := by
  intro k hk
  rcases h with h | ⟨b, o, rfl, hc⟩
  · have := congrArg List.length h
    rw [strV_len, List.length_nil] at this
    omega
  · exact ⟨b, o, rfl, f.cell (hc k _ (strV_get ps k hk)) (fun e => e)⟩
/-- The place of the first one that is asked for; -1: there is none. -/
structure FirstAt (n : Nat) (p : Nat → Bool) (r : Int) : Prop where
  cases : (r = -1 ∧ ∀ j, j < n → p j = false) ∨ ∃ k : Nat, r = k ∧ k < n ∧ p k = true
theorem FirstAt.any {α : Type} {ps : List α} {d : α} {p : α → Bool} {r : Int} (h : FirstAt ps.length (fun j => p (ps.getD j d)) r) : decide (0 ≤ r) = ps.any p := by
  rw [Bool.eq_iff_iff, decide_eq_true_eq, List.any_eq_true]
  rcases h.cases with ⟨rfl, h1⟩ | ⟨k, rfl, hk, h1⟩
  · refine ⟨fun h => by omega, ?_⟩
    rintro ⟨x, hx, hp⟩
    obtain ⟨j, hj, rfl⟩ := List.getElem_of_mem hx
    have := h1 j hj
    simp only [List.getD_eq_getElem?_getD, List.getElem?_eq_getElem hj, Option.getD_some] at this
    rw [hp] at this
    cases this
  · refine ⟨fun _ => ⟨ps[k], List.getElem_mem hk, ?_⟩, fun _ => by omega⟩
    simpa only [List.getD_eq_getElem?_getD, List.getElem?_eq_getElem hk, Option.getD_some] using h1

set_option maxHeartbeats 3200000 in
theorem GIdxFuncS_any (g : Nat) (cb : Array Value) (A : Option Addr) (c : Nat) (ps : List (List UInt8)) (p : List UInt8 → Bool) (w : World) (eg : ∀ args w, (callFunc g args).run Tryd.prog w = .ok (.enter g args) w) (hn : ps.length ≤ 1000000)
    (hf : ∀ (q : Later w) (i : Nat), i < ps.length → Calls Tryd.prog g (#[.string (strB (ps.getD i []))] ++ cb) q.w' fun e w' => e = .returned (.bool (p (ps.getD i []))) ∧ Below q.w'.heap.size q.w' w')
    (h : Lies w A (strV ps)) :
    Calls Tryd.prog 52 #[.slice A ps.length c, .func (.func g) #[] cb] w fun e w' => ∃ r, e = .returned (.int .i64 r) ∧ FirstAt ps.length (fun j => p (ps.getD j [])) r ∧ Below w.heap.size w w' := by
  have HF := Lib.hid hf
  have HL := Lib.hid (fun w' (f : Fr (fun _ => False) w w') => lies_str h f)
  obtain ⟨n, hn'⟩ : ∃ n, ps.length = n := ⟨_, rfl⟩
  rw [hn'] at hn HF HL ⊢
  clear hf h hn'
  go_enter Tryd.func52, Tryd.ntmps52
  go_wp2
  go_loopw [8] (fun i wr => ∃ k : Nat, k ≤ n ∧ i = .int .i64 k ∧ Fr (fun _ => False) w wr ∧ Hid (∀ j, j < k → p (ps.getD j []) = false)) (fun i _ => n - (intOf i).toNat)
  case atStart => exact ⟨0, by omega, rfl, Fr.refl _ _, Lib.hid (fun j hj => by omega)⟩
  case round =>
    obtain ⟨k, hk, rfl, hfr, hI⟩ := hrel
    have HFr := Lib.hid hfr
    by_cases hlt : k < n
    · obtain ⟨b, o, rfl, hc⟩ := HL.out wr hfr k hlt
      have hcall := HF.out ⟨wr, hfr⟩ k hlt
      simp only at hcall
      obtain ⟨x, hx⟩ : ∃ x, ps.getD k [] = x := ⟨_, rfl⟩
      have HX := Lib.hid hx
      rw [hx] at hc hcall
      obtain ⟨S, hS⟩ : ∃ S, strB x = S := ⟨_, rfl⟩
      rw [hS] at hc hcall
      obtain ⟨b0, hb0⟩ : ∃ b, p x = b := ⟨_, rfl⟩
      rw [hb0] at hcall
      have HB := Lib.hid hb0
      have HC := Lib.hid hcall
      clear hx hS hb0 hfr hcall
      cases b0
      · go_wp2_with (go_at_fn g; refine HC.out.mono ?_; rintro e w3 ⟨rfl, b3⟩)
        have HF3 := Lib.hid (HFr.out.then_below b3)
        go_roundw
        case rel => exact ⟨k + 1, by omega, by go_num, HF3.out, Lib.hid (fun j hj => (by omega : j < k ∨ j = k).elim (hI.out j) (fun e => by rw [e, HX.out, HB.out]))⟩
        case measure => simp [intOf]; omega
      · go_wp2_with (go_at_fn g; refine HC.out.mono ?_; rintro e w3 ⟨rfl, b3⟩)
        go_ret
        exact ⟨k, rfl, ⟨.inr ⟨k, rfl, hlt, by rw [HX.out, HB.out]⟩⟩, (HFr.out.then_below b3).below (fun _ _ e => e)⟩
    · obtain rfl : k = n := by omega
      clear hfr
      go_wp2_with fail
      go_ret
      exact ⟨-1, rfl, ⟨.inl ⟨rfl, hI.out⟩⟩, HFr.out.below (fun _ _ e => e)⟩
set_option maxHeartbeats 1600000 in
theorem GContFuncS_any (g : Nat) (cb : Array Value) (A : Option Addr) (c : Nat) (ps : List (List UInt8)) (p : List UInt8 → Bool) (w : World) (eg : ∀ args w, (callFunc g args).run Tryd.prog w = .ok (.enter g args) w) (hn : ps.length ≤ 1000000)
    (hf : ∀ (q : Later w) (i : Nat), i < ps.length → Calls Tryd.prog g (#[.string (strB (ps.getD i []))] ++ cb) q.w' fun e w' => e = .returned (.bool (p (ps.getD i []))) ∧ Below q.w'.heap.size q.w' w')
    (h : Lies w A (strV ps)) :
    Calls Tryd.prog 38 #[.slice A ps.length c, .func (.func g) #[] cb] w fun e w' => e = .returned (.bool (ps.any p)) ∧ Below w.heap.size w w' := by
  have HC := Lib.hid (GIdxFuncS_any g cb A c ps p w eg hn hf h)
  clear hf h eg
  go_enter Tryd.func38, Tryd.ntmps38
  go_wp2_with (go_at_call 52; refine HC.out.mono ?_; rintro e w' ⟨r, rfl, hr, b⟩)
  have HR := Lib.hid hr.any
  clear hr
  go_ret
  exact ⟨by rw [← HR.out]; rfl, b⟩

set_option maxHeartbeats 3200000 in
theorem GIdxS_any (A : Option Addr) (c : Nat) (ps : List (List UInt8)) (x : List UInt8) (w : World) (hn : ps.length ≤ 1000000) (h : Lies w A (strV ps)) :
    Calls Tryd.prog 53 #[.slice A ps.length c, .string (strB x)] w fun e w' => ∃ r, e = .returned (.int .i64 r) ∧ FirstAt ps.length (fun j => x == ps.getD j []) r ∧ w = w' := by
  have HL := Lib.hid (lies_str h (Fr.refl _ w))
  have HQ := Lib.hid (str_eq x)
  obtain ⟨n, hn'⟩ : ∃ n, ps.length = n := ⟨_, rfl⟩
  rw [hn'] at hn HL ⊢
  obtain ⟨X, hX⟩ : ∃ S, strB x = S := ⟨_, rfl⟩
  rw [hX] at HQ ⊢
  clear h hn' hX
  go_enter Tryd.func53, Tryd.ntmps53
  go_wp2
  go_loopw [8] (fun i wr => ∃ k : Nat, k ≤ n ∧ i = .int .i64 k ∧ Hid (∀ j, j < k → (x == ps.getD j []) = false) ∧ wr = w) (fun i _ => n - (intOf i).toNat)
  case atStart => exact ⟨0, by omega, rfl, Lib.hid (fun j hj => by omega), rfl⟩
  case round =>
    obtain ⟨k, hk, rfl, hI, rfl⟩ := hrel
    by_cases hlt : k < n
    · obtain ⟨b, o, rfl, hc⟩ := HL.out k hlt
      have hq := HQ.out (ps.getD k [])
      obtain ⟨y, hy⟩ : ∃ x, ps.getD k [] = x := ⟨_, rfl⟩
      have HY := Lib.hid hy
      rw [hy] at hc hq
      obtain ⟨S, hS⟩ : ∃ S, strB y = S := ⟨_, rfl⟩
      rw [hS] at hc hq
      obtain ⟨b0, hb0⟩ : ∃ b, (x == y) = b := ⟨_, rfl⟩
      rw [hb0] at hq
      have HB := Lib.hid hb0
      clear hy hS hb0
      cases b0
      · have hq' : ¬ X.toList = S.toList := by simpa using hq
        go_wp2_with fail
        go_roundw
        case rel => exact ⟨k + 1, by omega, by go_num, Lib.hid (fun j hj => (by omega : j < k ∨ j = k).elim (hI.out j) (fun e => by rw [e, HY.out, HB.out])), trivial⟩
        case measure => simp [intOf]; omega
      · have hq' : X.toList = S.toList := by simpa using hq
        go_wp2_with fail
        go_ret
        exact ⟨k, rfl, ⟨.inr ⟨k, rfl, hlt, by rw [HY.out, HB.out]⟩⟩, rfl⟩
    · obtain rfl : k = n := by omega
      go_wp2_with fail
      go_ret
      exact ⟨-1, rfl, ⟨.inl ⟨rfl, hI.out⟩⟩, rfl⟩
theorem any_contains (ps : List (List UInt8)) (x : List UInt8) : ps.any (fun y => x == y) = ps.contains x := by
  rw [Bool.eq_iff_iff, List.any_eq_true, List.contains_iff_mem]
  constructor
  · rintro ⟨y, hy, e⟩; rw [eq_of_beq e]; exact hy
  · intro h; exact ⟨x, h, by simp⟩
set_option maxHeartbeats 1600000 in
theorem GContS_any (A : Option Addr) (c : Nat) (ps : List (List UInt8)) (x : List UInt8) (w : World) (hn : ps.length ≤ 1000000) (h : Lies w A (strV ps)) :
    Calls Tryd.prog 39 #[.slice A ps.length c, .string (strB x)] w fun e w' => e = .returned (.bool (ps.contains x)) ∧ w = w' := by
  have HC := Lib.hid (GIdxS_any A c ps x w hn h)
  clear h
  go_enter Tryd.func39, Tryd.ntmps39
  go_wp2_with (go_at_call 53; refine HC.out.mono ?_; rintro e w' ⟨r, rfl, hr, rfl⟩)
  have HR := Lib.hid (hr.any (p := fun y => x == y))
  clear hr
  go_ret
  exact ⟨by rw [← any_contains, ← HR.out]; rfl, rfl⟩

/-! Truths. -/
def truV (ts : List Bool) : List Value := ts.map Value.bool
theorem truV_len (ts : List Bool) : (truV ts).length = ts.length := by simp [truV]
theorem truV_get (ts : List Bool) (k : Nat) (h : k < ts.length) : (truV ts)[k]? = some (.bool (ts.getD k false)) := by
  rw [truV, List.getElem?_map, List.getElem?_eq_getElem h, List.getD_eq_getElem?_getD, List.getElem?_eq_getElem h]
  rfl
theorem lies_tru {w w' : World} {A : Option Addr} {ts : List Bool} (h : Lies w A (truV ts)) (f : Fr (fun _ => False) w w') : ∀ k, k < ts.length → ∃ b o, A = some ⟨b, o, none⟩ ∧ w'.cell? ⟨b, o + k, none⟩ = some (.bool (ts.getD k false)) := by
  intro k hk
  rcases h with h | ⟨b, o, rfl, hc⟩
  · have := congrArg List.length h
    rw [truV_len, List.length_nil] at this
    omega
  · exact ⟨b, o, rfl, f.cell (hc k _ (truV_get ts k hk)) (fun e => e)⟩
set_option maxHeartbeats 3200000 in
theorem GIdxB_any (A : Option Addr) (c : Nat) (ts : List Bool) (w : World) (hn : ts.length ≤ 1000000) (h : Lies w A (truV ts)) :
    Calls Tryd.prog 60 #[.slice A ts.length c, .bool true] w fun e w' => ∃ r, e = .returned (.int .i64 r) ∧ FirstAt ts.length (fun j => ts.getD j false) r ∧ w = w' := by
  have HL := Lib.hid (lies_tru h (Fr.refl _ w))
  obtain ⟨n, hn'⟩ : ∃ n, ts.length = n := ⟨_, rfl⟩
  rw [hn'] at hn HL ⊢
  clear h hn'
  go_enter Tryd.func60, Tryd.ntmps60
  go_wp2
  go_loopw [8] (fun i wr => ∃ k : Nat, k ≤ n ∧ i = .int .i64 k ∧ Hid (∀ j, j < k → ts.getD j false = false) ∧ wr = w) (fun i _ => n - (intOf i).toNat)
  case atStart => exact ⟨0, by omega, rfl, Lib.hid (fun j hj => by omega), rfl⟩
  case round =>
    obtain ⟨k, hk, rfl, hI, rfl⟩ := hrel
    by_cases hlt : k < n
    · obtain ⟨b, o, rfl, hc⟩ := HL.out k hlt
      obtain ⟨b0, hb0⟩ : ∃ b, ts.getD k false = b := ⟨_, rfl⟩
      rw [hb0] at hc
      have HB := Lib.hid hb0
      clear hb0
      cases b0
      · go_wp2_with fail
        go_roundw
        case rel => exact ⟨k + 1, by omega, by go_num, Lib.hid (fun j hj => (by omega : j < k ∨ j = k).elim (hI.out j) (fun e => by rw [e, HB.out])), trivial⟩
        case measure => simp [intOf]; omega
      · go_wp2_with fail
        go_ret
        exact ⟨k, rfl, ⟨.inr ⟨k, rfl, hlt, HB.out⟩⟩, rfl⟩
    · obtain rfl : k = n := by omega
      go_wp2_with fail
      go_ret
      exact ⟨-1, rfl, ⟨.inl ⟨rfl, hI.out⟩⟩, rfl⟩
set_option maxHeartbeats 1600000 in
theorem GContB_any (A : Option Addr) (c : Nat) (ts : List Bool) (w : World) (hn : ts.length ≤ 1000000) (h : Lies w A (truV ts)) :
    Calls Tryd.prog 46 #[.slice A ts.length c, .bool true] w fun e w' => e = .returned (.bool (ts.any id)) ∧ w = w' := by
  have HC := Lib.hid (GIdxB_any A c ts w hn h)
  clear h
  go_enter Tryd.func46, Tryd.ntmps46
  go_wp2_with (go_at_call 60; refine HC.out.mono ?_; rintro e w' ⟨r, rfl, hr, rfl⟩)
  have HR := Lib.hid (hr.any (p := id))
  clear hr
  go_ret
  exact ⟨by rw [← HR.out]; rfl, rfl⟩
end Go.Proofs.YtnekddpnajgmdaaDoor

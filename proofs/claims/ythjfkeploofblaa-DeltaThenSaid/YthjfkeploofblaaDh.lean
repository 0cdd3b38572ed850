/- What is proved: what the walks of this seat need of layers below, merged out of the texts Ojb Ojc (of each just what is needed). Conditions: each theorem names its own. -/
import Derived.Shelf.Abstract
import Derived.Test.YthjfkeploofblaaDb
import Derived.Test.YthjfkeploofblaaDas
set_option maxRecDepth 100000
/- What is proved: whether a list rises, by the program and by the document; where an id stands, by the document. Conditions: the list's cells are there. -/
namespace Go.Proofs.Ythjfkeploofblaa
open Go.RowKit
set_option linter.unusedVariables false
theorem wrap_nat (k : Nat) (h : k ≤ 100000) : IntKind.i64.wrap (k : Int) = k := by rw [IntKind.wrap_i64]; omega
theorem wrap_nat1 (k : Nat) (h : k ≤ 100000) : IntKind.i64.wrap ((k : Int) + 1) = (k : Int) + 1 := by rw [IntKind.wrap_i64]; omega
end Go.Proofs.Ythjfkeploofblaa
/- What is proved: what the library's search finds; where an id stands, by the program. Conditions: the list's cells are there. -/
namespace Go.Proofs.Ythjfkeploofblaa
open Go.RowKit
set_option linter.unusedVariables false
/-- What a search has found: as far as it, all say no; there, if it is a place, yes. -/
structure Found (n : Nat) (p : Nat → Bool) (m : Nat) : Prop where
  le : m ≤ n
  below : ∀ i, i < m → p i = false
  here : m < n → p m = true
set_option maxHeartbeats 3200000 in
theorem GSearch_any (g : Nat) (cb : Array Value) (n : Nat) (p : Nat → Bool) (w : World) (eg : ∀ args w, (callFunc g args).run Try.prog w = .ok (.enter g args) w) (hn : n ≤ 1000)
    (hf : ∀ (q : Later w) (i : Nat), i < n → Calls Try.prog g (#[.int .i64 i] ++ cb) q.w' fun e w' => e = .returned (.bool (p i)) ∧ Below q.w'.heap.size q.w' w')
    (hmono : ∀ a b, a ≤ b → b < n → p a = true → p b = true) :
    Calls Try.prog 70 #[.int .i64 n, .func (.func g) #[] cb] w fun e w' => ∃ m, e = .returned (.int .i64 (m : Nat)) ∧ Found n p m ∧ Below w.heap.size w w' := by
  have HFn := Lib.hid hf
  have HM := Lib.hid hmono
  clear hf hmono
  go_enter Try.func70, Try.ntmps70
  go_wp2
  go_loopw [5, 6] (fun s5 s6 wr => ∃ lo hi : Nat, s5 = .int .i64 lo ∧ s6 = .int .i64 hi ∧ lo ≤ hi ∧ hi ≤ n ∧ Fr (fun _ => False) w wr ∧ Hid ((∀ t, t < lo → p t = false) ∧ (∀ t, hi ≤ t → t < n → p t = true))) (fun s5 s6 _ => (intOf s6).toNat - (intOf s5).toNat)
  case atStart => exact ⟨0, n, rfl, rfl, by omega, by omega, Fr.refl _ _, Lib.hid ⟨fun t ht => by omega, fun t h1 h2 => by omega⟩⟩
  case round =>
    obtain ⟨lo, hi, rfl, rfl, hlh, hin, hfr, hI⟩ := hrel
    by_cases hlt : lo < hi
    · have hc := HFn.out ⟨wr, hfr⟩ ((lo + hi) / 2) (by omega)
      simp only at hc
      rw [show (((lo + hi) / 2 : Nat) : Int) = ((lo : Int) + (hi : Int)) / 2 by omega] at hc
      have HFr := Lib.hid hfr
      obtain ⟨b, hp⟩ : ∃ b, p ((lo + hi) / 2) = b := ⟨_, rfl⟩
      rw [hp] at hc
      have HP := Lib.hid hp
      clear hp hfr
      cases b
      · go_wp2_with (go_at_fn g; refine hc.mono ?_; rintro e w3 ⟨rfl, b3⟩)
        have HF3 := Lib.hid (HFr.out.then_below b3)
        go_roundw
        case rel =>
          refine ⟨(lo + hi) / 2 + 1, hi, by rw [show ((lo : Int) + (hi : Int)) / 2 + 1 = (((lo + hi) / 2 + 1 : Nat) : Int) by omega], rfl, by omega, hin, HF3.out, Lib.hid ⟨fun t ht => ?_, hI.out.2⟩⟩
          cases h : p t with
          | false => rfl
          | true =>
            have := HM.out t ((lo + hi) / 2) (by omega) (by omega) h
            rw [HP.out] at this
            cases this
        case measure => simp [intOf]; omega
      · go_wp2_with (go_at_fn g; refine hc.mono ?_; rintro e w3 ⟨rfl, b3⟩)
        have HF3 := Lib.hid (HFr.out.then_below b3)
        go_roundw
        case rel => exact ⟨lo, (lo + hi) / 2, rfl, by rw [show ((lo : Int) + (hi : Int)) / 2 = (((lo + hi) / 2 : Nat) : Int) by omega], by omega, by omega, HF3.out, Lib.hid ⟨hI.out.1, fun t ht htn => HM.out ((lo + hi) / 2) t ht htn HP.out⟩⟩
        case measure => simp [intOf]; omega
    · obtain rfl : hi = lo := by omega
      have HFr := Lib.hid hfr
      clear hfr
      go_wp2_with fail
      go_ret
      exact ⟨hi, rfl, ⟨hin, hI.out.1, fun h => hI.out.2 hi (Nat.le_refl _) h⟩, HFr.out.below (fun _ _ e => e)⟩
end Go.Proofs.Ythjfkeploofblaa

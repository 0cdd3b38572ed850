/- What is proved: what the library's search finds; where an id stands, by the program. Conditions: the list's cells are there. -/
import Derived.Test.YtbfbgopbelmghaaOjb
import Derived.Shelf.Abstract
namespace Go.Proofs.Ytbfbgopbelmghaa
open Go.RowKit
set_option linter.unusedVariables false

/-- What a search has found: as far as it, all say no; there, if it is a place, yes. -/
structure Found (n : Nat) (p : Nat → Bool) (m : Nat) : Prop where
  le : m ≤ n
  below : ∀ i, i < m → p i = false
  here : m < n → p m = true

set_option maxHeartbeats 3200000 in
theorem GSearch_any (g : Nat) (cb : Array Value) (n : Nat) (p : Nat → Bool) (w : World) (eg : ∀ args w, (callFunc g args).run Try.prog w = .ok (.enter g args) w) (hn : n ≤ 1000)
    (hf : ∀ (q : Later w) (i : Nat), i < n → Calls Try.prog g (#[.int .i64 i] ++ cb) q.w' fun e w' => e = .returned (.bool (p i)) ∧ Below q.w'.heap.size q.w' w')
    (hmono : ∀ a b, a ≤ b → b < n → p a = true → p b = true) :
    Calls Try.prog 41 #[.int .i64 n, .func (.func g) #[] cb] w fun e w' => ∃ m, e = .returned (.int .i64 (m : Nat)) ∧ Found n p m ∧ Below w.heap.size w w' := by
  have HFn := Lib.hid hf
  have HM := Lib.hid hmono
  clear hf hmono
  go_enter Try.func41, Try.ntmps41
  go_wp2
  go_loopw [5, 6] (fun s5 s6 wr => ∃ lo hi : Nat, s5 = .int .i64 lo ∧ s6 = .int .i64 hi ∧ lo ≤ hi ∧ hi ≤ n ∧ Fr (fun _ => False) w wr ∧ Hid ((∀ t, t < lo → p t = false) ∧ (∀ t, hi ≤ t → t < n → p t = true))) (fun s5 s6 _ => (intOf s6).toNat - (intOf s5).toNat)
  case atStart => exact ⟨0, n, rfl, rfl, by omega, by omega, Fr.refl _ _, Lib.hid ⟨fun t ht => by omega, fun t h1 h2 => by omega⟩⟩
  case round =>
    obtain ⟨lo, hi, rfl, rfl, hlh, hin, hfr, hI⟩ := hrel
    by_cases hlt : lo < hi
    · have hc := HFn.out ⟨wr, hfr⟩ ((lo + hi) / 2) (by omega)
      simp only at hc
      rw [show (((lo + hi) / 2 : Nat) : Int) = ((lo : Int) + (hi : Int)) / 2 by omega] at hc
      have HFr := Lib.hid hfr
      obtain ⟨b, hp⟩ : ∃ b, p ((lo + hi) / 2) = b := ⟨_, rfl⟩
      rw [hp] at hc
      have HP := Lib.hid hp
      clear hp hfr
      cases b
      · go_wp2_with (go_at_fn g; refine hc.mono ?_; rintro e w3 ⟨rfl, b3⟩)
        have HF3 := Lib.hid (HFr.out.then_below b3)
        go_roundw
        case rel =>
          refine ⟨(lo + hi) / 2 + 1, hi, by rw [show ((lo : Int) + (hi : Int)) / 2 + 1 = (((lo + hi) / 2 + 1 : Nat) : Int) by omega], rfl, by omega, hin, HF3.out, Lib.hid ⟨fun t ht => ?_, hI.out.2⟩⟩
          cases h : p t with
          | false => rfl
          | true =>
            have := HM.out t ((lo + hi) / 2) (by omega) (by omega) h
            rw [HP.out] at this
            cases this
        case measure => simp [intOf]; omega
      · go_wp2_with (go_at_fn g; refine hc.mono ?_; rintro e w3 ⟨rfl, b3⟩)
        have HF3 := Lib.hid (HFr.out.then_below b3)
        go_roundw
        case rel => exact ⟨lo, (lo + hi) / 2, rfl, by rw [show ((lo : Int) + (hi : Int)) / 2 = (((lo + hi) / 2 : Nat) : Int) by omega], by omega, by omega, HF3.out, Lib.hid ⟨hI.out.1, fun t ht htn => HM.out ((lo + hi) / 2) t ht htn HP.out⟩⟩
        case measure => simp [intOf]; omega
    · obtain rfl : hi = lo := by omega
      have HFr := Lib.hid hfr
      clear hfr
      go_wp2_with fail
      go_ret
      exact ⟨hi, rfl, ⟨hin, hI.out.1, fun h => hI.out.2 hi (Nat.le_refl _) h⟩, HFr.out.below (fun _ _ e => e)⟩

set_option maxHeartbeats 3200000 in
/-- The question that Find asks of a place. -/
theorem OFind1_any (gl gx b o cap : Nat) (ns : List Nat) (x : Nat) (hb : ∀ n ∈ ns, n < big) (hx : x < big) (hn : ns.length ≤ 1000) (i : Nat) (hi : i < ns.length) (w : World)
    (hl : w.cell? ⟨gl, 0, none⟩ = some (.slice (some ⟨b, o, none⟩) ns.length cap)) (hX : Whole w gx 23 (idC (dgt x))) (h : Lies w (some ⟨b, o, none⟩) (flatI ns)) :
    Calls Try.prog 42 #[.int .i64 i, .pointer (some ⟨gl, 0, none⟩), .pointer (some ⟨gx, 0, none⟩)] w fun e w' => e = .returned (.bool (decide (x ≤ gt ns i))) ∧ Below w.heap.size w w' := by
  obtain ⟨T32, hT32⟩ : ∃ T : TypeId, T = 23 := ⟨_, rfl⟩
  obtain ⟨n32, hn32⟩ : ∃ n : Nat, n = 32 := ⟨_, rfl⟩
  have ag32 : ∀ w, (isAgg T32).run Try.prog w = .ok true w := by rw [hT32]; exact fun _ => by kernel_rfl
  have sz32 : ∀ w, (sizeOf T32).run Try.prog w = .ok n32 w := by rw [hT32, hn32]; exact fun _ => by kernel_rfl
  have hma := hb _ (gt_mem ns i hi)
  have l0 : ∀ q : Later w, q.w'.cell? ⟨gl, 0, none⟩ = some (.slice (some ⟨b, o, none⟩) ns.length cap) := fun q => q.fr.cell hl (fun e => e)
  have l1 : ∀ q : Later w, (loadCellsFrom ⟨b, o + i * 32, none⟩ 0 n32 #[]).run Try.prog q.w' = .ok (idC (dgt (gt ns i))) q.w' := fun q => by rw [hn32]; exact load_at h (gt_some ns i hi) q.fr
  have l2 : ∀ q : Later w, (loadCellsFrom ⟨gx, 0, none⟩ 0 n32 #[]).run Try.prog q.w' = .ok (idC (dgt x)) q.w' := fun q => load_later hX (by rw [idC_size]; exact hn32) (Fr.refl _ w) q
  have cc := fun w => OCompare_any (gt ns i) x hma hx w
  have hd : decide (x ≤ gt ns i) = decide (0 ≤ cmpN (gt ns i) x) := by
    rw [decide_eq_decide, cmpN]
    split
    · omega
    · split <;> omega
  rw [hd]
  obtain ⟨r, hr⟩ : ∃ r, cmpN (gt ns i) x = r := ⟨_, rfl⟩
  obtain ⟨ca, hca⟩ : ∃ c, idC (dgt (gt ns i)) = c := ⟨_, rfl⟩
  obtain ⟨cx, hcx⟩ : ∃ c, idC (dgt x) = c := ⟨_, rfl⟩
  obtain ⟨L, hL⟩ : ∃ L, ns.length = L := ⟨_, rfl⟩
  rw [hca, hcx, hr] at cc
  rw [hca] at l1
  rw [hcx] at l2
  rw [hr]
  rw [hL] at hn hi l0
  have CC := Lib.hid cc
  have hi0 : (i : Int) < L := by omega
  have wk := wrap_nat i (by omega)
  clear hca hcx hr cc hL hd hma hl hX h hb hx hn32
  go_enter Try.func42, Try.ntmps42
  rw [show Op.load 23 (.tmp 7) = Op.load T32 (.tmp 7) by rw [hT32], show Op.load 23 (.tmp 2) = Op.load T32 (.tmp 2) by rw [hT32]]
  clear hT32
  go_wp2_with fail
  refine wp_region_later (w0 := w) (Fr.refl _ _) (by kernel_rfl) (by kernel_rfl) ?_
  repeat (quiet_step ((go_at_call 20; refine Calls.later_of (CC.out _))))
  refine wpQuiet_nil ?_
  intro _ hw'
  obtain ⟨q, hw''⟩ := hw'
  subst hw''
  go_wp2_with fail
  go_ret
  exact ⟨rfl, q.fr.below (fun _ _ e => e)⟩
end Go.Proofs.Ytbfbgopbelmghaa

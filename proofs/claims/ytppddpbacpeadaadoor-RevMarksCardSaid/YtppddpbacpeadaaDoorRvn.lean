/- What is proved: the walk of the law RevPuts, for every commit, number and text. Conditions: the parents' cells are there; the library's table lies as its text lays it. -/
import Derived.Test.YtppddpbacpeadaaDoorRvm
namespace Go.Proofs.YtppddpbacpeadaaDoor
open Go.RowKit Go.Sort Go.Shelf
open Ids (idC dgt big idC_size idC_get idC_one cellD zero32 size32 dgt_lt hexB)
set_option linter.unusedVariables false

/-- A whole block, as a load reads it later. -/
theorem load_all {w w' : World} {g n : Nat} {t : TypeId} {cs : Array Value} (h : Whole w g t cs) (hn : n = cs.size) (f : Fr (fun _ => False) w w') : (loadCellsFrom ⟨g, 0, none⟩ 0 n #[]).run Tryd.prog w' = .ok cs w' :=
  load_mid h f hn (fun j v hv => by rw [Nat.zero_add, ← hv, Array.getElem?_toList])
set_option maxHeartbeats 6400000 in
set_option maxRecDepth 100000 in
theorem puts_walk (T : Nat) (A : Option Addr) (c : Nat) (ps : List Nat) (a : List UInt8) (n : Int) (t : List UInt8) (hc : ps.length ≤ c) (hb : ∀ n ∈ ps, n < big) (ha : a.length ≤ 9223372036854775806) (ht : t.length ≤ 9223372036854775806)
    (k : Int) (hk : k ≤ 9223372036854775807) (s : List UInt8) (hs : s.length ≤ 9223372036854775806) (w : World) (h1 : Lies w A (flatI ps)) (hTab : Tab10 w) :
    Calls Tryd.prog 3 #[.agg (revC T (.slice A ps.length c) a n t), .int .i64 k, .string (strB s)] w fun e w' => e = .returned (.bool true) ∧ Below w.heap.size w w' := by
  obtain ⟨w1, hw1⟩ : ∃ w1, w.alloc (.cells (revC T (.slice A ps.length c) a n t) 26) = w1 := ⟨_, rfl⟩
  have hF : Fr (fun _ => False) w w1 := by subst hw1; exact (Fr.refl _ w).alloc _
  have hS : RevAt w1 w.heap.size T (.slice A ps.length c) a n t := by subst hw1; exact RevAt.new w
  obtain ⟨T36, hT36⟩ : ∃ T : TypeId, T = 26 := ⟨_, rfl⟩
  obtain ⟨n36, hn36⟩ : ∃ n : Nat, n = 36 := ⟨_, rfl⟩
  have ag36 : ∀ w, (isAgg T36).run Tryd.prog w = .ok true w := by rw [hT36]; exact fun _ => by kernel_rfl
  have sz36 : ∀ w, (sizeOf T36).run Tryd.prog w = .ok n36 w := by rw [hT36, hn36]; exact fun _ => by kernel_rfl
  have HF := Lib.hid hF
  have HLD : Hid (∀ w', Fr (fun _ => False) w1 w' → (loadCellsFrom ⟨w.heap.size, 0, none⟩ 0 n36 #[]).run Tryd.prog w' = .ok (revC T (.slice A ps.length c) a n t) w') := Lib.hid (fun w' f => load_all hS (by rw [hn36, revC_size]) f)
  have C1 := Lib.hid (fun w' (f : Fr (fun _ => False) w w') => VPut_any T A c ps a n t hc hb ha ht w' (h1.fr f (fun _ _ e => e)) (hTab.fr f))
  have C2 := Lib.hid (fun w' (f : Fr (fun _ => False) w w') => QvPut_any T A c ps a n t hb ha ht w' (h1.fr f (fun _ _ e => e)))
  have C3 := Lib.hid (fun w' => VNumber_any s hs w')
  have C4 := Lib.hid (fun w' => QvNumber_any s hs w')
  have C5 := Lib.hid (fun w' (f : Fr (fun _ => False) w w') => VCheck_any T A c ps a n t hc hb ha ht w' (h1.fr f (fun _ _ e => e)))
  have C6 := Lib.hid (fun w' (f : Fr (fun _ => False) w w') => QvCheck_any T A c ps a n t hb ha ht w' (h1.fr f (fun _ _ e => e)))
  have C7 := Lib.hid (fun w' (f : Fr (fun _ => False) w w') => VDigits_any k hk w' (hTab.fr f))
  have C8 := Lib.hid (fun w' => QvDigits_any k hk w')
  have C9 := Lib.hid (fun w' (f : Fr (fun _ => False) w w') => works7_any w' (hTab.fr f))
  have CS := Lib.hid (fun w' A B c d ha hb => Same_any A B c d (putR T ps a n t) (putR T ps a n t) w' ha hb)
  rw [beq_self_eq_true] at CS
  obtain ⟨r, hr⟩ : ∃ r, chkE ps a n t = r := ⟨_, rfl⟩
  obtain ⟨p, hp⟩ : ∃ p, putR T ps a n t = p := ⟨_, rfl⟩
  obtain ⟨cs, hcs⟩ : ∃ cs, revC T (.slice A ps.length c) a n t = cs := ⟨_, rfl⟩
  obtain ⟨N1, hN1⟩ : ∃ x, (numW s).1 = x := ⟨_, rfl⟩
  obtain ⟨N2, hN2⟩ : ∃ x, (numW s).2 = x := ⟨_, rfl⟩
  obtain ⟨D, hD⟩ : ∃ D, strB (digS k) = D := ⟨_, rfl⟩
  obtain ⟨S, hS'⟩ : ∃ S, strB s = S := ⟨_, rfl⟩
  rw [hr, hp, hcs] at C1 C2
  rw [hr, hcs] at C5 C6
  rw [hp] at CS
  rw [hN1, hN2, hS'] at C3 C4
  rw [hD] at C7 C8
  rw [hcs] at hw1 HLD ⊢
  rw [hS']
  clear hr hp hcs hN1 hN2 hD hS' hF hS h1 hTab hb hc ha ht hs hn36 hk
  go_enter Tryd.func3, Tryd.ntmps3
  rw [show Op.load 26 (.tmp 3) = Op.load T36 (.tmp 3) by rw [hT36]]
  clear hT36
  have l0 := HLD.out _ (Fr.refl _ w1)
  go_wp2_with (first
    | (go_at_call 8
       refine (C1.out _ HF.out).mono ?_
       rintro e w2 ⟨v1, rfl, o1⟩
       obtain ⟨A1, c1, rfl, _, l1, _⟩ := o1.slice
       have F1 := Lib.hid o1.2
       have L1 := Lib.hid l1
       have l00 := HLD.out _ o1.2
       clear o1 l1)
    | (go_at_call 9
       refine (C2.out _ (HF.out.trans F1.out (fun _ _ e => e))).mono ?_
       rintro e w3 ⟨A2, c2, rfl, l2, b2⟩
       have L2 := Lib.hid l2
       have F2 := Lib.hid (F1.out.then_below b2)
       have L1' := Lib.hid (L1.out.fr (Fr.of_below (S := fun _ => False) b2) (fun _ _ e => e))
       clear l2 b2)
    | (go_at_call 10; refine (C3.out _).mono ?_; rintro e w' ⟨rfl, rfl⟩)
    | (go_at_call 11; refine (C4.out _).mono ?_; rintro e w' ⟨rfl, rfl⟩))
  have HFF := Lib.hid (HF.out.trans F2.out (fun _ _ e => e))
  have lq : ∀ q : Later w3, (loadCellsFrom ⟨w.heap.size, 0, none⟩ 0 n36 #[]).run Tryd.prog q.w' = .ok cs q.w' := fun q => HLD.out _ (F2.out.trans q.fr (fun _ _ e => e))
  clear hw1 l0 l00
  refine wp_region_later (w0 := w3) (Fr.refl _ _) (by kernel_rfl) (by kernel_rfl) ?_
  repeat (quiet_step ((first
    | (go_at_call 12; refine Calls.later_of_same (CS.out _ _ _ _ _ (L1'.out.fr (Later.fr _) (fun _ _ e => e)) (L2.out.fr (Later.fr _) (fun _ _ e => e))))
    | (go_at_call 13; refine Calls.later_of (C5.out _ (HFF.out.trans (Later.fr _) (fun _ _ e => e))))
    | (go_at_call 14; refine Calls.later_of (C6.out _ (HFF.out.trans (Later.fr _) (fun _ _ e => e))))
    | (go_at_call 15; refine Calls.later_of (C7.out _ (HFF.out.trans (Later.fr _) (fun _ _ e => e))))
    | (go_at_call 16; refine Calls.later_of (C8.out _))
    | (go_at_call 17; refine Calls.later_of (C9.out _ (HFF.out.trans (Later.fr _) (fun _ _ e => e)))))))
  refine wpQuiet_nil ?_
  intro _ hw'
  obtain ⟨q, hw''⟩ := hw'
  subst hw''
  go_wp2_with fail
  go_ret
  exact ⟨rfl, (HFF.out.trans q.fr (fun _ _ e => e)).below (fun _ _ e => e)⟩
end Go.Proofs.YtppddpbacpeadaaDoor

/- What is proved: a tag's cells, and whether a tag may be, by the program. Conditions: nothing is too long for any machine. -/
import Derived.Test.YtppddpbacpeadaaDoorRvh
namespace Go.Proofs.YtppddpbacpeadaaDoor
open Go.RowKit Go.Sort Go.Shelf
open Ids (idC dgt big idC_size idC_get idC_one cellD zero32 size32 dgt_lt eq_nums)
set_option linter.unusedVariables false

/-- A tag's cells. -/
def markC (T : Nat) (k : Int) (a : List UInt8) (n : Int) (t : List UInt8) : Array Value := idC (dgt T) ++ #[.int .i64 k, .string (strB a), .int .i64 n, .string (strB t)]
section
variable (T : Nat) (k : Int) (a : List UInt8) (n : Int) (t : List UInt8)
theorem markC_size : (markC T k a n t).size = 36 := by simp [markC, idC_size]
theorem markC_k : (markC T k a n t)[32]? = some (.int .i64 k) := by rw [markC, Array.getElem?_append_right (by simp [idC_size])]; simp [idC_size]
theorem markC_a : (markC T k a n t)[33]? = some (.string (strB a)) := by rw [markC, Array.getElem?_append_right (by simp [idC_size])]; simp [idC_size]
theorem markC_n : (markC T k a n t)[34]? = some (.int .i64 n) := by rw [markC, Array.getElem?_append_right (by simp [idC_size])]; simp [idC_size]
theorem markC_t : (markC T k a n t)[35]? = some (.string (strB t)) := by rw [markC, Array.getElem?_append_right (by simp [idC_size])]; simp [idC_size]
theorem markC_id (j : Nat) (u : Value) (h : (idC (dgt T)).toList[j]? = some u) : (markC T k a n t)[j]? = some u := by
  have hj : j < 32 := by
    have := (List.getElem?_eq_some_iff.1 h).1
    rwa [Array.length_toList, idC_size] at this
  rw [markC, Array.getElem?_append_left (by rw [idC_size]; omega)]
  rwa [Array.getElem?_toList] at h
theorem markC_one : (markC T k a n t).all (·.oneCell') = true := by
  rw [markC, Array.all_append, idC_one, Bool.true_and]
  simp
  exact ⟨rfl, rfl, rfl, rfl⟩
end
theorem size36m : (Tryd.prog.info? 51).map (·.size) = some 36 := by kernel_rfl
/-- Where a tag lies. -/
def MarkAt (w : World) (g : Nat) (T : Nat) (k : Int) (a : List UInt8) (n : Int) (t : List UInt8) : Prop := Whole w g 51 (markC T k a n t)
section
variable {w w' : World} {g : Nat} {T : Nat} {k : Int} {a : List UInt8} {n : Int} {t : List UInt8}
theorem MarkAt.ck (h : MarkAt w g T k a n t) : w.cell? ⟨g, 32, none⟩ = some (.int .i64 k) := (Whole.cell h 32).trans (markC_k ..)
theorem MarkAt.ca (h : MarkAt w g T k a n t) : w.cell? ⟨g, 33, none⟩ = some (.string (strB a)) := (Whole.cell h 33).trans (markC_a ..)
theorem MarkAt.cn (h : MarkAt w g T k a n t) : w.cell? ⟨g, 34, none⟩ = some (.int .i64 n) := (Whole.cell h 34).trans (markC_n ..)
theorem MarkAt.ct (h : MarkAt w g T k a n t) : w.cell? ⟨g, 35, none⟩ = some (.string (strB t)) := (Whole.cell h 35).trans (markC_t ..)
theorem MarkAt.fr (h : MarkAt w g T k a n t) (f : Fr (fun _ => False) w w') : MarkAt w' g T k a n t := Whole.fr h f (fun e => e)
theorem MarkAt.new (w : World) : MarkAt (w.alloc (.cells (markC T k a n t) 51)) w.heap.size T k a n t := Whole.new w _ _
theorem MarkAt.id (h : MarkAt w g T k a n t) : w.rangeAt g 0 (idC (dgt T)).toList := fun j u hu => by
  rw [Nat.zero_add, Whole.cell h]
  exact markC_id T k a n t j u hu
end
/-- What the check of a tag answers. -/
def mchkE (k : Int) (a : List UInt8) (n : Int) (t : List UInt8) : Int := if 400 < t.length then 3 else if k < 1 ∨ 4 < k then 19 else if nameB a = false then 15 else if timeB n = false then 2 else 0

set_option maxHeartbeats 3200000 in
set_option maxRecDepth 100000 in
theorem VCheckMark_any (T : Nat) (k : Int) (a : List UInt8) (n : Int) (t : List UInt8) (ha : a.length ≤ 9223372036854775806) (ht : t.length ≤ 9223372036854775806) (w : World) :
    Calls Tryd.prog 26 #[.agg (markC T k a n t)] w fun e w' => e = .returned (.int .i64 (mchkE k a n t)) ∧ Below w.heap.size w w' := by
  obtain ⟨w1, hw1⟩ : ∃ w1, w.alloc (.cells (markC T k a n t) 51) = w1 := ⟨_, rfl⟩
  have hF : Fr (fun _ => False) w w1 := by subst hw1; exact (Fr.refl _ w).alloc _
  have hS : MarkAt w1 w.heap.size T k a n t := by subst hw1; exact MarkAt.new w
  have HF := Lib.hid hF
  have hck := hS.ck
  have hct := hS.ct
  have hca := hS.ca
  have hcn := hS.cn
  have HL := Lib.hid (fun w => VisLong_any t ht w)
  have HN := Lib.hid (fun w => RtName_any a ha w)
  have HI := Lib.hid (fun w => VisTime_any n w)
  have HCE : Hid (mchkE k a n t = if 400 < t.length then 3 else if k < 1 ∨ 4 < k then 19 else if nameB a = false then 15 else if timeB n = false then 2 else 0) := Lib.hid rfl
  obtain ⟨E, hE⟩ : ∃ E, mchkE k a n t = E := ⟨_, rfl⟩
  rw [hE] at HCE ⊢
  obtain ⟨cs, hcs⟩ : ∃ cs, markC T k a n t = cs := ⟨_, rfl⟩
  rw [hcs] at hw1 ⊢
  obtain ⟨b1, hb1⟩ : ∃ b, decide (400 < t.length) = b := ⟨_, rfl⟩
  obtain ⟨b3, hb3⟩ : ∃ b, nameB a = b := ⟨_, rfl⟩
  obtain ⟨b4, hb4⟩ : ∃ b, timeB n = b := ⟨_, rfl⟩
  rw [hb1] at HL
  rw [hb3] at HN HCE
  rw [hb4] at HI HCE
  have HB1 := Lib.hid hb1
  obtain ⟨Sa, hSa⟩ : ∃ S, strB a = S := ⟨_, rfl⟩
  obtain ⟨St, hSt⟩ : ∃ S, strB t = S := ⟨_, rfl⟩
  rw [hSa] at HN hca
  rw [hSt] at HL hct
  clear hE hcs hb1 hb3 hb4 hSa hSt hS hF ha ht
  cases b1
  · have HCE := Lib.hid (HCE.out.trans (if_neg (of_decide_eq_false HB1.out)))
    clear HB1
    by_cases hk1 : k < 1
    · have HE := Lib.hid (HCE.out.trans (if_pos (.inl hk1)))
      clear HCE HN HI
      go_enter Tryd.func26, Tryd.ntmps26
      go_wp2_with (
        (go_at_call 32; refine (HL.out _).mono ?_; rintro e w' ⟨rfl, rfl⟩))
      (
        go_ret
        exact ⟨ret_num HE.out.symm, HF.out.below (fun _ _ e => e)⟩)
    · by_cases hk4 : 4 < k
      · have HE := Lib.hid (HCE.out.trans (if_pos (.inr hk4)))
        clear HCE HN HI
        go_enter Tryd.func26, Tryd.ntmps26
        go_wp2_with (
          (go_at_call 32; refine (HL.out _).mono ?_; rintro e w' ⟨rfl, rfl⟩))
        (
          go_ret
          exact ⟨ret_num HE.out.symm, HF.out.below (fun _ _ e => e)⟩)
      · have HCE := Lib.hid (HCE.out.trans (if_neg (by omega)))
        cases b3
        · have HE := Lib.hid (HCE.out.trans (if_pos rfl))
          clear HCE HI
          go_enter Tryd.func26, Tryd.ntmps26
          go_wp2_with (first | (
            (go_at_call 32; refine (HL.out _).mono ?_; rintro e w' ⟨rfl, rfl⟩)) | (
              (go_at_call 34; refine (HN.out _).mono ?_; rintro e w' ⟨rfl, rfl⟩)))
          (
            go_ret
            exact ⟨ret_num HE.out.symm, HF.out.below (fun _ _ e => e)⟩)
        · have HCE := Lib.hid (HCE.out.trans (if_neg (by decide)))
          cases b4
          · have HE := Lib.hid (HCE.out.trans (if_pos rfl))
            clear HCE
            go_enter Tryd.func26, Tryd.ntmps26
            go_wp2_with (first | (
              (go_at_call 32; refine (HL.out _).mono ?_; rintro e w' ⟨rfl, rfl⟩)) | (
                (go_at_call 34; refine (HN.out _).mono ?_; rintro e w' ⟨rfl, rfl⟩)) | (
                  (go_at_call 35; refine (HI.out _).mono ?_; rintro e w' ⟨rfl, rfl⟩)))
            (
              go_ret
              exact ⟨ret_num HE.out.symm, HF.out.below (fun _ _ e => e)⟩)
          · have HE := Lib.hid (HCE.out.trans (if_neg (by decide)))
            clear HCE
            go_enter Tryd.func26, Tryd.ntmps26
            go_wp2_with (first | (
              (go_at_call 32; refine (HL.out _).mono ?_; rintro e w' ⟨rfl, rfl⟩)) | (
                (go_at_call 34; refine (HN.out _).mono ?_; rintro e w' ⟨rfl, rfl⟩)) | (
                  (go_at_call 35; refine (HI.out _).mono ?_; rintro e w' ⟨rfl, rfl⟩)))
            (
              go_ret
              exact ⟨ret_num HE.out.symm, HF.out.below (fun _ _ e => e)⟩)
  · have HE : Hid (E = 3) := Lib.hid (by rw [HCE.out, if_pos (of_decide_eq_true HB1.out)])
    clear HCE HN HI
    go_enter Tryd.func26, Tryd.ntmps26
    go_wp2_with (
      (go_at_call 32; refine (HL.out _).mono ?_; rintro e w' ⟨rfl, rfl⟩))
    (
      go_ret
      exact ⟨ret_num HE.out.symm, HF.out.below (fun _ _ e => e)⟩)
end Go.Proofs.YtppddpbacpeadaaDoor

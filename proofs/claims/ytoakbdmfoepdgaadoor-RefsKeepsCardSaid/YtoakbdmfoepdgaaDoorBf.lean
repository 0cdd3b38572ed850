/- What is proved: what the walks of this seat need of layers below, merged out of the texts Rve (of each just what is needed). Conditions: each theorem names its own. -/
import Derived.Test.YtoakbdmfoepdgaaDoorBb
import Derived.Test.YtoakbdmfoepdgaaDoorBd
/- What is proved: a text is cut at the first byte 10, by the library; what a line of a word is, plain. Conditions: the text is not too long for any machine. -/
namespace Go.Proofs.YtoakbdmfoepdgaaDoor
open Go.RowKit Go.Sort Go.Shelf
set_option linter.unusedVariables false
/-- Where the first byte 10 stands. -/
def idx10 (l : List UInt8) : Int := Lib.indexByte l 10
def lnA (l : List UInt8) : List UInt8 := if 0 ≤ idx10 l then l.take (idx10 l).toNat else l
def lnB (l : List UInt8) : List UInt8 := if 0 ≤ idx10 l then l.drop ((idx10 l).toNat + 1) else []
def has10 (l : List UInt8) : Bool := decide (0 ≤ idx10 l)
theorem idx10_cases (l : List UInt8) : (idx10 l = -1 ∧ (∀ b ∈ l, b ≠ 10) ∧ has10 l = false ∧ lnA l = l ∧ lnB l = []) ∨ ∃ m : Nat, idx10 l = m ∧ m < l.length ∧ l = l.take m ++ 10 :: l.drop (m + 1) ∧ (∀ b ∈ l.take m, b ≠ 10) ∧ has10 l = true ∧ lnA l = l.take m ∧ lnB l = l.drop (m + 1) := by
  have hge := Lib.indexByte_ge l 10
  by_cases h : idx10 l = -1
  · left
    refine ⟨h, fun b hb e => ?_, by rw [has10, h]; rfl, by rw [lnA, if_neg (by omega)], by rw [lnB, if_neg (by omega)]⟩
    obtain ⟨j, hj, rfl⟩ := List.getElem_of_mem hb
    exact Lib.indexByte_none h j (by rw [List.getElem?_eq_getElem hj, e])
  · right
    have hge' : -1 ≤ idx10 l := hge
    obtain ⟨m, hm⟩ : ∃ m : Nat, idx10 l = m := ⟨(idx10 l).toNat, by omega⟩
    obtain ⟨h1, h2⟩ := Lib.indexByte_some (show Lib.indexByte l 10 = (m : Nat) from hm)
    obtain ⟨hml, h3⟩ := List.getElem?_eq_some_iff.1 h1
    refine ⟨m, hm, hml, ?_, fun b hb e => ?_, by rw [has10, hm]; simp, by rw [lnA, hm, if_pos (by omega), Int.toNat_natCast], by rw [lnB, hm, if_pos (by omega), Int.toNat_natCast]⟩
    · conv => lhs; rw [← List.take_append_drop m l, List.drop_eq_getElem_cons hml, h3]
    · obtain ⟨j, hj, rfl⟩ := List.getElem_of_mem hb
      rw [List.length_take] at hj
      exact h2 j (by omega) (by rw [List.getElem?_eq_getElem (by omega)]; rw [List.getElem_take] at e; rw [e])
theorem lnA_len (l : List UInt8) : (lnA l).length ≤ l.length := by
  rcases idx10_cases l with ⟨_, _, _, h, _⟩ | ⟨m, _, _, _, _, _, h, _⟩
  · rw [h]; exact Nat.le_refl _
  · rw [h, List.length_take]; omega
theorem lnB_len (l : List UInt8) : (lnB l).length ≤ l.length := by
  rcases idx10_cases l with ⟨_, _, _, _, h⟩ | ⟨m, _, _, _, _, _, _, h⟩
  · rw [h]; exact Nat.zero_le _
  · rw [h, List.length_drop]; omega
set_option maxHeartbeats 1000000 in
set_option maxRecDepth 100000 in
theorem GsIndex10_any (l : List UInt8) (w : World) :
    Calls Tryd.prog 70 #[.string (strB l), .string (strB [10])] w fun e w' => e = .returned (.int .i64 (idx10 l)) ∧ w = w' := by
  have hc := fun w => GsIndexByte_any (strB l) 10 w
  rw [strB_data] at hc
  have hsz : (strB [10]).size = 1 := rfl
  have hix : ∀ w, (Instr.index 9 (.string (strB [10])) (.int .i64 0)).run Tryd.prog w = .ok (.int .u8 10) w := fun w => index_str (P := Tryd.prog) w Tryd.underlying9 [10] 0 (by decide)
  have e1 : ((strB [10]).toList == (strB l).toList) = ([10] == l) := str_eq _ _
  have H0 : Hid (([10] == l) = true → idx10 l = 0) := Lib.hid (fun h => by rw [← eq_of_beq h]; rfl)
  obtain ⟨S, hS⟩ : ∃ S, strB [10] = S := ⟨_, rfl⟩
  obtain ⟨T, hT⟩ : ∃ S, strB l = S := ⟨_, rfl⟩
  rw [hS] at hix hsz e1 ⊢
  rw [hT] at hc e1 ⊢
  have hr : idx10 l = Lib.indexByte l (Int.toNat 10).toUInt8 := rfl
  rw [← hr] at hc
  obtain ⟨r, hr'⟩ : ∃ r, idx10 l = r := ⟨_, rfl⟩
  rw [hr'] at hc H0 ⊢
  obtain ⟨b, hb⟩ : ∃ b, ([10] == l) = b := ⟨_, rfl⟩
  rw [hb] at e1 H0
  clear hr hr' hS hT hb
  cases b
  · go_enter Tryd.func70, Tryd.ntmps70
    go_wp2_with (go_at_call 79; refine (hc _).mono ?_; rintro e w' ⟨rfl, rfl⟩)
    go_ret
    exact ⟨rfl, rfl⟩
  · rw [H0.out rfl]
    go_enter Tryd.func70, Tryd.ntmps70
    go_wp2
    go_ret
    exact ⟨rfl, rfl⟩
theorem wrap_n1 (k : Nat) (h : k ≤ 9223372036854775806) : IntKind.i64.wrap ((k : Int) + 1) = (k : Int) + 1 := by rw [IntKind.wrap_i64]; omega
set_option maxHeartbeats 1600000 in
set_option maxRecDepth 100000 in
theorem GslCut_any (l : List UInt8) (hl : l.length ≤ 9223372036854775806) (w : World) :
    Calls Tryd.prog 57 #[.string (strB l), .string (strB [10])] w fun e w' => e = .returned (.tuple #[.string (strB (lnA l)), .string (strB (lnB l)), .bool (has10 l)]) ∧ Below w.heap.size w w' := by
  have hr := Lib.hid (fun w => GsIndex10_any l w)
  have hsz : (strB [10]).size = 1 := rfl
  obtain ⟨T, hT⟩ : ∃ S, strB [10] = S := ⟨_, rfl⟩
  rw [hT] at hr hsz ⊢
  clear hT
  rcases idx10_cases l with ⟨h1, _, h2, h3, h4⟩ | ⟨m, h1, hml, _, _, h2, h3, h4⟩
  · rw [h2, h3, h4]
    rw [h1] at hr
    obtain ⟨S, hS⟩ : ∃ S, strB l = S := ⟨_, rfl⟩
    rw [hS] at hr ⊢
    clear h1 h2 h3 h4 hS hl
    go_enter Tryd.func57, Tryd.ntmps57
    go_wp2_with (go_at_call 70; refine (hr.out _).mono ?_; rintro e w' ⟨rfl, rfl⟩)
    go_ret3
    refine ⟨rfl, ?_⟩
    first | exact (Fr.refl (fun _ => False) w).below (fun _ _ e => e) | exact ((Fr.refl (fun _ => False) w).drew).below (fun _ _ e => e)
  · rw [h2, h3, h4]
    rw [h1] at hr
    have s1 := fun w => slice_to (P := Tryd.prog) w Tryd.underlying9 l m (by omega)
    have s2 : ∀ w, (Instr.slice 9 (.string (strB l)) (some (.int .i64 ((m : Int) + 1))) none none).run Tryd.prog w = .ok (.string (strB (l.drop (m + 1)))) w := fun w => slice_from (P := Tryd.prog) w Tryd.underlying9 l (m + 1) (by omega)
    obtain ⟨S, hS⟩ : ∃ S, strB l = S := ⟨_, rfl⟩
    obtain ⟨S1, hS1⟩ : ∃ S, strB (l.take m) = S := ⟨_, rfl⟩
    obtain ⟨S2, hS2⟩ : ∃ S, strB (l.drop (m + 1)) = S := ⟨_, rfl⟩
    rw [hS] at hr s1 s2 ⊢
    rw [hS1] at s1 ⊢
    rw [hS2] at s2 ⊢
    have hge : (m : Int) ≥ 0 := by omega
    have sc := wrap_n1 m (by omega)
    clear h1 h2 h3 h4 hS hS1 hS2 hl hml
    go_enter Tryd.func57, Tryd.ntmps57
    go_wp2_with (go_at_call 70; refine (hr.out _).mono ?_; rintro e w' ⟨rfl, rfl⟩)
    go_region
    go_wp2
    go_ret3
    refine ⟨rfl, ?_⟩
    first | exact (Fr.refl (fun _ => False) w).below (fun _ _ e => e) | exact ((Fr.refl (fun _ => False) w).drew).below (fun _ _ e => e)
set_option maxHeartbeats 1600000 in
set_option maxRecDepth 100000 in
theorem GstrCut_any (l : List UInt8) (hl : l.length ≤ 9223372036854775806) (w : World) :
    Calls Tryd.prog 36 #[.string (strB l), .string (strB [10])] w fun e w' => e = .returned (.tuple #[.string (strB (lnA l)), .string (strB (lnB l)), .bool (has10 l)]) ∧ Below w.heap.size w w' := by
  have hc := Lib.hid (GslCut_any l hl w)
  obtain ⟨T, hT⟩ : ∃ S, strB [10] = S := ⟨_, rfl⟩
  obtain ⟨S, hS⟩ : ∃ S, strB l = S := ⟨_, rfl⟩
  obtain ⟨S1, hS1⟩ : ∃ S, strB (lnA l) = S := ⟨_, rfl⟩
  obtain ⟨S2, hS2⟩ : ∃ S, strB (lnB l) = S := ⟨_, rfl⟩
  obtain ⟨b, hb⟩ : ∃ b, has10 l = b := ⟨_, rfl⟩
  rw [hT, hS, hS1, hS2, hb] at hc
  rw [hT, hS, hS1, hS2, hb]
  clear hT hS hS1 hS2 hb hl
  go_enter Tryd.func36, Tryd.ntmps36
  go_wp2_with (go_at_call 57; refine hc.out.mono ?_; rintro e w' ⟨rfl, bb⟩)
  go_ret3
  exact ⟨rfl, bb⟩
end Go.Proofs.YtoakbdmfoepdgaaDoor

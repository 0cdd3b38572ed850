/- What is proved: what the walks of this seat need of layers below, merged out of the texts Obg (of each just what is needed). Conditions: each theorem names its own. -/
import Derived.Test.YtnnafiajfapenaaDoorBd
/- What is proved: a text is cut at the first blank, by the library. Conditions: the text is not too long for any machine. -/
namespace Go.Proofs.YtnnafiajfapenaaDoor
open Go.RowKit Go.Sort Go.Shelf
set_option linter.unusedVariables false
/-- Where the first blank stands. -/
def idx32 (l : List UInt8) : Int := Lib.indexByte l 32
def blA (l : List UInt8) : List UInt8 := if 0 ≤ idx32 l then l.take (idx32 l).toNat else l
def blB (l : List UInt8) : List UInt8 := if 0 ≤ idx32 l then l.drop ((idx32 l).toNat + 1) else []
def has32 (l : List UInt8) : Bool := decide (0 ≤ idx32 l)
theorem idx32_cases (l : List UInt8) : (idx32 l = -1 ∧ (∀ b ∈ l, b ≠ 32) ∧ has32 l = false ∧ blA l = l ∧ blB l = []) ∨ ∃ m : Nat, idx32 l = m ∧ m < l.length ∧ l = l.take m ++ 32 :: l.drop (m + 1) ∧ (∀ b ∈ l.take m, b ≠ 32) ∧ has32 l = true ∧ blA l = l.take m ∧ blB l = l.drop (m + 1) := by
  have hge := Lib.indexByte_ge l 32
  by_cases h : idx32 l = -1
  · left
    refine ⟨h, fun b hb e => ?_, by rw [has32, h]; rfl, by rw [blA, if_neg (by omega)], by rw [blB, if_neg (by omega)]⟩
    obtain ⟨j, hj, rfl⟩ := List.getElem_of_mem hb
    exact Lib.indexByte_none h j (by rw [List.getElem?_eq_getElem hj, e])
  · right
    have hge' : -1 ≤ idx32 l := hge
    obtain ⟨m, hm⟩ : ∃ m : Nat, idx32 l = m := ⟨(idx32 l).toNat, by omega⟩
    obtain ⟨h1, h2⟩ := Lib.indexByte_some (show Lib.indexByte l 32 = (m : Nat) from hm)
    obtain ⟨hml, h3⟩ := List.getElem?_eq_some_iff.1 h1
    refine ⟨m, hm, hml, ?_, fun b hb e => ?_, by rw [has32, hm]; simp, by rw [blA, hm, if_pos (by omega), Int.toNat_natCast], by rw [blB, hm, if_pos (by omega), Int.toNat_natCast]⟩
    · conv => lhs; rw [← List.take_append_drop m l, List.drop_eq_getElem_cons hml, h3]
    · obtain ⟨j, hj, rfl⟩ := List.getElem_of_mem hb
      rw [List.length_take] at hj
      exact h2 j (by omega) (by rw [List.getElem?_eq_getElem (by omega)]; rw [List.getElem_take] at e; rw [e])
theorem blA_len (l : List UInt8) : (blA l).length ≤ l.length := by
  rcases idx32_cases l with ⟨_, _, _, h, _⟩ | ⟨m, _, _, _, _, _, h, _⟩
  · rw [h]; exact Nat.le_refl _
  · rw [h, List.length_take]; omega
theorem blB_len (l : List UInt8) : (blB l).length ≤ l.length := by
  rcases idx32_cases l with ⟨_, _, _, _, h⟩ | ⟨m, _, _, _, _, _, _, h⟩
  · rw [h]; exact Nat.zero_le _
  · rw [h, List.length_drop]; omega
set_option maxHeartbeats 1000000 in
set_option maxRecDepth 100000 in
theorem GsIndex32_any (l : List UInt8) (w : World) :
    Calls Tryd.prog 34 #[.string (strB l), .string (strB [32])] w fun e w' => e = .returned (.int .i64 (idx32 l)) ∧ w = w' := by
  have hc := fun w => GsIndexByte_any (strB l) 32 w
  rw [strB_data] at hc
  have hsz : (strB [32]).size = 1 := rfl
  have hix : ∀ w, (Instr.index 9 (.string (strB [32])) (.int .i64 0)).run Tryd.prog w = .ok (.int .u8 32) w := fun w => index_str (P := Tryd.prog) w Tryd.underlying9 [32] 0 (by decide)
  have e1 : ((strB [32]).toList == (strB l).toList) = ([32] == l) := str_eq _ _
  have H0 : Hid (([32] == l) = true → idx32 l = 0) := Lib.hid (fun h => by rw [← eq_of_beq h]; rfl)
  obtain ⟨S, hS⟩ : ∃ S, strB [32] = S := ⟨_, rfl⟩
  obtain ⟨T, hT⟩ : ∃ S, strB l = S := ⟨_, rfl⟩
  rw [hS] at hix hsz e1 ⊢
  rw [hT] at hc e1 ⊢
  have hr : idx32 l = Lib.indexByte l (Int.toNat 32).toUInt8 := rfl
  rw [← hr] at hc
  obtain ⟨r, hr'⟩ : ∃ r, idx32 l = r := ⟨_, rfl⟩
  rw [hr'] at hc H0 ⊢
  obtain ⟨b, hb⟩ : ∃ b, ([32] == l) = b := ⟨_, rfl⟩
  rw [hb] at e1 H0
  clear hr hr' hS hT hb
  cases b
  · go_enter Tryd.func34, Tryd.ntmps34
    go_wp2_with (go_at_call 51; refine (hc _).mono ?_; rintro e w' ⟨rfl, rfl⟩)
    go_ret
    exact ⟨rfl, rfl⟩
  · rw [H0.out rfl]
    go_enter Tryd.func34, Tryd.ntmps34
    go_wp2
    go_ret
    exact ⟨rfl, rfl⟩
set_option maxHeartbeats 1600000 in
set_option maxRecDepth 100000 in
theorem GslCut32_any (l : List UInt8) (hl : l.length ≤ 9223372036854775806) (w : World) :
    Calls Tryd.prog 24 #[.string (strB l), .string (strB [32])] w fun e w' => e = .returned (.tuple #[.string (strB (blA l)), .string (strB (blB l)), .bool (has32 l)]) ∧ Below w.heap.size w w' := by
  have hr := Lib.hid (fun w => GsIndex32_any l w)
  have hsz : (strB [32]).size = 1 := rfl
  obtain ⟨T, hT⟩ : ∃ S, strB [32] = S := ⟨_, rfl⟩
  rw [hT] at hr hsz ⊢
  clear hT
  rcases idx32_cases l with ⟨h1, _, h2, h3, h4⟩ | ⟨m, h1, hml, _, _, h2, h3, h4⟩
  · rw [h2, h3, h4]
    rw [h1] at hr
    obtain ⟨S, hS⟩ : ∃ S, strB l = S := ⟨_, rfl⟩
    rw [hS] at hr ⊢
    clear h1 h2 h3 h4 hS hl
    go_enter Tryd.func24, Tryd.ntmps24
    go_wp2_with (go_at_call 34; refine (hr.out _).mono ?_; rintro e w' ⟨rfl, rfl⟩)
    go_ret3
    refine ⟨rfl, ?_⟩
    first | exact (Fr.refl (fun _ => False) w).below (fun _ _ e => e) | exact ((Fr.refl (fun _ => False) w).drew).below (fun _ _ e => e)
  · rw [h2, h3, h4]
    rw [h1] at hr
    have s1 := fun w => slice_to (P := Tryd.prog) w Tryd.underlying9 l m (by omega)
    have s2 : ∀ w, (Instr.slice 9 (.string (strB l)) (some (.int .i64 ((m : Int) + 1))) none none).run Tryd.prog w = .ok (.string (strB (l.drop (m + 1)))) w := fun w => slice_from (P := Tryd.prog) w Tryd.underlying9 l (m + 1) (by omega)
    obtain ⟨S, hS⟩ : ∃ S, strB l = S := ⟨_, rfl⟩
    obtain ⟨S1, hS1⟩ : ∃ S, strB (l.take m) = S := ⟨_, rfl⟩
    obtain ⟨S2, hS2⟩ : ∃ S, strB (l.drop (m + 1)) = S := ⟨_, rfl⟩
    rw [hS] at hr s1 s2 ⊢
    rw [hS1] at s1 ⊢
    rw [hS2] at s2 ⊢
    have hge : (m : Int) ≥ 0 := by omega
    have sc := wrap_n1 m (by omega)
    clear h1 h2 h3 h4 hS hS1 hS2 hl hml
    go_enter Tryd.func24, Tryd.ntmps24
    go_wp2_with (go_at_call 34; refine (hr.out _).mono ?_; rintro e w' ⟨rfl, rfl⟩)
    go_region
    go_wp2
    go_ret3
    refine ⟨rfl, ?_⟩
    first | exact (Fr.refl (fun _ => False) w).below (fun _ _ e => e) | exact ((Fr.refl (fun _ => False) w).drew).below (fun _ _ e => e)
set_option maxHeartbeats 1600000 in
set_option maxRecDepth 100000 in
theorem GstrCut32_any (l : List UInt8) (hl : l.length ≤ 9223372036854775806) (w : World) :
    Calls Tryd.prog 16 #[.string (strB l), .string (strB [32])] w fun e w' => e = .returned (.tuple #[.string (strB (blA l)), .string (strB (blB l)), .bool (has32 l)]) ∧ Below w.heap.size w w' := by
  have hc := Lib.hid (GslCut32_any l hl w)
  obtain ⟨T, hT⟩ : ∃ S, strB [32] = S := ⟨_, rfl⟩
  obtain ⟨S, hS⟩ : ∃ S, strB l = S := ⟨_, rfl⟩
  obtain ⟨S1, hS1⟩ : ∃ S, strB (blA l) = S := ⟨_, rfl⟩
  obtain ⟨S2, hS2⟩ : ∃ S, strB (blB l) = S := ⟨_, rfl⟩
  obtain ⟨b, hb⟩ : ∃ b, has32 l = b := ⟨_, rfl⟩
  rw [hT, hS, hS1, hS2, hb] at hc
  rw [hT, hS, hS1, hS2, hb]
  clear hT hS hS1 hS2 hb hl
  go_enter Tryd.func16, Tryd.ntmps16
  go_wp2_with (go_at_call 24; refine hc.out.mono ?_; rintro e w' ⟨rfl, bb⟩)
  go_ret3
  exact ⟨rfl, bb⟩
end Go.Proofs.YtnnafiajfapenaaDoor

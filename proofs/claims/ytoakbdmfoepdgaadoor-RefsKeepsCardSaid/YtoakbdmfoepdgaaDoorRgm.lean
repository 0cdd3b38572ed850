/- What is proved: a text is cut at the first byte 32, by the library; a ref out of a line, plainly. Conditions: the text is not too long for any machine. -/
import Derived.Test.YtoakbdmfoepdgaaDoorRfn
import Derived.Test.YtoakbdmfoepdgaaDoorBf
namespace Go.Proofs.YtoakbdmfoepdgaaDoor
open Go.RowKit Go.Sort Go.Shelf
set_option linter.unusedVariables false

/-- Where the first byte 32 stands. -/
def idx32 (l : List UInt8) : Int := Lib.indexByte l 32
def fsA (l : List UInt8) : List UInt8 := if 0 ≤ idx32 l then l.take (idx32 l).toNat else l
def fsB (l : List UInt8) : List UInt8 := if 0 ≤ idx32 l then l.drop ((idx32 l).toNat + 1) else []
def has32 (l : List UInt8) : Bool := decide (0 ≤ idx32 l)
theorem idx32_cases (l : List UInt8) : (idx32 l = -1 ∧ (∀ b ∈ l, b ≠ 32) ∧ has32 l = false ∧ fsA l = l ∧ fsB l = []) ∨ ∃ m : Nat, idx32 l = m ∧ m < l.length ∧ l = l.take m ++ 32 :: l.drop (m + 1) ∧ (∀ b ∈ l.take m, b ≠ 32) ∧ has32 l = true ∧ fsA l = l.take m ∧ fsB l = l.drop (m + 1) := by
  have hge := Lib.indexByte_ge l 32
  by_cases h : idx32 l = -1
  · left
    refine ⟨h, fun b hb e => ?_, by rw [has32, h]; rfl, by rw [fsA, if_neg (by omega)], by rw [fsB, if_neg (by omega)]⟩
    obtain ⟨j, hj, rfl⟩ := List.getElem_of_mem hb
    exact Lib.indexByte_none h j (by rw [List.getElem?_eq_getElem hj, e])
  · right
    have hge' : -1 ≤ idx32 l := hge
    obtain ⟨m, hm⟩ : ∃ m : Nat, idx32 l = m := ⟨(idx32 l).toNat, by omega⟩
    obtain ⟨h1, h2⟩ := Lib.indexByte_some (show Lib.indexByte l 32 = (m : Nat) from hm)
    obtain ⟨hml, h3⟩ := List.getElem?_eq_some_iff.1 h1
    refine ⟨m, hm, hml, ?_, fun b hb e => ?_, by rw [has32, hm]; simp, by rw [fsA, hm, if_pos (by omega), Int.toNat_natCast], by rw [fsB, hm, if_pos (by omega), Int.toNat_natCast]⟩
    · conv => lhs; rw [← List.take_append_drop m l, List.drop_eq_getElem_cons hml, h3]
    · obtain ⟨j, hj, rfl⟩ := List.getElem_of_mem hb
      rw [List.length_take] at hj
      exact h2 j (by omega) (by rw [List.getElem?_eq_getElem (by omega)]; rw [List.getElem_take] at e; rw [e])
theorem fsA_len (l : List UInt8) : (fsA l).length ≤ l.length := by
  rcases idx32_cases l with ⟨_, _, _, h, _⟩ | ⟨m, _, _, _, _, _, h, _⟩
  · rw [h]; exact Nat.le_refl _
  · rw [h, List.length_take]; omega
theorem fsB_len (l : List UInt8) : (fsB l).length ≤ l.length := by
  rcases idx32_cases l with ⟨_, _, _, _, h⟩ | ⟨m, _, _, _, _, _, _, h⟩
  · rw [h]; exact Nat.zero_le _
  · rw [h, List.length_drop]; omega

set_option maxHeartbeats 1000000 in
set_option maxRecDepth 100000 in
theorem GsIndex32_any (l : List UInt8) (w : World) :
    Calls Tryd.prog 70 #[.string (strB l), .string (strB [32])] w fun e w' => e = .returned (.int .i64 (idx32 l)) ∧ w = w' := by
  have hc := fun w => GsIndexByte_any (strB l) 32 w
  rw [strB_data] at hc
  have hsz : (strB [32]).size = 1 := rfl
  have hix : ∀ w, (Instr.index 9 (.string (strB [32])) (.int .i64 0)).run Tryd.prog w = .ok (.int .u8 32) w := fun w => index_str (P := Tryd.prog) w Tryd.underlying9 [32] 0 (by decide)
  have e1 : ((strB [32]).toList == (strB l).toList) = ([32] == l) := str_eq _ _
  have H0 : Hid (([32] == l) = true → idx32 l = 0) := Lib.hid (fun h => by rw [← eq_of_beq h]; rfl)
  obtain ⟨S, hS⟩ : ∃ S, strB [32] = S := ⟨_, rfl⟩
  obtain ⟨T, hT⟩ : ∃ S, strB l = S := ⟨_, rfl⟩
  rw [hS] at hix hsz e1 ⊢
  rw [hT] at hc e1 ⊢
  have hr : idx32 l = Lib.indexByte l (Int.toNat 32).toUInt8 := rfl
  rw [← hr] at hc
  obtain ⟨r, hr'⟩ : ∃ r, idx32 l = r := ⟨_, rfl⟩
  rw [hr'] at hc H0 ⊢
  obtain ⟨b, hb⟩ : ∃ b, ([32] == l) = b := ⟨_, rfl⟩
  rw [hb] at e1 H0
  clear hr hr' hS hT hb
  cases b
  · go_enter Tryd.func70, Tryd.ntmps70
    go_wp2_with (go_at_call 79; refine (hc _).mono ?_; rintro e w' ⟨rfl, rfl⟩)
    go_ret
    exact ⟨rfl, rfl⟩
  · rw [H0.out rfl]
    go_enter Tryd.func70, Tryd.ntmps70
    go_wp2
    go_ret
    exact ⟨rfl, rfl⟩
set_option maxHeartbeats 1600000 in
set_option maxRecDepth 100000 in
theorem GslCut32_any (l : List UInt8) (hl : l.length ≤ 9223372036854775806) (w : World) :
    Calls Tryd.prog 57 #[.string (strB l), .string (strB [32])] w fun e w' => e = .returned (.tuple #[.string (strB (fsA l)), .string (strB (fsB l)), .bool (has32 l)]) ∧ Below w.heap.size w w' := by
  have hr := Lib.hid (fun w => GsIndex32_any l w)
  have hsz : (strB [32]).size = 1 := rfl
  obtain ⟨T, hT⟩ : ∃ S, strB [32] = S := ⟨_, rfl⟩
  rw [hT] at hr hsz ⊢
  clear hT
  rcases idx32_cases l with ⟨h1, _, h2, h3, h4⟩ | ⟨m, h1, hml, _, _, h2, h3, h4⟩
  · rw [h2, h3, h4]
    rw [h1] at hr
    obtain ⟨S, hS⟩ : ∃ S, strB l = S := ⟨_, rfl⟩
    rw [hS] at hr ⊢
    clear h1 h2 h3 h4 hS hl
    go_enter Tryd.func57, Tryd.ntmps57
    go_wp2_with (go_at_call 70; refine (hr.out _).mono ?_; rintro e w' ⟨rfl, rfl⟩)
    go_ret3
    refine ⟨rfl, ?_⟩
    first | exact (Fr.refl (fun _ => False) w).below (fun _ _ e => e) | exact ((Fr.refl (fun _ => False) w).drew).below (fun _ _ e => e)
  · rw [h2, h3, h4]
    rw [h1] at hr
    have s1 := fun w => slice_to (P := Tryd.prog) w Tryd.underlying9 l m (by omega)
    have s2 : ∀ w, (Instr.slice 9 (.string (strB l)) (some (.int .i64 ((m : Int) + 1))) none none).run Tryd.prog w = .ok (.string (strB (l.drop (m + 1)))) w := fun w => slice_from (P := Tryd.prog) w Tryd.underlying9 l (m + 1) (by omega)
    obtain ⟨S, hS⟩ : ∃ S, strB l = S := ⟨_, rfl⟩
    obtain ⟨S1, hS1⟩ : ∃ S, strB (l.take m) = S := ⟨_, rfl⟩
    obtain ⟨S2, hS2⟩ : ∃ S, strB (l.drop (m + 1)) = S := ⟨_, rfl⟩
    rw [hS] at hr s1 s2 ⊢
    rw [hS1] at s1 ⊢
    rw [hS2] at s2 ⊢
    have hge : (m : Int) ≥ 0 := by omega
    have sc := wrap_n1 m (by omega)
    clear h1 h2 h3 h4 hS hS1 hS2 hl hml
    go_enter Tryd.func57, Tryd.ntmps57
    go_wp2_with (go_at_call 70; refine (hr.out _).mono ?_; rintro e w' ⟨rfl, rfl⟩)
    go_region
    go_wp2
    go_ret3
    refine ⟨rfl, ?_⟩
    first | exact (Fr.refl (fun _ => False) w).below (fun _ _ e => e) | exact ((Fr.refl (fun _ => False) w).drew).below (fun _ _ e => e)
set_option maxHeartbeats 1600000 in
set_option maxRecDepth 100000 in
theorem GstrCut32_any (l : List UInt8) (hl : l.length ≤ 9223372036854775806) (w : World) :
    Calls Tryd.prog 36 #[.string (strB l), .string (strB [32])] w fun e w' => e = .returned (.tuple #[.string (strB (fsA l)), .string (strB (fsB l)), .bool (has32 l)]) ∧ Below w.heap.size w w' := by
  have hc := Lib.hid (GslCut32_any l hl w)
  obtain ⟨T, hT⟩ : ∃ S, strB [32] = S := ⟨_, rfl⟩
  obtain ⟨S, hS⟩ : ∃ S, strB l = S := ⟨_, rfl⟩
  obtain ⟨S1, hS1⟩ : ∃ S, strB (fsA l) = S := ⟨_, rfl⟩
  obtain ⟨S2, hS2⟩ : ∃ S, strB (fsB l) = S := ⟨_, rfl⟩
  obtain ⟨b, hb⟩ : ∃ b, has32 l = b := ⟨_, rfl⟩
  rw [hT, hS, hS1, hS2, hb] at hc
  rw [hT, hS, hS1, hS2, hb]
  clear hT hS hS1 hS2 hb hl
  go_enter Tryd.func36, Tryd.ntmps36
  go_wp2_with (go_at_call 57; refine hc.out.mono ?_; rintro e w' ⟨rfl, bb⟩)
  go_ret3
  exact ⟨rfl, bb⟩


/-! A ref out of a line. -/
theorem rdE_ok {l : List UInt8} (h : Ids.rdE (strB l) = 0) : l.length = 64 ∧ ∀ k, k < 64 → Ids.wv (l.getD k 0) ≠ -1 := by
  unfold Ids.rdE at h
  split at h
  · rename_i h1
    rw [strB_size] at h1
    refine ⟨h1, fun k hk e => ?_⟩
    unfold Ids.begE at h
    rw [if_neg (by rw [strB_size]; omega)] at h
    have hb : Ids.bad (strB l) = true := by
      refine Ids.bad_of (strB l) k (by rw [strB_size]; omega) ?_
      unfold Ids.chr
      rw [strB_data]
      exact e
    rw [hb] at h
    cases h
  · cases h
theorem rdE_bad {l : List UInt8} (h : l.length ≠ 64) : Ids.rdE (strB l) = 3 := by
  unfold Ids.rdE
  rw [if_neg (by rw [strB_size]; exact h)]
theorem wv32 : Ids.wv 32 = -1 := by decide
def okT (t : List UInt8) : Bool := has32 t && decide (Ids.rdE (strB (fsA t)) = 0)
theorem rdA_lt (s : ByteArray) (k : Nat) : Ids.rdA s k < 16 := by
  unfold Ids.rdA
  split
  · exact Ids.begD_lt s _ k
  · show 0 < 16; decide
def mkR (n : List UInt8) (i : Nat) : Rf := if h : n.length ≤ 140737488355327 ∧ i < Ids.big then ⟨n, i, h.1, h.2⟩ else default
theorem mkR_eq {n : List UInt8} {i : Nat} (h1 : n.length ≤ 140737488355327) (h2 : i < Ids.big) : mkR n i = ⟨n, i, h1, h2⟩ := by
  unfold mkR
  rw [dif_pos ⟨h1, h2⟩]
def mkT (t : List UInt8) : Rf := mkR (fsB t) (Ids.nu (Ids.rdA (strB (fsA t))))
theorem mkT_name {t : List UInt8} (h : t.length ≤ 140737488355327) : (mkT t).name = fsB t := by
  rw [mkT, mkR_eq (by have := fsB_len t; omega) (Ids.nu_lt _ (rdA_lt _))]
theorem mkT_id {t : List UInt8} (h : t.length ≤ 140737488355327) : Ids.idC (Ids.dgt (mkT t).id) = Ids.idC (Ids.rdA (strB (fsA t))) := by
  rw [mkT, mkR_eq (by have := fsB_len t; omega) (Ids.nu_lt _ (rdA_lt _))]
  exact Ids.idC_nu _ (rdA_lt _)
/-- As the document says it. -/
theorem okT_of {t : List UInt8} (h : okT t = true) : 65 ≤ t.length ∧ t.getD 64 0 = 32 ∧ Ids.rdE (strB (t.take 64)) = 0 ∧ fsA t = t.take 64 ∧ fsB t = t.drop 65 := by
  rw [okT, Bool.and_eq_true, decide_eq_true_eq] at h
  rcases idx32_cases t with ⟨_, _, h1, _⟩ | ⟨m, _, hm, hs, _, h1, h2, h3⟩
  · rw [h1] at h; cases h.1
  · rw [h2] at h
    have h4 := (rdE_ok h.2).1
    rw [List.length_take] at h4
    obtain rfl : m = 64 := by omega
    refine ⟨by omega, ?_, h.2, h2, h3⟩
    have h5 : t.getD 64 0 = (t.take 64 ++ 32 :: t.drop 65).getD 64 0 := congrArg (fun l : List UInt8 => l.getD 64 0) hs
    rw [h5, List.getD_eq_getElem?_getD, List.getElem?_append_right (by rw [List.length_take]; omega), List.length_take, show 64 - min 64 t.length = 0 by omega]
    rfl
theorem okT_iff (t : List UInt8) : okT t = true ↔ 65 ≤ t.length ∧ t.getD 64 0 = 32 ∧ Ids.rdE (strB (t.take 64)) = 0 := by
  refine ⟨fun h => ⟨(okT_of h).1, (okT_of h).2.1, (okT_of h).2.2.1⟩, fun ⟨h1, h2, h3⟩ => ?_⟩
  have h4 := (rdE_ok h3).2
  have hd : ∀ k, k < t.length → t.getD k 0 = t[k]! := fun k hk => by rw [List.getD_eq_getElem?_getD, List.getElem?_eq_getElem hk, getElem!_pos t k hk]; rfl
  have h5 : ∀ k, k < 64 → t.getD k 0 ≠ 32 := fun k hk e => by
    have := h4 k hk
    rw [List.getD_eq_getElem?_getD, List.getElem?_take, if_pos hk, ← List.getD_eq_getElem?_getD, e] at this
    exact this wv32
  rw [okT, Bool.and_eq_true, decide_eq_true_eq]
  rcases idx32_cases t with ⟨_, h6, _⟩ | ⟨m, _, hm, hs, h6, h7, h8, _⟩
  · have : t.getD 64 0 ∈ t := by rw [List.getD_eq_getElem?_getD, List.getElem?_eq_getElem (by omega)]; exact List.getElem_mem _
    exact absurd h2 (h6 _ this)
  · have e : m = 64 := by
      rcases Nat.lt_trichotomy m 64 with h | h | h
      · have h9 : t.getD m 0 = 32 := by
          have h5 : t.getD m 0 = (t.take m ++ 32 :: t.drop (m + 1)).getD m 0 := congrArg (fun l : List UInt8 => l.getD m 0) hs
          rw [h5, List.getD_eq_getElem?_getD, List.getElem?_append_right (by rw [List.length_take]; omega), List.length_take, show m - min m t.length = 0 by omega]
          rfl
        exact absurd h9 (h5 m h)
      · exact h
      · have : t.getD 64 0 ∈ t.take m := by
          rw [List.getD_eq_getElem?_getD, List.getElem?_eq_getElem (by omega)]
          exact List.mem_take_iff_getElem.2 ⟨64, by omega, rfl⟩
        exact absurd h2 (h6 _ this)
    subst e
    exact ⟨h7, by rw [h8]; exact h3⟩
/-- A line comes back. -/
theorem line_of {t : List UInt8} (h : okT t = true) (hl : t.length ≤ 140737488355327) : lineR (mkT t) = t ++ [10] := by
  obtain ⟨h1, h2, h3, h4, h5⟩ := okT_of h
  have hx := Ids.hex_read (strB (t.take 64)) h3
  have hid : Ids.hexB (Ids.dgt (mkT t).id) 64 = t.take 64 := by
    have e1 : Ids.hexB (Ids.dgt (mkT t).id) 64 = Ids.hexB (Ids.rdA (strB (t.take 64))) 64 := by
      have e2 := mkT_id hl
      rw [h4] at e2
      have e3 := (Ids.idC_inj _ _ (Ids.dgt_lt _) (rdA_lt _)).1 e2
      unfold Ids.hexB
      refine List.map_congr_left (fun k hk => ?_)
      rw [e3 k (by simpa using hk)]
    rw [e1]
    have e4 : strB (Ids.hexB (Ids.rdA (strB (t.take 64))) 64) = strB (t.take 64) := hx
    have e5 := congrArg (fun s : ByteArray => s.data.toList) e4
    simpa [strB_data] using e5
  rw [lineR, hid, mkT_name hl, h5]
  have hs : t = (t.take 64 ++ [32]) ++ t.drop 65 := by
    conv => lhs; rw [← List.take_append_drop 64 t]
    rw [List.drop_eq_getElem_cons (by omega), List.append_assoc]
    congr 2
    rw [List.getD_eq_getElem?_getD, List.getElem?_eq_getElem (by omega)] at h2
    exact h2
  conv => rhs; rw [hs]
theorem cut10 {a rest : List UInt8} (h : ∀ b ∈ a, b ≠ 10) : has10 (a ++ 10 :: rest) = true ∧ lnA (a ++ 10 :: rest) = a ∧ lnB (a ++ 10 :: rest) = rest := by
  rcases idx10_cases (a ++ 10 :: rest) with ⟨_, h6, _⟩ | ⟨m, _, hm, hs, h6, h7, h8, h9⟩
  · exact absurd rfl (h6 10 (by simp))
  · have ea : (a ++ 10 :: rest)[a.length]? = some 10 := by rw [List.getElem?_append_right (Nat.le_refl _), Nat.sub_self]; rfl
    have e : m = a.length := by
      rcases Nat.lt_trichotomy m a.length with h1 | h1 | h1
      · have h2 : (a ++ 10 :: rest)[m]? = some 10 := by
          have h5 : (a ++ 10 :: rest)[m]? = ((a ++ 10 :: rest).take m ++ 10 :: (a ++ 10 :: rest).drop (m + 1))[m]? := congrArg (fun l : List UInt8 => l[m]?) hs
          rw [h5, List.getElem?_append_right (by rw [List.length_take]; omega), List.length_take, show m - min m (a ++ 10 :: rest).length = 0 by omega]
          rfl
        rw [List.getElem?_append_left h1] at h2
        exact absurd rfl (h 10 (List.mem_of_getElem? h2))
      · exact h1
      · have h2 : ((a ++ 10 :: rest).take m)[a.length]? = some 10 := by rw [List.getElem?_take, if_pos h1]; exact ea
        exact absurd rfl (h6 10 (List.mem_of_getElem? h2))
    subst e
    refine ⟨h7, by rw [h8, List.take_left], ?_⟩
    rw [h9, List.drop_append, List.drop_of_length_le (by omega), show a.length + 1 - a.length = 1 by omega]
    rfl
theorem spl_in : ∀ (n : Nat) (l : List UInt8), l.length ≤ n → ∀ b ∈ l, b = 47 ∨ ∃ p ∈ spl l, b ∈ p
  | 0, l, hn, b, hb => by
    have e : l = [] := List.eq_nil_of_length_eq_zero (by omega)
    rw [e] at hb
    cases hb
  | n + 1, l, hn, b, hb => by
    rcases idx_cases l with ⟨_, h⟩ | ⟨m, _, hm, hs, h⟩
    · exact .inr ⟨l, by rw [spl_plain l h]; simp, hb⟩
    · rw [hs, spl_head _ _ h]
      rw [hs, List.mem_append, List.mem_cons] at hb
      rcases hb with hb | rfl | hb
      · exact .inr ⟨_, by simp, hb⟩
      · exact .inl rfl
      · rcases spl_in n (l.drop (m + 1)) (by rw [List.length_drop]; omega) b hb with h1 | ⟨p, h1, h2⟩
        · exact .inl h1
        · exact .inr ⟨p, by simp [h1], h2⟩
theorem right_no10 {n : List UInt8} (h : rightB n = true) : ∀ b ∈ n, b ≠ 10 := fun b hb e => by
  subst e
  simp only [rightB, Bool.and_eq_true] at h
  rcases spl_in n.length n (Nat.le_refl _) 10 hb with h1 | ⟨p, h1, h2⟩
  · cases h1
  · have h3 := List.all_eq_true.1 h.2.2 p h1
    simp only [nameB, Bool.and_eq_true] at h3
    have h4 := List.all_eq_true.1 h3.1.1.1.2 10 h2
    revert h4
    decide
theorem figs10 : ∀ k : Nat, k < 16 → Ids.figs.getD k 0 ≠ 10 := by decide
theorem take_line {r : Rf} (hr : rightB r.name = true) (rest : List UInt8) :
    has10 (lineR r ++ rest) = true ∧ lnB (lineR r ++ rest) = rest ∧ okT (lnA (lineR r ++ rest)) = true ∧ mkT (lnA (lineR r ++ rest)) = r := by
  have hn := right_len hr
  have hl : (Ids.hexB (Ids.dgt r.id) 64).length = 64 := Ids.hexB_len _ _
  obtain ⟨t, ht⟩ : ∃ t, (Ids.hexB (Ids.dgt r.id) 64 ++ [32]) ++ r.name = t := ⟨_, rfl⟩
  have hno : ∀ b ∈ t, b ≠ 10 := fun b hb e => by
    rw [← ht, List.mem_append, List.mem_append] at hb
    rcases hb with (hb | hb) | hb
    · obtain ⟨k, _, h1⟩ := List.mem_map.1 hb
      exact figs10 _ (Ids.dgt_lt r.id k) (h1.trans e)
    · rw [e] at hb; simp at hb
    · exact right_no10 hr b hb e
  have hc := cut10 (rest := rest) hno
  rw [lineR, ht, List.append_assoc]
  show has10 (t ++ 10 :: rest) = true ∧ lnB (t ++ 10 :: rest) = rest ∧ okT (lnA (t ++ 10 :: rest)) = true ∧ mkT (lnA (t ++ 10 :: rest)) = r
  rw [hc.2.1]
  have htl : t.length = 65 + r.name.length := by rw [← ht, List.length_append, List.length_append, hl]; rfl
  have h64 : t.take 64 = Ids.hexB (Ids.dgt r.id) 64 := by rw [← ht, List.append_assoc, List.take_append_of_le_length (by omega), List.take_of_length_le (by omega)]
  have h65 : t.drop 65 = r.name := by
    rw [← ht, List.drop_append, List.drop_of_length_le (by rw [List.length_append, hl]; decide), List.length_append, hl]
    rfl
  have hg : t.getD 64 0 = 32 := by
    rw [← ht, List.append_assoc, List.getD_eq_getElem?_getD, List.getElem?_append_right (by omega), hl]
    rfl
  have hrd := Ids.read_hex (Ids.dgt r.id) (Ids.dgt_lt r.id)
  have hok : okT t = true := (okT_iff t).2 ⟨by omega, hg, by rw [h64]; exact hrd.1⟩
  refine ⟨hc.1, hc.2.2, hok, ?_⟩
  have hb : t.length ≤ 140737488355327 := by omega
  have h5 := okT_of hok
  refine Rf.same (by rw [mkT_name hb, h5.2.2.2.2, h65]) ?_
  have h6 := mkT_id hb
  rw [h5.2.2.2.1, h64] at h6
  have h7 := (Ids.idC_inj _ _ (Ids.dgt_lt _) (Ids.dgt_lt _)).1 (h6.trans hrd.2)
  rw [← Ids.nu_dgt (mkT t).id (mkT t).hi, ← Ids.nu_dgt r.id r.hi]
  exact Ids.nuN_congr _ _ 64 h7

/-! Text as a table. -/
/-- The refs that text tells, behind others. -/
def getW (l : List UInt8) (acc : List Rf) : Option (List Rf) :=
  if h : has10 l = true ∧ okT (lnA l) = true ∧ l ≠ [] then getW (lnB l) (acc ++ [mkT (lnA l)]) else if l = [] then some acc else none
termination_by l.length
decreasing_by
  rcases idx10_cases l with ⟨_, _, h1, _⟩ | ⟨m, _, hm, _, _, _, _, h2⟩
  · rw [h1] at h; cases h.1
  · rw [h2, List.length_drop]; omega
theorem getW_nil (acc : List Rf) : getW [] acc = some acc := by
  rw [getW, dif_neg (fun h => h.2.2 rfl), if_pos rfl]
theorem getW_bad {l : List UInt8} (acc : List Rf) (hl : l ≠ []) (h : (has10 l && okT (lnA l)) = false) : getW l acc = none := by
  rw [getW, dif_neg (fun h2 => by rw [h2.1, h2.2.1] at h; cases h), if_neg hl]
theorem getW_step {l : List UInt8} (acc : List Rf) (hl : l ≠ []) (h1 : has10 l = true) (h2 : okT (lnA l) = true) : getW l acc = getW (lnB l) (acc ++ [mkT (lnA l)]) := by
  conv => lhs; rw [getW]
  rw [dif_pos ⟨h1, h2, hl⟩]
def getO (b : List UInt8) : List Rf × Int := match getW b [] with
  | none => ([], 12)
  | some l => if chkR l = 0 then (l, 0) else ([], chkR l)
theorem getW_put : ∀ (m : List Rf) (acc : List Rf), (∀ r ∈ m, rightB r.name = true) → getW (putR m) acc = some (acc ++ m)
  | [], acc, _ => by rw [show putR [] = [] from rfl, getW_nil, List.append_nil]
  | r :: m, acc, h => by
    have ht := take_line (h r (by simp)) (putR m)
    have e : putR (r :: m) = lineR r ++ putR m := rfl
    have hne : lineR r ++ putR m ≠ [] := fun h => by
      have := congrArg List.length h
      rw [List.length_append, lineR_len] at this
      simp at this
    rw [e, getW_step acc hne ht.1 ht.2.2.1, ht.2.1, ht.2.2.2, getW_put m _ (fun x hx => h x (by simp [hx])), List.append_assoc]
    rfl
/-- What text tells has that text. -/
theorem put_get : ∀ (n : Nat) (l : List UInt8) (acc k : List Rf), l.length ≤ n → l.length ≤ 140737488355327 → getW l acc = some k → putR k = putR acc ++ l
  | n, l, acc, k, hn, hb, h => by
    by_cases hl : l = []
    · subst hl
      rw [getW_nil] at h
      injection h with h
      rw [← h, List.append_nil]
    · cases hq : (has10 l && okT (lnA l)) with
      | false => rw [getW_bad acc hl hq] at h; cases h
      | true =>
        rw [Bool.and_eq_true] at hq
        rw [getW_step acc hl hq.1 hq.2] at h
        rcases idx10_cases l with ⟨_, _, h1, _⟩ | ⟨m, _, hm, hs, _, _, h1, h2⟩
        · rw [h1] at hq; cases hq.1
        · have hlt : (lnB l).length < l.length := by rw [h2, List.length_drop]; omega
          obtain ⟨n', rfl⟩ : ∃ n', n = n' + 1 := ⟨n - 1, by omega⟩
          have ih := put_get n' (lnB l) _ k (by omega) (by omega) h
          rw [ih, putR, List.flatMap_append, ← putR, List.append_assoc]
          congr 1
          have hla := lnA_len l
          rw [show List.flatMap lineR [mkT (lnA l)] = lineR (mkT (lnA l)) by simp, line_of hq.2 (by omega), h1, h2, List.append_assoc]
          exact hs.symm
end Go.Proofs.YtoakbdmfoepdgaaDoor

/- What is proved: lines are taken one behind the other, by the program, or it gives up by a panic. Conditions: the text is not too long. -/
import Derived.Test.YtppddpbacpeadaaDoorRve
namespace Go.Proofs.YtppddpbacpeadaaDoor
open Go.RowKit Go.Sort Go.Shelf
set_option linter.unusedVariables false

/-- How a call ends that gives up. -/
abbrev PC : Ending := .panicked [{ v := .iface 28 (.int .i64 12), recovered := false }]
theorem Vneed_yes (w : World) : Calls Tryd.prog 64 #[.bool true] w fun e w' => e = .returned (.tuple #[]) ∧ w = w' := by
  go_enter Tryd.func64, Tryd.ntmps64
  go_wp2
  go_end0
  exact ⟨rfl, rfl⟩
theorem Vneed_no (w : World) : Calls Tryd.prog 64 #[.bool false] w fun e w' => e = PC ∧ w = w' := by
  go_enter Tryd.func64, Tryd.ntmps64
  go_wp2
  exact ⟨rfl, rfl, rfl⟩
/-- What is left to be read lies so. -/
def LinesAt (w : World) (g : Nat) (s : List UInt8) : Prop := Whole w g 70 #[.string (strB s)]
theorem LinesAt.cell {w : World} {g : Nat} {s : List UInt8} (h : LinesAt w g s) : w.cell? ⟨g, 0, none⟩ = some (.string (strB s)) := Whole.cell h 0
theorem LinesAt.frozen {w : World} {g : Nat} {s : List UInt8} (h : LinesAt w g s) : w.frozen? ⟨g, 0, none⟩ = false := Whole.frozen h 0
theorem LinesAt.set {w : World} {g : Nat} {s : List UInt8} (h : LinesAt w g s) (r : List UInt8) : LinesAt (w.setCell ⟨g, 0, none⟩ (.string (strB r))) g r := by
  have := Whole.set h 0 (.string (strB r))
  exact this
theorem LinesAt.fr {w w' : World} {g : Nat} {s : List UInt8} (h : LinesAt w g s) (f : Fr (fun _ => False) w w') : LinesAt w' g s := Whole.fr h f (fun e => e)
theorem fr_set {w w' : World} {g : Nat} (f : Fr (fun _ => False) w w') (u : Value) : Fr (fun k => k = g) w (w'.setCell ⟨g, 0, none⟩ u) :=
  Fr.setCell (S := fun k => k = g) (p := ⟨g, 0, none⟩) (f.mono (fun _ _ e => e.elim)) (fun _ => rfl) u

set_option maxHeartbeats 1000000 in
set_option maxRecDepth 100000 in
theorem Vlbegin_any (g : Nat) (word s : List UInt8) (hw : word.length ≤ 100) (hs : s.length ≤ 1000000) (w : World) (h : LinesAt w g s) :
    Calls Tryd.prog 54 #[.pointer (some ⟨g, 0, none⟩), .string (strB word)] w fun e w' => e = .returned (.bool (begW word s)) ∧ w = w' := by
  have hc := h.cell
  have hp := Lib.hid (fun w => GHasPrefix_any s (word ++ [32]) (by omega) (by simp; omega) w)
  have hadd : ∀ w, (Op.stringOp .add (strB word) (ByteArray.mk #[32])).run Tryd.prog w = .ok (.string (strB (word ++ [32]))) w := fun w => add_str word [32] (by simp; omega) w
  have hb : (word ++ [32]).isPrefixOf s = begW word s := rfl
  rw [hb] at hp
  obtain ⟨b, hb2⟩ : ∃ b, begW word s = b := ⟨_, rfl⟩
  rw [hb2] at hp ⊢
  obtain ⟨S, hS⟩ : ∃ S, strB s = S := ⟨_, rfl⟩
  obtain ⟨W, hW⟩ : ∃ S, strB word = S := ⟨_, rfl⟩
  obtain ⟨X, hX⟩ : ∃ S, strB (word ++ [32]) = S := ⟨_, rfl⟩
  rw [hS] at hc hp
  rw [hX] at hp hadd
  rw [hW] at hadd ⊢
  clear hb hb2 hS hW hX h hs hw
  go_enter Tryd.func54, Tryd.ntmps54
  go_wp2_with (go_at_call 65; refine (hp.out _).mono ?_; rintro e w' ⟨rfl, rfl⟩)
  go_ret
  exact ⟨rfl, rfl⟩

set_option maxHeartbeats 1000000 in
set_option maxRecDepth 100000 in
theorem Vltake_some (g : Nat) (word s t r : List UInt8) (hw : word.length ≤ 100) (hn : ∀ b ∈ word, b ≠ 10) (hs : s.length ≤ 1000000) (ht : takeL word s = some (t, r)) (w : World) (h : LinesAt w g s) :
    Calls Tryd.prog 55 #[.pointer (some ⟨g, 0, none⟩), .string (strB word)] w fun e w' => e = .returned (.string (strB t)) ∧ LinesAt w' g r ∧ Fr (fun k => k = g) w w' := by
  have hb1 : begW word s = true := by
    cases hx : begW word s with
    | true => rfl
    | false => rw [takeL_no hx] at ht; cases ht
  have hb2 : has10 s = true := by
    cases hx : has10 s with
    | true => rfl
    | false => rw [takeL_none hx] at ht; cases ht
  rw [takeL_some hb1 hb2] at ht
  injection ht with ht
  injection ht with ht1 ht2
  have hc := h.cell
  have hz := h.frozen
  have HB := Lib.hid (Vlbegin_any g word s hw hs w h)
  rw [hb1] at HB
  have HC := Lib.hid (GstrCut_any s (by omega) w)
  rw [hb2] at HC
  have HY := Lib.hid (fun w => Vneed_yes w)
  have hfit := word_fits hn hb1 hb2
  obtain ⟨n, hn'⟩ : ∃ n, word.length + 1 = n := ⟨_, rfl⟩
  rw [hn'] at hfit ht1
  have hsl := fun w => slice_from (P := Tryd.prog) w Tryd.underlying9 (lnA s) n hfit
  rw [ht1] at hsl
  have hadd : ∀ w, (Op.stringOp .add (strB word) (ByteArray.mk #[32])).run Tryd.prog w = .ok (.string (strB (word ++ [32]))) w := fun w => add_str word [32] (by simp; omega) w
  have hsz : (strB (word ++ [32])).size = n := by rw [strB_size, List.length_append, List.length_singleton, hn']
  have hn100 : n ≤ 101 := by omega
  have HL := Lib.hid h
  rw [ht2] at HC
  obtain ⟨T, hT⟩ : ∃ S, strB [10] = S := ⟨_, rfl⟩
  have hTc : ByteArray.mk #[10] = T := hT
  obtain ⟨S, hS⟩ : ∃ S, strB s = S := ⟨_, rfl⟩
  obtain ⟨W, hW⟩ : ∃ S, strB word = S := ⟨_, rfl⟩
  obtain ⟨X, hX⟩ : ∃ S, strB (word ++ [32]) = S := ⟨_, rfl⟩
  obtain ⟨S1, hS1⟩ : ∃ S, strB (lnA s) = S := ⟨_, rfl⟩
  have HR : Hid (∀ w', Fr (fun _ => False) w w' → LinesAt (w'.setCell ⟨g, 0, none⟩ (.string (strB r))) g r ∧ Fr (fun k => k = g) w (w'.setCell ⟨g, 0, none⟩ (.string (strB r)))) := Lib.hid (fun w' f => ⟨(h.fr f).set r, fr_set f _⟩)
  have HF : Hid (∀ w', Below w.heap.size w w' → w'.frozen? ⟨g, 0, none⟩ = false) := Lib.hid (fun w' b => (h.fr (Fr.of_below b)).frozen)
  obtain ⟨S2, hS2⟩ : ∃ S, strB r = S := ⟨_, rfl⟩
  obtain ⟨S3, hS3⟩ : ∃ S, strB t = S := ⟨_, rfl⟩
  rw [hT, hS, hS1, hS2] at HC
  rw [hS] at hc
  rw [hW, hX] at hadd
  rw [hX] at hsz
  rw [hW] at HB
  rw [hS1, hS3] at hsl
  rw [hS2] at HR
  rw [hW, hS3]
  have HCB : Hid (∀ w', Below w.heap.size w w' → ∃ u, w'.cell? ⟨g, 0, none⟩ = some u) := Lib.hid (fun w' b => ⟨_, (HL.out.fr (Fr.of_below b)).cell⟩)
  clear hT hS hS1 hS2 hS3 hW hX hfit hn hs hw ht1 ht2 hb1 hb2 h HL hn'
  go_enter Tryd.func55, Tryd.ntmps55
  go_wp2_with (first
    | (go_at_call 54; refine HB.out.mono ?_; rintro e w' ⟨rfl, rfl⟩)
    | (go_at_call 66; refine HC.out.mono ?_; rintro e w2 ⟨rfl, b2⟩
       have hz2 := HF.out _ b2
       obtain ⟨u2, hc2⟩ := HCB.out _ b2)
    | (go_at_call 64; refine (HY.out _).mono ?_; rintro e w' ⟨rfl, rfl⟩))
  go_ret
  exact ⟨rfl, HR.out _ (Fr.of_below b2)⟩
set_option maxHeartbeats 1000000 in
set_option maxRecDepth 100000 in
theorem Vltake_none (g : Nat) (word s : List UInt8) (hw : word.length ≤ 100) (hs : s.length ≤ 1000000) (ht : takeL word s = none) (w : World) (h : LinesAt w g s) :
    Calls Tryd.prog 55 #[.pointer (some ⟨g, 0, none⟩), .string (strB word)] w fun e w' => e = PC ∧ Below w.heap.size w w' := by
  have hc := h.cell
  have HB := Lib.hid (Vlbegin_any g word s hw hs w h)
  have HC := Lib.hid (GstrCut_any s (by omega) w)
  have HY := Lib.hid (fun w => Vneed_yes w)
  have HN := Lib.hid (fun w => Vneed_no w)
  obtain ⟨T, hT⟩ : ∃ S, strB [10] = S := ⟨_, rfl⟩
  have hTc : ByteArray.mk #[10] = T := hT
  obtain ⟨S, hS⟩ : ∃ S, strB s = S := ⟨_, rfl⟩
  obtain ⟨W, hW⟩ : ∃ S, strB word = S := ⟨_, rfl⟩
  obtain ⟨S1, hS1⟩ : ∃ S, strB (lnA s) = S := ⟨_, rfl⟩
  obtain ⟨S2, hS2⟩ : ∃ S, strB (lnB s) = S := ⟨_, rfl⟩
  rw [hT, hS, hS1, hS2] at HC
  rw [hS] at hc
  rw [hW] at HB
  rw [hW]
  clear hT hS hS1 hS2 hW hs hw h
  cases hb1 : begW word s with
  | false =>
    rw [hb1] at HB
    clear ht hb1 HC HY
    go_enter Tryd.func55, Tryd.ntmps55
    go_wp2_with (first
      | (go_at_call 54; refine HB.out.mono ?_; rintro e w' ⟨rfl, rfl⟩)
      | (go_at_call 64; refine (HN.out _).mono ?_; rintro e w' ⟨rfl, rfl⟩))
    exact ⟨rfl, rfl, (Fr.refl (fun _ => False) w).below (fun _ _ e => e)⟩
  | true =>
    have hb2 : has10 s = false := by
      cases hx : has10 s with
      | false => rfl
      | true => rw [takeL_some hb1 hx] at ht; cases ht
    rw [hb1] at HB
    rw [hb2] at HC
    clear ht hb1 hb2
    go_enter Tryd.func55, Tryd.ntmps55
    go_wp2_with (first
      | (go_at_call 54; refine HB.out.mono ?_; rintro e w' ⟨rfl, rfl⟩)
      | (go_at_call 66; refine HC.out.mono ?_; rintro e w2 ⟨rfl, b2⟩)
      | (have _ := b2; go_at_call 64; refine (HN.out _).mono ?_; rintro e w' ⟨rfl, rfl⟩)
      | (go_at_call 64; refine (HY.out _).mono ?_; rintro e w' ⟨rfl, rfl⟩))
    exact ⟨rfl, rfl, b2⟩

/-! An id, a number, a digit, a text. -/
def readI (t : List UInt8) : Option Nat := if Ids.rdE (strB t) = 0 then some (Ids.nu (Ids.rdA (strB t))) else none
def idL (word s : List UInt8) : Option (Nat × List UInt8) := match takeL word s with | none => none | some (t, r) => match readI t with | none => none | some n => some (n, r)
def readN (t : List UInt8) : Option Nat := if (numW t).2 = 0 then some (valN t) else none
def numL (word s : List UInt8) : Option (Nat × List UInt8) := match takeL word s with | none => none | some (t, r) => match readN t with | none => none | some n => some (n, r)
def digL (word s : List UInt8) : Option (Nat × List UInt8) := match numL word s with | none => none | some (n, r) => if n < 10 then some (n, r) else none
def textL (s : List UInt8) : Option (List UInt8) := if [10].isPrefixOf s then some (s.drop 1) else none
theorem numW_cases (t : List UInt8) : (readN t = some (valN t) ∧ numW t = (((valN t : Nat) : Int), (0 : Int)) ∧ valN t < 1000000000000000) ∨ (readN t = none ∧ ∃ x : Int, numW t = (0, 12)) := by
  by_cases hb : badN t = true
  · right
    have := numW_bad hb
    exact ⟨by rw [readN, this]; rfl, 0, this⟩
  · have hb : badN t = false := by simpa using hb
    cases ha : t.all isDig with
    | false =>
      right
      have := numW_not ha
      exact ⟨by rw [readN, this]; rfl, 0, this⟩
    | true =>
      left
      have := numW_ok hb ha
      refine ⟨by rw [readN, this]; rfl, this, valN_range ha ?_⟩
      apply Classical.byContradiction
      intro hl
      rw [badN_long (by omega)] at hb
      cases hb
theorem rdA_lt (s : ByteArray) (k : Nat) : Ids.rdA s k < 16 := by
  unfold Ids.rdA
  split
  · exact Ids.begD_lt _ _ _
  · exact (by decide : 0 < 16)
theorem readI_cases (t : List UInt8) : (∃ n, readI t = some n ∧ n < Ids.big ∧ Ids.rdE (strB t) = 0 ∧ Ids.idC (Ids.rdA (strB t)) = Ids.idC (Ids.dgt n)) ∨ (readI t = none ∧ Ids.rdE (strB t) ≠ 0) := by
  by_cases h : Ids.rdE (strB t) = 0
  · left
    exact ⟨_, by rw [readI, if_pos h], Ids.nu_lt _ (rdA_lt _), h, (Ids.idC_nu _ (rdA_lt _)).symm⟩
  · right
    exact ⟨by rw [readI, if_neg h], h⟩
set_option maxHeartbeats 1000000 in
set_option maxRecDepth 100000 in
theorem Vlnumber_some (g : Nat) (word s r : List UInt8) (n : Nat) (hw : word.length ≤ 100) (hn : ∀ b ∈ word, b ≠ 10) (hs : s.length ≤ 1000000) (ht : numL word s = some (n, r)) (w : World) (h : LinesAt w g s) :
    Calls Tryd.prog 56 #[.pointer (some ⟨g, 0, none⟩), .string (strB word)] w fun e w' => e = .returned (.int .i64 n) ∧ LinesAt w' g r ∧ Fr (fun k => k = g) w w' := by
  rcases hx : takeL word s with _ | ⟨t, r'⟩
  · rw [numL, hx] at ht; cases ht
  · simp only [numL, hx] at ht
    rcases numW_cases t with ⟨h1, h2, h3⟩ | ⟨h1, _⟩
    · rw [h1] at ht
      injection ht with ht
      injection ht with ht1 ht2
      subst ht1; subst ht2
      have htl := (takeL_len hx).1
      have HT := Lib.hid (Vltake_some g word s t r' hw hn hs hx w h)
      have HM := Lib.hid (fun w => VNumber_any t (by omega) w)
      rw [h2] at HM
      have HY := Lib.hid (fun w => Vneed_yes w)
      obtain ⟨W, hW⟩ : ∃ S, strB word = S := ⟨_, rfl⟩
      obtain ⟨S, hS⟩ : ∃ S, strB t = S := ⟨_, rfl⟩
      obtain ⟨v, hv⟩ : ∃ v : Int, ((valN t : Nat) : Int) = v := ⟨_, rfl⟩
      rw [hW, hS] at HT
      rw [hS] at HM
      rw [hv] at HM
      rw [hW, hv]
      clear h1 h2 h3 hx htl hW hS hv h hs hw hn
      go_enter Tryd.func56, Tryd.ntmps56
      go_wp2_with (first
        | (go_at_call 55; refine HT.out.mono ?_; rintro e w2 ⟨rfl, l2, f2⟩)
        | (go_at_call 10; refine (HM.out _).mono ?_; rintro e w' ⟨rfl, rfl⟩)
        | (go_at_call 64; refine (HY.out _).mono ?_; rintro e w' ⟨rfl, rfl⟩))
      go_ret
      exact ⟨rfl, l2, f2⟩
    · rw [h1] at ht; cases ht
/-- The frame of a call that gave up. -/
def Gave (g : Nat) (w : World) (e : Ending) (w' : World) : Prop := e = PC ∧ Fr (fun k => k = g) w w'
set_option maxHeartbeats 1000000 in
set_option maxRecDepth 100000 in
theorem Vlnumber_none (g : Nat) (word s : List UInt8) (hw : word.length ≤ 100) (hn : ∀ b ∈ word, b ≠ 10) (hs : s.length ≤ 1000000) (ht : numL word s = none) (w : World) (h : LinesAt w g s) :
    Calls Tryd.prog 56 #[.pointer (some ⟨g, 0, none⟩), .string (strB word)] w (Gave g w) := by
  rcases hx : takeL word s with _ | ⟨t, r'⟩
  · have HT := Lib.hid (Vltake_none g word s hw hs hx w h)
    obtain ⟨W, hW⟩ : ∃ S, strB word = S := ⟨_, rfl⟩
    rw [hW] at HT ⊢
    clear hx hW h hs hw hn ht
    go_enter Tryd.func56, Tryd.ntmps56
    go_wp2_with (go_at_call 55; refine HT.out.mono ?_; rintro e w2 ⟨rfl, b2⟩)
    exact ⟨rfl, rfl, Fr.of_below b2⟩
  · simp only [numL, hx] at ht
    rcases numW_cases t with ⟨h1, h2, h3⟩ | ⟨h1, _, h2⟩
    · rw [h1] at ht; cases ht
    · have htl := (takeL_len hx).1
      have HT := Lib.hid (Vltake_some g word s t r' hw hn hs hx w h)
      have HM := Lib.hid (fun w => VNumber_any t (by omega) w)
      rw [h2] at HM
      have HY := Lib.hid (fun w => Vneed_no w)
      obtain ⟨W, hW⟩ : ∃ S, strB word = S := ⟨_, rfl⟩
      obtain ⟨S, hS⟩ : ∃ S, strB t = S := ⟨_, rfl⟩
      rw [hW, hS] at HT
      rw [hS] at HM
      rw [hW]
      clear h1 h2 hx htl hW hS h hs hw hn ht
      go_enter Tryd.func56, Tryd.ntmps56
      go_wp2_with (first
        | (go_at_call 55; refine HT.out.mono ?_; rintro e w2 ⟨rfl, l2, f2⟩)
        | (go_at_call 10; refine (HM.out _).mono ?_; rintro e w' ⟨rfl, rfl⟩)
        | (go_at_call 64; refine (HY.out _).mono ?_; rintro e w' ⟨rfl, rfl⟩))
      exact ⟨rfl, rfl, f2⟩
set_option maxHeartbeats 1000000 in
set_option maxRecDepth 100000 in
theorem Vldigit_some (g : Nat) (word s r : List UInt8) (n : Nat) (hw : word.length ≤ 100) (hn : ∀ b ∈ word, b ≠ 10) (hs : s.length ≤ 1000000) (ht : digL word s = some (n, r)) (w : World) (h : LinesAt w g s) :
    Calls Tryd.prog 59 #[.pointer (some ⟨g, 0, none⟩), .string (strB word)] w fun e w' => e = .returned (.int .i64 n) ∧ LinesAt w' g r ∧ Fr (fun k => k = g) w w' := by
  rcases hx : numL word s with _ | ⟨m, r'⟩
  · rw [digL, hx] at ht; cases ht
  · simp only [digL, hx] at ht
    by_cases h10 : m < 10
    · rw [if_pos h10] at ht
      injection ht with ht
      injection ht with ht1 ht2
      subst ht1; subst ht2
      have HT := Lib.hid (Vlnumber_some g word s r' m hw hn hs hx w h)
      have HY := Lib.hid (fun w => Vneed_yes w)
      obtain ⟨W, hW⟩ : ∃ S, strB word = S := ⟨_, rfl⟩
      have hi : (m : Int) < 10 := by omega
      rw [hW] at HT ⊢
      clear hx hW h hs hw hn
      go_enter Tryd.func59, Tryd.ntmps59
      go_wp2_with (first
        | (go_at_call 56; refine HT.out.mono ?_; rintro e w2 ⟨rfl, l2, f2⟩)
        | (go_at_call 64; refine (HY.out _).mono ?_; rintro e w' ⟨rfl, rfl⟩))
      go_ret
      exact ⟨rfl, l2, f2⟩
    · rw [if_neg h10] at ht; cases ht
set_option maxHeartbeats 1000000 in
set_option maxRecDepth 100000 in
theorem Vldigit_none (g : Nat) (word s : List UInt8) (hw : word.length ≤ 100) (hn : ∀ b ∈ word, b ≠ 10) (hs : s.length ≤ 1000000) (ht : digL word s = none) (w : World) (h : LinesAt w g s) :
    Calls Tryd.prog 59 #[.pointer (some ⟨g, 0, none⟩), .string (strB word)] w (Gave g w) := by
  rcases hx : numL word s with _ | ⟨m, r'⟩
  · have HT := Lib.hid (Vlnumber_none g word s hw hn hs hx w h)
    obtain ⟨W, hW⟩ : ∃ S, strB word = S := ⟨_, rfl⟩
    rw [hW] at HT ⊢
    clear hx hW h hs hw hn ht
    go_enter Tryd.func59, Tryd.ntmps59
    go_wp2_with (go_at_call 56; refine HT.out.mono ?_; rintro e w2 ⟨rfl, f2⟩)
    exact ⟨rfl, rfl, f2⟩
  · simp only [digL, hx] at ht
    by_cases h10 : m < 10
    · rw [if_pos h10] at ht; cases ht
    · have HT := Lib.hid (Vlnumber_some g word s r' m hw hn hs hx w h)
      have HY := Lib.hid (fun w => Vneed_no w)
      obtain ⟨W, hW⟩ : ∃ S, strB word = S := ⟨_, rfl⟩
      have hd : decide ((m : Int) < 10) = false := decide_eq_false (by omega)
      rw [hW] at HT ⊢
      clear hx hW h hs hw hn ht
      go_enter Tryd.func59, Tryd.ntmps59
      go_wp2_with (first
        | (go_at_call 56; refine HT.out.mono ?_; rintro e w2 ⟨rfl, l2, f2⟩)
        | (go_at_call 64; refine (HY.out _).mono ?_; rintro e w' ⟨rfl, rfl⟩))
      exact ⟨rfl, rfl, f2⟩
/-! An id's line; the text. -/
set_option maxHeartbeats 1600000 in
set_option maxRecDepth 100000 in
theorem Vlid_some (g : Nat) (word s r : List UInt8) (n : Nat) (hw : word.length ≤ 100) (hn : ∀ b ∈ word, b ≠ 10) (hs : s.length ≤ 1000000) (ht : idL word s = some (n, r)) (w : World) (h : LinesAt w g s) :
    Calls Tryd.prog 53 #[.pointer (some ⟨g, 0, none⟩), .string (strB word)] w fun e w' => e = .returned (.agg (Ids.idC (Ids.dgt n))) ∧ LinesAt w' g r ∧ Fr (fun k => k = g) w w' := by
  rcases hx : takeL word s with _ | ⟨t, r'⟩
  · rw [idL, hx] at ht; cases ht
  · simp only [idL, hx] at ht
    rcases readI_cases t with ⟨m, h1, h2, h3, h4⟩ | ⟨h1, _⟩
    · rw [h1] at ht
      injection ht with ht
      injection ht with ht1 ht2
      subst ht1; subst ht2
      have htl := (takeL_len hx).1
      obtain ⟨w1, hw1⟩ : ∃ w1, w.alloc (.cells Ids.zero32 23) = w1 := ⟨_, rfl⟩
      have hF : Fr (fun _ => False) w w1 := by subst hw1; exact (Fr.refl _ w).alloc _
      have hZ : Whole w1 w.heap.size 23 Ids.zero32 := by subst hw1; exact Whole.new w 23 Ids.zero32
      unfold Ids.zero32 at hw1
      simp [List.replicate] at hw1
      have HF := Lib.hid hF
      have HZ := Lib.hid hZ
      have hg : g < w.heap.size := Whole.lt h
      have HT := Lib.hid (Vltake_some g word s t r' hw hn hs hx w1 (h.fr hF))
      have HM := Lib.hid (fun w => Ids.ORead_any (strB t) (by rw [strB_size]; omega) w)
      rw [h3, h4] at HM
      have HY := Lib.hid (fun w => Vneed_yes w)
      obtain ⟨P, hP⟩ : ∃ P, Ids.idC (Ids.dgt m) = P := ⟨_, rfl⟩
      rw [hP] at HM ⊢
      have hPs : P.size = 32 := by rw [← hP]; exact Ids.idC_size _
      have hPo : P.all (·.oneCell') = true := by rw [← hP]; exact Ids.idC_one _
      obtain ⟨W, hW⟩ : ∃ S, strB word = S := ⟨_, rfl⟩
      obtain ⟨S, hS⟩ : ∃ S, strB t = S := ⟨_, rfl⟩
      rw [hW, hS] at HT
      rw [hS] at HM
      rw [hW]
      clear h1 h2 h3 h4 hx htl hW hS h hs hw hn hF hZ hP
      go_enter Tryd.func53, Tryd.ntmps53
      go_wp2_with (first
        | (go_at_call 55; refine HT.out.mono ?_; rintro e w2 ⟨rfl, l2, f2⟩)
        | (go_at_call 63; refine (HM.out _).mono ?_; rintro e w3 ⟨rfl, b3⟩)
        | (refine wpList_load_row rfl 23 _ rfl _ rfl 23 _ _ _ hw4 Tryd.underlying23 rfl (by rw [hPs]; exact Ids.size32) ?_)
        | (have _ := M1
           refine wpList_store_at rfl 23 _ _ rfl w.heap.size 0 23 _ P rfl rfl hz4 (by rw [hPs]; decide) (by rw [hPs]; exact Ids.size32) hPo ?_
           intro w6 hw6 hf6)
        | (refine wpList_store_at rfl 23 _ _ rfl w3.heap.size 0 23 _ P rfl rfl (Whole.new w3 23 Ids.zero32) (by rw [hPs]; decide) (by rw [hPs]; exact Ids.size32) hPo ?_
           intro w4 hw4 hf4
           rw [laidAt_all _ _ (by rw [hPs]; rfl)] at hw4
           have M1 := True.intro
           have F4 : Fr (fun k => k = g) w1 w4 := ((f2.then_below b3).alloc _).trans hf4 (fun i hi e => by have := f2.size; have := b3.size; omega)
           have l4 : LinesAt w4 g r' := Whole.fr (((l2.fr (Fr.of_below b3)).fr ((Fr.refl (fun _ => False) _).alloc _))) hf4 (fun e => by have := Whole.lt l2; have := b3.size; omega)
           have hz4 : Whole w4 w.heap.size 23 Ids.zero32 := HZ.out.fr F4 (fun e => by omega))
        | (go_at_call 64; refine (HY.out _).mono ?_; rintro e w' ⟨rfl, rfl⟩))
      rw [laidAt_all _ _ (by rw [hPs]; rfl)] at hw6
      refine bodyPost_ret (v := .agg P) (results_cell_row rfl _ _ _ _ _ _ _ rfl hw6 Tryd.underlying23 rfl (by rw [hPs]; exact Ids.size32)) rfl ?_
      refine ⟨rfl, Whole.fr l4 hf6 (fun e => by omega), ((HF.out.mono (fun _ _ e => e.elim) : Fr (fun k => k = g) w w1).trans F4 (fun i hi e => e)).trans hf6 (fun i hi e => by omega)⟩
    · rw [h1] at ht; cases ht
set_option maxHeartbeats 1600000 in
set_option maxRecDepth 100000 in
theorem Vlid_none (g : Nat) (word s : List UInt8) (hw : word.length ≤ 100) (hn : ∀ b ∈ word, b ≠ 10) (hs : s.length ≤ 1000000) (ht : idL word s = none) (w : World) (h : LinesAt w g s) :
    Calls Tryd.prog 53 #[.pointer (some ⟨g, 0, none⟩), .string (strB word)] w (Gave g w) := by
  obtain ⟨w1, hw1⟩ : ∃ w1, w.alloc (.cells Ids.zero32 23) = w1 := ⟨_, rfl⟩
  have hF : Fr (fun _ => False) w w1 := by subst hw1; exact (Fr.refl _ w).alloc _
  unfold Ids.zero32 at hw1
  simp [List.replicate] at hw1
  have HF := Lib.hid hF
  have hg : g < w.heap.size := Whole.lt h
  rcases hx : takeL word s with _ | ⟨t, r'⟩
  · have HT := Lib.hid (Vltake_none g word s hw hs hx w1 (h.fr hF))
    obtain ⟨W, hW⟩ : ∃ S, strB word = S := ⟨_, rfl⟩
    rw [hW] at HT ⊢
    clear hx hW h hs hw hn ht hF
    go_enter Tryd.func53, Tryd.ntmps53
    go_wp2_with (go_at_call 55; refine HT.out.mono ?_; rintro e w2 ⟨rfl, b2⟩)
    exact ⟨rfl, rfl, (HF.out.then_below b2).mono (fun _ _ e => e.elim)⟩
  · simp only [idL, hx] at ht
    rcases readI_cases t with ⟨m, h1, h2, h3, h4⟩ | ⟨h1, h3⟩
    · rw [h1] at ht; cases ht
    · have htl := (takeL_len hx).1
      have HT := Lib.hid (Vltake_some g word s t r' hw hn hs hx w1 (h.fr hF))
      have HM := Lib.hid (fun w => Ids.ORead_any (strB t) (by rw [strB_size]; omega) w)
      have HN := Lib.hid (fun w => Vneed_no w)
      obtain ⟨E, hE⟩ : ∃ E, Ids.rdE (strB t) = E := ⟨_, rfl⟩
      obtain ⟨P, hP⟩ : ∃ P, Ids.idC (Ids.rdA (strB t)) = P := ⟨_, rfl⟩
      rw [hE] at h3 HM
      rw [hP] at HM
      have hd : (E == 0) = false := by simpa using h3
      have hPs : P.size = 32 := by rw [← hP]; exact Ids.idC_size _
      have hPo : P.all (·.oneCell') = true := by rw [← hP]; exact Ids.idC_one _
      obtain ⟨W, hW⟩ : ∃ S, strB word = S := ⟨_, rfl⟩
      obtain ⟨S, hS⟩ : ∃ S, strB t = S := ⟨_, rfl⟩
      rw [hW, hS] at HT
      rw [hS] at HM
      rw [hW]
      clear h1 h3 hx htl hW hS h hs hw hn hF hP hE ht
      go_enter Tryd.func53, Tryd.ntmps53
      go_wp2_with (first
        | (go_at_call 55; refine HT.out.mono ?_; rintro e w2 ⟨rfl, l2, f2⟩)
        | (go_at_call 63; refine (HM.out _).mono ?_; rintro e w3 ⟨rfl, b3⟩)
        | (refine wpList_store_at rfl 23 _ _ rfl w3.heap.size 0 23 _ P rfl rfl (Whole.new w3 23 Ids.zero32) (by rw [hPs]; decide) (by rw [hPs]; exact Ids.size32) hPo ?_
           intro w4 hw4 hf4
           have F4 : Fr (fun k => k = g) w1 w4 := ((f2.then_below b3).alloc _).trans hf4 (fun i hi e => by have := f2.size; have := b3.size; omega))
        | (go_at_call 64; refine (HN.out _).mono ?_; rintro e w' ⟨rfl, rfl⟩))
      exact ⟨rfl, rfl, (HF.out.mono (fun _ _ e => e.elim) : Fr (fun k => k = g) w w1).trans F4 (fun i hi e => e)⟩

set_option maxHeartbeats 1000000 in
set_option maxRecDepth 100000 in
theorem Vltext_some (g : Nat) (s t : List UInt8) (hs : s.length ≤ 1000000) (ht : textL s = some t) (w : World) (h : LinesAt w g s) :
    Calls Tryd.prog 57 #[.pointer (some ⟨g, 0, none⟩)] w fun e w' => e = .returned (.string (strB t)) ∧ Fr (fun k => k = g) w w' := by
  have hp : [10].isPrefixOf s = true := by
    unfold textL at ht
    split at ht
    · assumption
    · cases ht
  have hct : cutB s [10] = t := by
    rw [textL, if_pos hp] at ht
    injection ht with ht
    rw [cutB, if_pos hp, ← ht]
    rfl
  have hc := h.cell
  have hz := h.frozen
  have HC := Lib.hid (fun w => GCutPrefix_any s [10] (by omega) (by decide) w)
  rw [hp, hct] at HC
  have HY := Lib.hid (fun w => Vneed_yes w)
  have HR : Hid (∀ u, Fr (fun k => k = g) w (w.setCell ⟨g, 0, none⟩ u)) := Lib.hid (fun u => fr_set (Fr.refl _ w) u)
  obtain ⟨T, hT⟩ : ∃ S, strB [10] = S := ⟨_, rfl⟩
  have hTc : ByteArray.mk #[10] = T := hT
  obtain ⟨S, hS⟩ : ∃ S, strB s = S := ⟨_, rfl⟩
  obtain ⟨S3, hS3⟩ : ∃ S, strB t = S := ⟨_, rfl⟩
  rw [hT, hS, hS3] at HC
  rw [hS] at hc
  rw [hS3]
  clear hT hS hS3 hs h hp hct ht
  go_enter Tryd.func57, Tryd.ntmps57
  go_wp2_with (first
    | (go_at_call 67; refine (HC.out _).mono ?_; rintro e w' ⟨rfl, rfl⟩)
    | (go_at_call 64; refine (HY.out _).mono ?_; rintro e w' ⟨rfl, rfl⟩))
  go_ret
  exact ⟨rfl, HR.out _⟩
set_option maxHeartbeats 1000000 in
set_option maxRecDepth 100000 in
theorem Vltext_none (g : Nat) (s : List UInt8) (hs : s.length ≤ 1000000) (ht : textL s = none) (w : World) (h : LinesAt w g s) :
    Calls Tryd.prog 57 #[.pointer (some ⟨g, 0, none⟩)] w (Gave g w) := by
  have hp : [10].isPrefixOf s = false := by
    cases hx : [10].isPrefixOf s with
    | false => rfl
    | true => rw [textL, if_pos hx] at ht; cases ht
  have hc := h.cell
  have HC := Lib.hid (fun w => GCutPrefix_any s [10] (by omega) (by decide) w)
  rw [hp] at HC
  have HN := Lib.hid (fun w => Vneed_no w)
  obtain ⟨T, hT⟩ : ∃ S, strB [10] = S := ⟨_, rfl⟩
  have hTc : ByteArray.mk #[10] = T := hT
  obtain ⟨S, hS⟩ : ∃ S, strB s = S := ⟨_, rfl⟩
  obtain ⟨S3, hS3⟩ : ∃ S, strB (cutB s [10]) = S := ⟨_, rfl⟩
  rw [hT, hS, hS3] at HC
  rw [hS] at hc
  clear hT hS hS3 hs h hp ht
  go_enter Tryd.func57, Tryd.ntmps57
  go_wp2_with (first
    | (go_at_call 67; refine (HC.out _).mono ?_; rintro e w' ⟨rfl, rfl⟩)
    | (go_at_call 64; refine (HN.out _).mono ?_; rintro e w' ⟨rfl, rfl⟩))
  exact ⟨rfl, rfl, Fr.refl _ _⟩
end Go.Proofs.YtppddpbacpeadaaDoor

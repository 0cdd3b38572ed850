/- What is proved: what the walks of this seat need of layers below, merged out of the texts Rva Rvb Rvc Rvd Rve Rvf Rvg (of each just what is needed). Conditions: each theorem names its own. -/
import Derived.Test.YtkaeoflgnnlbeaaGreatDoorItoa
import Derived.Lib.ItoaNum
import Derived.Deep.LoopGhost
import Derived.Deep.RegionWith
import Derived.Deep.CutBlock
import Derived.Deep.DeepCutAuto
import Derived.OwnWalk
import Derived.BigQuiet
import Derived.OrdersHeld
import Derived.Lib.Hide
import Derived.Lib.ItoaLen
import Derived.Test.YtkaeoflgnnlbeaaGreatDoorBb
import Derived.Test.YtkaeoflgnnlbeaaGreatDoorCa
/- What is proved: plain facts on decimal digits; what the library's table asks of a world. Conditions: none. -/
namespace Go.Proofs.YtkaeoflgnnlbeaaGreatDoor
open Go.RowKit Go.Sort Go.Shelf
set_option linter.unusedVariables false
/-! The table of powers. -/
def Tab10 (w : World) : Prop := Lib.TabIs Tryz.prog w "internal/strconv.uint64pow10" .u64 Lib.pow10Tab
theorem Tab10.fr {w w' : World} (h : Tab10 w) (f : Fr (fun _ => False) w w') : Tab10 w' := by
  unfold Tab10 Lib.TabIs World.var? at *
  cases hg : Tryz.prog.globalNamed "internal/strconv.uint64pow10" with
  | none => simp [hg] at h
  | some g =>
    simp only [hg, Option.bind_some] at h ⊢
    by_cases hlt : g < w.heap.size
    · rw [f.block g hlt (fun e => e)]; exact h
    · rw [Array.getElem?_eq_none (by omega)] at h
      simp at h
theorem grow_below (w : World) (n : Nat) (os : Array Obj) : Below w.heap.size w (grow (w.drewN n) os) := by
  refine ⟨rfl, rfl, rfl, ?_, fun k hk => ?_⟩
  · show w.heap.size ≤ (w.heap ++ os).size
    rw [Array.size_append]; exact Nat.le_add_right _ _
  · show (w.heap ++ os)[k]? = _
    rw [Array.getElem?_append_left hk]
/-! Digits. -/
def digS (n : Int) : List UInt8 := if n < 0 then [] else Lib.decDigits n.toNat
def isDig (c : UInt8) : Bool := decide (48 ≤ c.toNat) && decide (c.toNat ≤ 57)
def valN (l : List UInt8) : Nat := l.foldl (fun a c => 10 * a + (c.toNat - 48)) 0
def badN (l : List UInt8) : Bool := decide (l.length < 1) || decide (15 < l.length) || (decide (1 < l.length) && l.getD 0 0 == 48)
def numW (l : List UInt8) : Int × Int := if badN l = true then (0, 12) else if l.all isDig = true then ((valN l : Nat), 0) else (0, 12)
theorem numW_bad {l : List UInt8} (h : badN l = true) : numW l = (0, 12) := by rw [numW, if_pos h]
theorem numW_not {l : List UInt8} (h : l.all isDig = false) : numW l = (0, 12) := by
  rw [numW]
  split
  · rfl
  · rw [if_neg (by rw [h]; decide)]
theorem numW_ok {l : List UInt8} (h : badN l = false) (h2 : l.all isDig = true) : numW l = (((valN l : Nat) : Int), (0 : Int)) := by rw [numW, if_neg (by rw [h]; decide), if_pos h2]
theorem valN_snoc (l : List UInt8) (c : UInt8) : valN (l ++ [c]) = 10 * valN l + (c.toNat - 48) := by simp [valN, List.foldl_append]
theorem fold_lt : ∀ (l : List UInt8) (a : Nat), l.all isDig = true → l.foldl (fun a c => 10 * a + (c.toNat - 48)) a < (a + 1) * 10 ^ l.length
  | [], a, _ => by simp
  | c :: l, a, h => by
    rw [List.all_cons, Bool.and_eq_true] at h
    have h2 := h.1
    simp only [isDig, Bool.and_eq_true, decide_eq_true_eq] at h2
    have h1 := fold_lt l (10 * a + (c.toNat - 48)) h.2
    rw [List.foldl_cons, List.length_cons, Nat.pow_succ]
    refine Nat.lt_of_lt_of_le h1 ?_
    rw [Nat.mul_comm (10 ^ l.length) 10, ← Nat.mul_assoc]
    exact Nat.mul_le_mul_right _ (by omega)
theorem valN_lt (l : List UInt8) (h : l.all isDig = true) : valN l < 10 ^ l.length := by
  have := fold_lt l 0 h
  simpa [valN] using this
theorem valN_small {l : List UInt8} (h : l.all isDig = true) (hl : l.length ≤ 14) : valN l < 100000000000000 :=
  Nat.lt_of_lt_of_le (valN_lt l h) (Nat.pow_le_pow_right (by decide) hl)
theorem valN_range {l : List UInt8} (h : l.all isDig = true) (hl : l.length ≤ 15) : valN l < 1000000000000000 :=
  Nat.lt_of_lt_of_le (valN_lt l h) (Nat.pow_le_pow_right (by decide) hl)
theorem all_take_step {l : List UInt8} {k : Nat} (hk : k < l.length) (h : (l.take k).all isDig = true) (hc : isDig (l.getD k 0) = true) : (l.take (k + 1)).all isDig = true := by
  rw [take_snoc l k hk, List.all_append, h]; simp; simpa using hc
theorem not_all {l : List UInt8} {k : Nat} (hk : k < l.length) (hc : isDig (l.getD k 0) = false) : l.all isDig = false := by
  cases h : l.all isDig with
  | false => rfl
  | true =>
    rw [List.all_eq_true] at h
    have := h (l.getD k 0) (by rw [List.getD_eq_getElem?_getD, List.getElem?_eq_getElem hk]; exact List.getElem_mem _)
    rw [hc] at this; cases this
end Go.Proofs.YtkaeoflgnnlbeaaGreatDoor
/- What is proved: beginnings of texts, by the library. Conditions: the texts are not too long for any machine. -/
namespace Go.Proofs.YtkaeoflgnnlbeaaGreatDoor
open Go.RowKit
set_option linter.unusedVariables false
theorem pre_take (p s : List UInt8) : p.isPrefixOf s = (decide (p.length ≤ s.length) && s.take p.length == p) := by
  rw [Bool.eq_iff_iff, List.isPrefixOf_iff_prefix, Bool.and_eq_true, decide_eq_true_eq, beq_iff_eq]
  constructor
  · rintro ⟨t, rfl⟩; simp
  · rintro ⟨_, h⟩
    have := List.take_append_drop p.length s
    rw [h] at this
    exact ⟨s.drop p.length, this⟩
set_option maxHeartbeats 1000000 in
set_option maxRecDepth 100000 in
theorem GsHasPrefix_any (s p : List UInt8) (hs : s.length ≤ 9223372036854775806) (hp : p.length ≤ 9223372036854775806) (w : World) : Calls Tryz.prog 204 #[.string (strB s), .string (strB p)] w fun e w' => e = .returned (.bool (p.isPrefixOf s)) ∧ w = w' := by
  rw [pre_take]
  have hss := strB_size s
  have hsp := strB_size p
  by_cases h : p.length ≤ s.length
  · have hsl := fun w => slice_to (P := Tryz.prog) w Tryz.underlying9 s p.length h
    have hc := str_eq (s.take p.length) p
    rw [decide_eq_true h, Bool.true_and]
    obtain ⟨b, hb⟩ : ∃ b, (s.take p.length == p) = b := ⟨_, rfl⟩
    rw [hb] at hc ⊢
    obtain ⟨S, hS⟩ : ∃ S, strB s = S := ⟨_, rfl⟩
    obtain ⟨T, hT⟩ : ∃ S, strB p = S := ⟨_, rfl⟩
    obtain ⟨U, hU⟩ : ∃ S, strB (s.take p.length) = S := ⟨_, rfl⟩
    rw [hS] at hss hsl ⊢
    rw [hT] at hsp hc ⊢
    rw [hU] at hsl hc
    obtain ⟨n, hn⟩ : ∃ n, s.length = n := ⟨_, rfl⟩
    obtain ⟨m, hm⟩ : ∃ n, p.length = n := ⟨_, rfl⟩
    rw [hn] at hss hs h
    rw [hm] at hsp hp h hsl
    clear hb hS hT hU hn hm
    have hi : (m : Int) ≤ n := by omega
    go_enter Tryz.func204, Tryz.ntmps204
    cases b
    · have hne : ¬ U.toList = T.toList := by simpa using hc
      go_wp2
      go_ret
      exact ⟨rfl, rfl⟩
    · have hne : U.toList = T.toList := by simpa using hc
      go_wp2
      go_ret
      exact ⟨rfl, rfl⟩
  · rw [decide_eq_false h, Bool.false_and]
    have hi : ¬ (p.length : Int) ≤ s.length := by omega
    obtain ⟨S, hS⟩ : ∃ S, strB s = S := ⟨_, rfl⟩
    obtain ⟨T, hT⟩ : ∃ S, strB p = S := ⟨_, rfl⟩
    rw [hS] at hss ⊢
    rw [hT] at hsp ⊢
    clear hS hT
    go_enter Tryz.func204, Tryz.ntmps204
    go_wp2
    go_ret
    exact ⟨rfl, rfl⟩
set_option maxHeartbeats 1000000 in
set_option maxRecDepth 100000 in
theorem GHasPrefix_any (s p : List UInt8) (hs : s.length ≤ 9223372036854775806) (hp : p.length ≤ 9223372036854775806) (w : World) : Calls Tryz.prog 185 #[.string (strB s), .string (strB p)] w fun e w' => e = .returned (.bool (p.isPrefixOf s)) ∧ w = w' := by
  have hc := Lib.hid (fun w => GsHasPrefix_any s p hs hp w)
  obtain ⟨b, hb⟩ : ∃ b, p.isPrefixOf s = b := ⟨_, rfl⟩
  rw [hb] at hc ⊢
  clear hb
  go_enter Tryz.func185, Tryz.ntmps185
  go_wp2_with (go_at_call 204; refine (hc.out _).mono ?_; rintro e w' ⟨rfl, rfl⟩)
  go_ret
  exact ⟨rfl, rfl⟩
/-- What is left behind a beginning. -/
def cutB (s p : List UInt8) : List UInt8 := if p.isPrefixOf s then s.drop p.length else s
set_option maxHeartbeats 1000000 in
set_option maxRecDepth 100000 in
theorem GsCutPrefix_any (s p : List UInt8) (hs : s.length ≤ 9223372036854775806) (hp : p.length ≤ 9223372036854775806) (w : World) : Calls Tryz.prog 206 #[.string (strB s), .string (strB p)] w fun e w' => e = .returned (.tuple #[.string (strB (cutB s p)), .bool (p.isPrefixOf s)]) ∧ w = w' := by
  have hc := Lib.hid (fun w => GsHasPrefix_any s p hs hp w)
  have hss := strB_size s
  have hsp := strB_size p
  have hle : p.isPrefixOf s = true → p.length ≤ s.length := fun h => by
    rw [pre_take, Bool.and_eq_true, decide_eq_true_eq] at h
    exact h.1
  have hT : p.isPrefixOf s = true → ∀ w, (Instr.slice 9 (.string (strB s)) (some (.int .i64 p.length)) none none).run Tryz.prog w = .ok (.string (strB (cutB s p))) w := fun h w => by
    rw [cutB, if_pos h]
    exact slice_from (P := Tryz.prog) w Tryz.underlying9 s p.length (hle h)
  have hF : p.isPrefixOf s = false → strB (cutB s p) = strB s := fun h => by rw [cutB, if_neg (by rw [h]; decide)]
  obtain ⟨b, hb⟩ : ∃ b, p.isPrefixOf s = b := ⟨_, rfl⟩
  rw [hb] at hc hle hT hF ⊢
  obtain ⟨S, hS⟩ : ∃ S, strB s = S := ⟨_, rfl⟩
  obtain ⟨T, hT'⟩ : ∃ S, strB p = S := ⟨_, rfl⟩
  obtain ⟨U, hU⟩ : ∃ S, strB (cutB s p) = S := ⟨_, rfl⟩
  rw [hS] at hc hss hT hF ⊢
  rw [hT'] at hc hsp ⊢
  rw [hU] at hT hF ⊢
  clear hb hS hT' hU
  go_enter Tryz.func206, Tryz.ntmps206
  cases b
  · have hF := hF rfl
    subst hF
    clear hT hle
    go_wp2_with (go_at_call 204; refine (hc.out _).mono ?_; rintro e w' ⟨rfl, rfl⟩)
    go_ret2
    exact ⟨rfl, rfl⟩
  · have hT := hT rfl
    have hle := hle rfl
    clear hF
    go_wp2_with (go_at_call 204; refine (hc.out _).mono ?_; rintro e w' ⟨rfl, rfl⟩)
    go_ret2
    exact ⟨rfl, rfl⟩
set_option maxHeartbeats 1000000 in
set_option maxRecDepth 100000 in
theorem GCutPrefix_any (s p : List UInt8) (hs : s.length ≤ 9223372036854775806) (hp : p.length ≤ 9223372036854775806) (w : World) : Calls Tryz.prog 188 #[.string (strB s), .string (strB p)] w fun e w' => e = .returned (.tuple #[.string (strB (cutB s p)), .bool (p.isPrefixOf s)]) ∧ w = w' := by
  have hc := Lib.hid (fun w => GsCutPrefix_any s p hs hp w)
  obtain ⟨b, hb⟩ : ∃ b, p.isPrefixOf s = b := ⟨_, rfl⟩
  rw [hb] at hc ⊢
  clear hb
  go_enter Tryz.func188, Tryz.ntmps188
  go_wp2_with (go_at_call 206; refine (hc.out _).mono ?_; rintro e w' ⟨rfl, rfl⟩)
  go_ret2
  exact ⟨rfl, rfl⟩
end Go.Proofs.YtkaeoflgnnlbeaaGreatDoor
/- What is proved: decimal digits and numbers, by the program and by the document. Conditions: the library's table lies as its text lays it (where the program writes digits). -/
namespace Go.Proofs.YtkaeoflgnnlbeaaGreatDoor
open Go.RowKit Go.Sort Go.Shelf
set_option linter.unusedVariables false
theorem GItoa_any (n : Nat) (h1 : n ≤ 9223372036854775807) (w : World) (ht : Tab10 w) : Calls Tryz.prog 133 #[.int .i64 n] w fun e w' => e = .returned (.string (strB (Lib.decDigits n))) ∧ Below w.heap.size w w' := by
  have h := Any.strconv_Itoa itoaL (n : Int) (by omega) (by omega) w ht
  refine h.mono ?_
  rintro e w' ⟨rfl, k, os, rfl⟩
  refine ⟨?_, grow_below w k os⟩
  rw [show Lib.itoa (n : Int) = Lib.decDigits n by rw [Lib.itoa, if_neg (by omega), Int.toNat_natCast]]
  rfl
set_option maxHeartbeats 1000000 in
set_option maxRecDepth 100000 in
theorem VDigits_any (n : Int) (h1 : n ≤ 9223372036854775807) (w : World) (ht : Tab10 w) : Calls Tryz.prog 107 #[.int .i64 n] w fun e w' => e = .returned (.string (strB (digS n))) ∧ Below w.heap.size w w' := by
  by_cases h0 : n < 0
  · have hd : strB (digS n) = ByteArray.mk #[] := by rw [digS, if_pos h0]; rfl
    rw [hd]
    go_enter Tryz.func107, Tryz.ntmps107
    go_wp2_with fail
    go_ret
    exact ⟨rfl, (Fr.refl (fun _ => False) w).below (fun _ _ e => e)⟩
  · obtain ⟨m, rfl⟩ : ∃ m : Nat, n = m := ⟨n.toNat, by omega⟩
    have hd : digS (m : Int) = Lib.decDigits m := by rw [digS, if_neg h0, Int.toNat_natCast]
    rw [hd]
    have hc := Lib.hid (GItoa_any m (by omega) w ht)
    obtain ⟨S, hS⟩ : ∃ S, strB (Lib.decDigits m) = S := ⟨_, rfl⟩
    rw [hS] at hc ⊢
    clear hS hd ht
    go_enter Tryz.func107, Tryz.ntmps107
    go_wp2_with (go_at_call 133; refine hc.out.mono ?_; rintro e w' ⟨rfl, bb⟩)
    go_ret
    exact ⟨rfl, bb⟩
end Go.Proofs.YtkaeoflgnnlbeaaGreatDoor
/- What is proved: numbers out of texts, by the program and by the document; whether a text is too long, a number a time. Conditions: the text is not too long for any machine. -/
namespace Go.Proofs.YtkaeoflgnnlbeaaGreatDoor
open Go.RowKit Go.Sort Go.Shelf
set_option linter.unusedVariables false
theorem badN_nil : badN [] = true := by decide
theorem badN_long {l : List UInt8} (h : 15 < l.length) : badN l = true := by simp [badN, h]
theorem badN_zero {l : List UInt8} (h : 1 < l.length) (h2 : l.getD 0 0 = 48) : badN l = true := by
  unfold badN
  rw [decide_eq_true h, h2]
  simp
theorem badN_not {l : List UInt8} (h : 1 ≤ l.length) (h2 : l.length ≤ 15) (h3 : 1 < l.length → l.getD 0 0 ≠ 48) : badN l = false := by
  unfold badN
  rw [decide_eq_false (by omega), decide_eq_false (by omega)]
  by_cases h1 : 1 < l.length
  · rw [decide_eq_true h1]
    have := h3 h1
    simp only [Bool.false_or, Bool.true_and, beq_eq_false_iff_ne]
    exact this
  · rw [decide_eq_false h1]; rfl
theorem isDig_iff (c : UInt8) : isDig c = true ↔ 48 ≤ c.toNat ∧ c.toNat ≤ 57 := by simp [isDig]
theorem byte_48 {c : UInt8} (h : (c.toNat : Int) = 48) : c = 48 := UInt8.toNat_inj.1 (by show _ = 48; omega)
theorem wrap_n (k : Nat) (h : k ≤ 9223372036854775807) : IntKind.i64.wrap (k : Int) = k := by rw [IntKind.wrap_i64]; omega
set_option maxHeartbeats 3200000 in
set_option maxRecDepth 100000 in
theorem VNumber_any (l : List UInt8) (hl : l.length ≤ 9223372036854775806) (w : World) : Calls Tryz.prog 187 #[.string (strB l)] w fun e w' => e = .returned (.tuple #[.int .i64 (numW l).1, .int .i64 (numW l).2]) ∧ w = w' := by
  have HIX := Lib.hid (fun k hk w => index_str (P := Tryz.prog) w Tryz.underlying9 l k hk)
  have hsz := strB_size l
  have hL := strB_list l
  obtain ⟨W, hW⟩ : ∃ W, numW l = W := ⟨_, rfl⟩
  have HNot := Lib.hid (fun k hk hc => (numW_not (not_all (l := l) (k := k) hk hc)).symm.trans hW)
  have HB1 := Lib.hid (fun h => (numW_bad (l := l) h).symm.trans hW)
  have HOk := Lib.hid (fun h h2 => (numW_ok (l := l) h h2).symm.trans hW)
  rw [hW]
  obtain ⟨n, hn⟩ : ∃ n, l.length = n := ⟨_, rfl⟩
  have HLn := Lib.hid hn
  obtain ⟨S, hS⟩ : ∃ S, strB l = S := ⟨_, rfl⟩
  rw [hS] at HIX hsz hL ⊢
  rw [hn] at HIX HNot hsz hl
  clear hS hW hn
  go_enter Tryz.func187, Tryz.ntmps187
  by_cases h0 : l = []
  · have HBad := Lib.hid (HB1.out (by rw [h0]; exact badN_nil))
    have hn0 : n = 0 := by have := HLn.out; rw [h0] at this; exact this.symm
    subst hn0
    subst h0
    clear HB1 HOk HNot HIX HLn
    go_wp2_with fail
    go_ret2
    exact ⟨by rw [← HBad.out]; rfl, rfl⟩
  · have hn1 : 1 ≤ n := by rw [← HLn.out]; exact List.length_pos_iff.2 h0
    have e3 : l.isEmpty = false := by simpa using h0
    by_cases h15 : 15 < n
    · have hz15 : (15 : Int) < n := by omega
      have HBad := Lib.hid (HB1.out (badN_long (by rw [HLn.out]; exact h15)))
      clear HB1 HOk HNot HIX
      go_wp2_with fail
      go_ret2
      exact ⟨by rw [← HBad.out]; rfl, rfl⟩
    · have hz15 : ¬ (15 : Int) < n := by omega
      have hix0 := fun w => HIX.out 0 (by omega) w
      rw [show ((0 : Nat) : Int) = 0 from rfl] at hix0
      obtain ⟨c, hc⟩ : ∃ c : Int, ((l.getD 0 0).toNat : Int) = c := ⟨_, rfl⟩
      rw [hc] at hix0
      by_cases hbz : 1 < n ∧ c = 48
      · have hz1 : (1 : Int) < n := by omega
        have HBad := Lib.hid (HB1.out (badN_zero (by rw [HLn.out]; exact hbz.1) (byte_48 (by omega))))
        obtain ⟨_, hc48⟩ := hbz
        subst hc48
        clear HB1 HOk HNot HIX hc
        go_wp2_with fail
        go_ret2
        exact ⟨by rw [← HBad.out]; rfl, rfl⟩
      · have HOK2 := Lib.hid (HOk.out (badN_not (by rw [HLn.out]; exact hn1) (by rw [HLn.out]; omega) (fun h1 h2 => hbz ⟨by rw [← HLn.out]; exact h1, by rw [← hc, h2]; rfl⟩)))
        clear HB1 HOk hc
        by_cases h1 : 1 < n
        · have hz1 : (1 : Int) < n := by omega
          have hc48 : ¬ c = 48 := fun e => hbz ⟨h1, e⟩
          clear hbz
          go_wp2_with fail
          clear hix0 hc48
          (
            go_loopg [4, 25] n (fun kx s4 s25 wr => ∃ k v : Nat, s25 = .int .i64 k ∧ s4 = .int .i64 v ∧ k ≤ n ∧ n - k ≤ kx ∧ w = wr ∧ Hid ((l.take k).all isDig = true) ∧ Hid (valN (l.take k) = v))
            case atStart => exact ⟨0, 0, rfl, rfl, by omega, by omega, rfl, Lib.hid (by simp), Lib.hid (by rfl)⟩
            case round =>
              obtain ⟨k, v, rfl, rfl, hk, hkx, rfl, HD, HV⟩ := hrel
              by_cases hlt : k < n
              · have hixk := fun w => HIX.out k hlt w
                have hv := valN_small HD.out (by rw [List.length_take]; omega)
                rw [HV.out] at hv
                have HVS : Hid (valN (l.take (k + 1)) = 10 * v + ((l.getD k 0).toNat - 48)) := Lib.hid (by rw [take_snoc l k (by rw [HLn.out]; exact hlt), valN_snoc, HV.out])
                have HDS := Lib.hid (fun hc => all_take_step (l := l) (k := k) (by rw [HLn.out]; exact hlt) HD.out hc)
                have HNk := Lib.hid (HNot.out k hlt)
                have HDi := Lib.hid (isDig_iff (l.getD k 0))
                obtain ⟨x, hx⟩ : ∃ x, l.getD k 0 = x := ⟨_, rfl⟩
                rw [hx] at hixk HVS HDS HNk HDi
                obtain ⟨cn, hcn⟩ : ∃ cn : Nat, x.toNat = cn := ⟨_, rfl⟩
                have hcb : cn ≤ 255 := by have := x.toNat_lt; omega
                rw [hcn] at hixk HVS HDi
                obtain ⟨c, hc⟩ : ∃ c : Int, ((cn : Nat) : Int) = c := ⟨_, rfl⟩
                rw [hc] at hixk
                have HCn := Lib.hid hc
                have hc0 : 0 ≤ c := by omega
                have hc1 : c ≤ 255 := by omega
                have wk : IntKind.i64.wrap (k : Int) = k := wrap_n k (by omega)
                by_cases c1 : c < 48
                · have HBad := Lib.hid (HNk.out (by
                    cases hd : isDig x with
                    | false => rfl
                    | true => have := HDi.out.1 hd; have := HCn.out; omega))
                  clear hc hcn hx hcb
                  go_wp2_with fail
                  (try simp only [Exit.inBlock, Exit.then])
                  go_ret2
                  exact ⟨by rw [← HBad.out]; rfl, rfl⟩
                · by_cases c2 : 57 < c
                  · have HBad := Lib.hid (HNk.out (by
                      cases hd : isDig x with
                      | false => rfl
                      | true => have := HDi.out.1 hd; have := HCn.out; omega))
                    clear hc hcn hx hcb
                    go_wp2_with fail
                    (try simp only [Exit.inBlock, Exit.then])
                    go_ret2
                    exact ⟨by rw [← HBad.out]; rfl, rfl⟩
                  · have HDg := Lib.hid (HDi.out.2 (by have := HCn.out; omega))
                    have u1 : IntKind.u8.wrap (c - 48) = c - 48 := by rw [IntKind.wrap_u8]; omega
                    have u2 : IntKind.i64.wrap (c - 48) = c - 48 := by rw [IntKind.wrap_i64]; omega
                    have u3 : IntKind.i64.wrap (10 * (v : Int)) = 10 * (v : Int) := by rw [IntKind.wrap_i64]; omega
                    have u4 : IntKind.i64.wrap (10 * (v : Int) + (c - 48)) = 10 * (v : Int) + (c - 48) := by rw [IntKind.wrap_i64]; omega
                    have HNum : Hid (10 * (v : Int) + (c - 48) = ((10 * v + (cn - 48) : Nat) : Int)) := Lib.hid (by have := HCn.out; omega)
                    clear hc hcn hx hcb hv
                    go_wp2_with fail
                    go_roundg (n - (k + 1))
                    case measure => omega
                    case rel => exact ⟨k + 1, 10 * v + (cn - 48), by go_num, by rw [HNum.out], by omega, Nat.le_refl _, rfl, Lib.hid (HDS.out HDg.out), HVS⟩
              · obtain rfl : k = n := by omega
                have hall : l.take k = l := List.take_of_length_le (by rw [HLn.out]; exact Nat.le_refl _)
                have hd := HD.out
                have hv := HV.out
                rw [hall] at hd hv
                have HW := Lib.hid (HOK2.out hd)
                rw [hv] at HW
                clear hall hd hv HD HV
                go_wp2_with fail
                go_ret2
                exact ⟨by rw [← HW.out]; rfl, rfl⟩)
        · have hz1 : ¬ (1 : Int) < n := by omega
          clear hbz
          go_wp2_with fail
          clear hix0
          (
            go_loopg [4, 25] n (fun kx s4 s25 wr => ∃ k v : Nat, s25 = .int .i64 k ∧ s4 = .int .i64 v ∧ k ≤ n ∧ n - k ≤ kx ∧ w = wr ∧ Hid ((l.take k).all isDig = true) ∧ Hid (valN (l.take k) = v))
            case atStart => exact ⟨0, 0, rfl, rfl, by omega, by omega, rfl, Lib.hid (by simp), Lib.hid (by rfl)⟩
            case round =>
              obtain ⟨k, v, rfl, rfl, hk, hkx, rfl, HD, HV⟩ := hrel
              by_cases hlt : k < n
              · have hixk := fun w => HIX.out k hlt w
                have hv := valN_small HD.out (by rw [List.length_take]; omega)
                rw [HV.out] at hv
                have HVS : Hid (valN (l.take (k + 1)) = 10 * v + ((l.getD k 0).toNat - 48)) := Lib.hid (by rw [take_snoc l k (by rw [HLn.out]; exact hlt), valN_snoc, HV.out])
                have HDS := Lib.hid (fun hc => all_take_step (l := l) (k := k) (by rw [HLn.out]; exact hlt) HD.out hc)
                have HNk := Lib.hid (HNot.out k hlt)
                have HDi := Lib.hid (isDig_iff (l.getD k 0))
                obtain ⟨x, hx⟩ : ∃ x, l.getD k 0 = x := ⟨_, rfl⟩
                rw [hx] at hixk HVS HDS HNk HDi
                obtain ⟨cn, hcn⟩ : ∃ cn : Nat, x.toNat = cn := ⟨_, rfl⟩
                have hcb : cn ≤ 255 := by have := x.toNat_lt; omega
                rw [hcn] at hixk HVS HDi
                obtain ⟨c, hc⟩ : ∃ c : Int, ((cn : Nat) : Int) = c := ⟨_, rfl⟩
                rw [hc] at hixk
                have HCn := Lib.hid hc
                have hc0 : 0 ≤ c := by omega
                have hc1 : c ≤ 255 := by omega
                have wk : IntKind.i64.wrap (k : Int) = k := wrap_n k (by omega)
                by_cases c1 : c < 48
                · have HBad := Lib.hid (HNk.out (by
                    cases hd : isDig x with
                    | false => rfl
                    | true => have := HDi.out.1 hd; have := HCn.out; omega))
                  clear hc hcn hx hcb
                  go_wp2_with fail
                  (try simp only [Exit.inBlock, Exit.then])
                  go_ret2
                  exact ⟨by rw [← HBad.out]; rfl, rfl⟩
                · by_cases c2 : 57 < c
                  · have HBad := Lib.hid (HNk.out (by
                      cases hd : isDig x with
                      | false => rfl
                      | true => have := HDi.out.1 hd; have := HCn.out; omega))
                    clear hc hcn hx hcb
                    go_wp2_with fail
                    (try simp only [Exit.inBlock, Exit.then])
                    go_ret2
                    exact ⟨by rw [← HBad.out]; rfl, rfl⟩
                  · have HDg := Lib.hid (HDi.out.2 (by have := HCn.out; omega))
                    have u1 : IntKind.u8.wrap (c - 48) = c - 48 := by rw [IntKind.wrap_u8]; omega
                    have u2 : IntKind.i64.wrap (c - 48) = c - 48 := by rw [IntKind.wrap_i64]; omega
                    have u3 : IntKind.i64.wrap (10 * (v : Int)) = 10 * (v : Int) := by rw [IntKind.wrap_i64]; omega
                    have u4 : IntKind.i64.wrap (10 * (v : Int) + (c - 48)) = 10 * (v : Int) + (c - 48) := by rw [IntKind.wrap_i64]; omega
                    have HNum : Hid (10 * (v : Int) + (c - 48) = ((10 * v + (cn - 48) : Nat) : Int)) := Lib.hid (by have := HCn.out; omega)
                    clear hc hcn hx hcb hv
                    go_wp2_with fail
                    go_roundg (n - (k + 1))
                    case measure => omega
                    case rel => exact ⟨k + 1, 10 * v + (cn - 48), by go_num, by rw [HNum.out], by omega, Nat.le_refl _, rfl, Lib.hid (HDS.out HDg.out), HVS⟩
              · obtain rfl : k = n := by omega
                have hall : l.take k = l := List.take_of_length_le (by rw [HLn.out]; exact Nat.le_refl _)
                have hd := HD.out
                have hv := HV.out
                rw [hall] at hd hv
                have HW := Lib.hid (HOK2.out hd)
                rw [hv] at HW
                clear hall hd hv HD HV
                go_wp2_with fail
                go_ret2
                exact ⟨by rw [← HW.out]; rfl, rfl⟩)
set_option maxHeartbeats 1000000 in
theorem VisLong_any (l : List UInt8) (hl : l.length ≤ 9223372036854775806) (w : World) : Calls Tryz.prog 171 #[.string (strB l)] w fun e w' => e = .returned (.bool (decide (400 < l.length))) ∧ w = w' := by
  have hsz := strB_size l
  obtain ⟨n, hn⟩ : ∃ n, l.length = n := ⟨_, rfl⟩
  obtain ⟨S, hS⟩ : ∃ S, strB l = S := ⟨_, rfl⟩
  rw [hS, hn] at hsz
  rw [hS, hn]
  clear hS hn hl
  go_enter Tryz.func171, Tryz.ntmps171
  go_wp2_with fail
  go_ret
  refine ⟨ret_bool ?_, rfl⟩
  show decide ((400 : Int) < (n : Int)) = decide (400 < n)
  rw [decide_eq_decide]
  omega
def timeB (n : Int) : Bool := decide (0 ≤ n) && decide (n ≤ 1099511627776)
set_option maxHeartbeats 1000000 in
theorem VisTime_any (n : Int) (w : World) : Calls Tryz.prog 173 #[.int .i64 n] w fun e w' => e = .returned (.bool (timeB n)) ∧ w = w' := by
  by_cases h0 : 0 ≤ n
  · by_cases h1 : n ≤ 1099511627776
    · have hr : timeB n = true := by rw [timeB, decide_eq_true h0, decide_eq_true h1]; rfl
      rw [hr]
      clear hr
      go_enter Tryz.func173, Tryz.ntmps173
      go_wp2_with fail
      go_ret
      exact ⟨rfl, rfl⟩
    · have hr : timeB n = false := by rw [timeB, decide_eq_false h1, Bool.and_false]
      rw [hr]
      clear hr
      go_enter Tryz.func173, Tryz.ntmps173
      go_wp2_with fail
      go_ret
      exact ⟨rfl, rfl⟩
  · have hr : timeB n = false := by rw [timeB, decide_eq_false h0, Bool.false_and]
    rw [hr]
    clear hr
    go_enter Tryz.func173, Tryz.ntmps173
    go_wp2_with fail
    go_ret
    exact ⟨rfl, rfl⟩
end Go.Proofs.YtkaeoflgnnlbeaaGreatDoor
/- What is proved: a text is cut at the first byte 10, by the library; what a line of a word is, plain. Conditions: the text is not too long for any machine. -/
namespace Go.Proofs.YtkaeoflgnnlbeaaGreatDoor
open Go.RowKit Go.Sort Go.Shelf
set_option linter.unusedVariables false
/-- Where the first byte 10 stands. -/
def idx10 (l : List UInt8) : Int := Lib.indexByte l 10
def lnA (l : List UInt8) : List UInt8 := if 0 ≤ idx10 l then l.take (idx10 l).toNat else l
def lnB (l : List UInt8) : List UInt8 := if 0 ≤ idx10 l then l.drop ((idx10 l).toNat + 1) else []
def has10 (l : List UInt8) : Bool := decide (0 ≤ idx10 l)
theorem idx10_cases (l : List UInt8) : (idx10 l = -1 ∧ (∀ b ∈ l, b ≠ 10) ∧ has10 l = false ∧ lnA l = l ∧ lnB l = []) ∨ ∃ m : Nat, idx10 l = m ∧ m < l.length ∧ l = l.take m ++ 10 :: l.drop (m + 1) ∧ (∀ b ∈ l.take m, b ≠ 10) ∧ has10 l = true ∧ lnA l = l.take m ∧ lnB l = l.drop (m + 1) := by
  have hge := Lib.indexByte_ge l 10
  by_cases h : idx10 l = -1
  · left
    refine ⟨h, fun b hb e => ?_, by rw [has10, h]; rfl, by rw [lnA, if_neg (by omega)], by rw [lnB, if_neg (by omega)]⟩
    obtain ⟨j, hj, rfl⟩ := List.getElem_of_mem hb
    exact Lib.indexByte_none h j (by rw [List.getElem?_eq_getElem hj, e])
  · right
    have hge' : -1 ≤ idx10 l := hge
    obtain ⟨m, hm⟩ : ∃ m : Nat, idx10 l = m := ⟨(idx10 l).toNat, by omega⟩
    obtain ⟨h1, h2⟩ := Lib.indexByte_some (show Lib.indexByte l 10 = (m : Nat) from hm)
    obtain ⟨hml, h3⟩ := List.getElem?_eq_some_iff.1 h1
    refine ⟨m, hm, hml, ?_, fun b hb e => ?_, by rw [has10, hm]; simp, by rw [lnA, hm, if_pos (by omega), Int.toNat_natCast], by rw [lnB, hm, if_pos (by omega), Int.toNat_natCast]⟩
    · conv => lhs; rw [← List.take_append_drop m l, List.drop_eq_getElem_cons hml, h3]
    · obtain ⟨j, hj, rfl⟩ := List.getElem_of_mem hb
      rw [List.length_take] at hj
      exact h2 j (by omega) (by rw [List.getElem?_eq_getElem (by omega)]; rw [List.getElem_take] at e; rw [e])
set_option maxHeartbeats 1000000 in
set_option maxRecDepth 100000 in
theorem GsIndex10_any (l : List UInt8) (w : World) :
    Calls Tryz.prog 215 #[.string (strB l), .string (strB [10])] w fun e w' => e = .returned (.int .i64 (idx10 l)) ∧ w = w' := by
  have hc := fun w => GsIndexByte_any (strB l) 10 w
  rw [strB_data] at hc
  have hsz : (strB [10]).size = 1 := rfl
  have hix : ∀ w, (Instr.index 9 (.string (strB [10])) (.int .i64 0)).run Tryz.prog w = .ok (.int .u8 10) w := fun w => index_str (P := Tryz.prog) w Tryz.underlying9 [10] 0 (by decide)
  have e1 : ((strB [10]).toList == (strB l).toList) = ([10] == l) := str_eq _ _
  have H0 : Hid (([10] == l) = true → idx10 l = 0) := Lib.hid (fun h => by rw [← eq_of_beq h]; rfl)
  obtain ⟨S, hS⟩ : ∃ S, strB [10] = S := ⟨_, rfl⟩
  obtain ⟨T, hT⟩ : ∃ S, strB l = S := ⟨_, rfl⟩
  rw [hS] at hix hsz e1 ⊢
  rw [hT] at hc e1 ⊢
  have hr : idx10 l = Lib.indexByte l (Int.toNat 10).toUInt8 := rfl
  rw [← hr] at hc
  obtain ⟨r, hr'⟩ : ∃ r, idx10 l = r := ⟨_, rfl⟩
  rw [hr'] at hc H0 ⊢
  obtain ⟨b, hb⟩ : ∃ b, ([10] == l) = b := ⟨_, rfl⟩
  rw [hb] at e1 H0
  clear hr hr' hS hT hb
  cases b
  · go_enter Tryz.func215, Tryz.ntmps215
    go_wp2_with (go_at_call 221; refine (hc _).mono ?_; rintro e w' ⟨rfl, rfl⟩)
    go_ret
    exact ⟨rfl, rfl⟩
  · rw [H0.out rfl]
    go_enter Tryz.func215, Tryz.ntmps215
    go_wp2
    go_ret
    exact ⟨rfl, rfl⟩
theorem wrap_n1 (k : Nat) (h : k ≤ 9223372036854775806) : IntKind.i64.wrap ((k : Int) + 1) = (k : Int) + 1 := by rw [IntKind.wrap_i64]; omega
set_option maxHeartbeats 1600000 in
set_option maxRecDepth 100000 in
theorem GslCut_any (l : List UInt8) (hl : l.length ≤ 9223372036854775806) (w : World) :
    Calls Tryz.prog 205 #[.string (strB l), .string (strB [10])] w fun e w' => e = .returned (.tuple #[.string (strB (lnA l)), .string (strB (lnB l)), .bool (has10 l)]) ∧ Below w.heap.size w w' := by
  have hr := Lib.hid (fun w => GsIndex10_any l w)
  have hsz : (strB [10]).size = 1 := rfl
  obtain ⟨T, hT⟩ : ∃ S, strB [10] = S := ⟨_, rfl⟩
  rw [hT] at hr hsz ⊢
  clear hT
  rcases idx10_cases l with ⟨h1, _, h2, h3, h4⟩ | ⟨m, h1, hml, _, _, h2, h3, h4⟩
  · rw [h2, h3, h4]
    rw [h1] at hr
    obtain ⟨S, hS⟩ : ∃ S, strB l = S := ⟨_, rfl⟩
    rw [hS] at hr ⊢
    clear h1 h2 h3 h4 hS hl
    go_enter Tryz.func205, Tryz.ntmps205
    go_wp2_with (go_at_call 215; refine (hr.out _).mono ?_; rintro e w' ⟨rfl, rfl⟩)
    go_ret3
    refine ⟨rfl, ?_⟩
    first | exact (Fr.refl (fun _ => False) w).below (fun _ _ e => e) | exact ((Fr.refl (fun _ => False) w).drew).below (fun _ _ e => e)
  · rw [h2, h3, h4]
    rw [h1] at hr
    have s1 := fun w => slice_to (P := Tryz.prog) w Tryz.underlying9 l m (by omega)
    have s2 : ∀ w, (Instr.slice 9 (.string (strB l)) (some (.int .i64 ((m : Int) + 1))) none none).run Tryz.prog w = .ok (.string (strB (l.drop (m + 1)))) w := fun w => slice_from (P := Tryz.prog) w Tryz.underlying9 l (m + 1) (by omega)
    obtain ⟨S, hS⟩ : ∃ S, strB l = S := ⟨_, rfl⟩
    obtain ⟨S1, hS1⟩ : ∃ S, strB (l.take m) = S := ⟨_, rfl⟩
    obtain ⟨S2, hS2⟩ : ∃ S, strB (l.drop (m + 1)) = S := ⟨_, rfl⟩
    rw [hS] at hr s1 s2 ⊢
    rw [hS1] at s1 ⊢
    rw [hS2] at s2 ⊢
    have hge : (m : Int) ≥ 0 := by omega
    have sc := wrap_n1 m (by omega)
    clear h1 h2 h3 h4 hS hS1 hS2 hl hml
    go_enter Tryz.func205, Tryz.ntmps205
    go_wp2_with (go_at_call 215; refine (hr.out _).mono ?_; rintro e w' ⟨rfl, rfl⟩)
    go_region
    go_wp2
    go_ret3
    refine ⟨rfl, ?_⟩
    first | exact (Fr.refl (fun _ => False) w).below (fun _ _ e => e) | exact ((Fr.refl (fun _ => False) w).drew).below (fun _ _ e => e)
set_option maxHeartbeats 1600000 in
set_option maxRecDepth 100000 in
theorem GstrCut_any (l : List UInt8) (hl : l.length ≤ 9223372036854775806) (w : World) :
    Calls Tryz.prog 186 #[.string (strB l), .string (strB [10])] w fun e w' => e = .returned (.tuple #[.string (strB (lnA l)), .string (strB (lnB l)), .bool (has10 l)]) ∧ Below w.heap.size w w' := by
  have hc := Lib.hid (GslCut_any l hl w)
  obtain ⟨T, hT⟩ : ∃ S, strB [10] = S := ⟨_, rfl⟩
  obtain ⟨S, hS⟩ : ∃ S, strB l = S := ⟨_, rfl⟩
  obtain ⟨S1, hS1⟩ : ∃ S, strB (lnA l) = S := ⟨_, rfl⟩
  obtain ⟨S2, hS2⟩ : ∃ S, strB (lnB l) = S := ⟨_, rfl⟩
  obtain ⟨b, hb⟩ : ∃ b, has10 l = b := ⟨_, rfl⟩
  rw [hT, hS, hS1, hS2, hb] at hc
  rw [hT, hS, hS1, hS2, hb]
  clear hT hS hS1 hS2 hb hl
  go_enter Tryz.func186, Tryz.ntmps186
  go_wp2_with (go_at_call 205; refine hc.out.mono ?_; rintro e w' ⟨rfl, bb⟩)
  go_ret3
  exact ⟨rfl, bb⟩
/-! A line of a word. -/
def begW (word s : List UInt8) : Bool := (word ++ [32]).isPrefixOf s
def takeL (word s : List UInt8) : Option (List UInt8 × List UInt8) := if begW word s && has10 s then some ((lnA s).drop (word.length + 1), lnB s) else none
theorem takeL_some {word s : List UInt8} (h1 : begW word s = true) (h2 : has10 s = true) : takeL word s = some ((lnA s).drop (word.length + 1), lnB s) := by rw [takeL, h1, h2]; rfl
theorem takeL_no {word s : List UInt8} (h1 : begW word s = false) : takeL word s = none := by rw [takeL, h1]; rfl
theorem takeL_none {word s : List UInt8} (h2 : has10 s = false) : takeL word s = none := by rw [takeL, h2, Bool.and_false]; rfl
/-- The line of a word is at least as long as the word and a blank. -/
theorem word_fits {word s : List UInt8} (hw : ∀ b ∈ word, b ≠ 10) (h1 : begW word s = true) (h2 : has10 s = true) : word.length + 1 ≤ (lnA s).length := by
  rcases idx10_cases s with ⟨_, _, h, _⟩ | ⟨m, h1', hml, h3, _, _, h4, _⟩
  · rw [h] at h2; cases h2
  · rw [h4, List.length_take]
    rw [begW, List.isPrefixOf_iff_prefix] at h1
    obtain ⟨t, ht⟩ := h1
    apply Classical.byContradiction
    intro hn
    have hm : m < word.length + 1 := by omega
    have e1 : s[m]? = some 10 := by
      conv => lhs; rw [h3]
      rw [List.getElem?_append_right (by rw [List.length_take]; omega), List.length_take, show m - min m s.length = 0 by omega]
      rfl
    rw [← ht, List.getElem?_append_left (by simp; omega)] at e1
    have := List.mem_of_getElem? e1
    rw [List.mem_append, List.mem_singleton] at this
    rcases this with h | h
    · exact hw _ h rfl
    · cases h
theorem takeL_len {word s t r : List UInt8} (h : takeL word s = some (t, r)) : t.length ≤ s.length ∧ r.length < s.length := by
  unfold takeL at h
  split at h
  · rename_i hb
    rw [Bool.and_eq_true] at hb
    injection h with h
    injection h with ha hr
    subst ha; subst hr
    rcases idx10_cases s with ⟨_, _, h, _⟩ | ⟨m, h1', hml, h3, _, _, h4, h5⟩
    · rw [h] at hb; cases hb.2
    · rw [h4, h5, List.length_drop, List.length_drop, List.length_take]; omega
  · cases h
end Go.Proofs.YtkaeoflgnnlbeaaGreatDoor
/- What is proved: lines are taken one behind the other, by the program, or it gives up by a panic. Conditions: the text is not too long. -/
namespace Go.Proofs.YtkaeoflgnnlbeaaGreatDoor
open Go.RowKit Go.Sort Go.Shelf
set_option linter.unusedVariables false
/-- How a call ends that gives up. -/
abbrev PC : Ending := .panicked [{ v := .iface 27 (.int .i64 12), recovered := false }]
theorem Vneed_yes (w : World) : Calls Tryz.prog 184 #[.bool true] w fun e w' => e = .returned (.tuple #[]) ∧ w = w' := by
  go_enter Tryz.func184, Tryz.ntmps184
  go_wp2
  go_end0
  exact ⟨rfl, rfl⟩
theorem Vneed_no (w : World) : Calls Tryz.prog 184 #[.bool false] w fun e w' => e = PC ∧ w = w' := by
  go_enter Tryz.func184, Tryz.ntmps184
  go_wp2
  exact ⟨rfl, rfl, rfl⟩
/-- What is left to be read lies so. -/
def LinesAt (w : World) (g : Nat) (s : List UInt8) : Prop := Whole w g 249 #[.string (strB s)]
theorem LinesAt.cell {w : World} {g : Nat} {s : List UInt8} (h : LinesAt w g s) : w.cell? ⟨g, 0, none⟩ = some (.string (strB s)) := Whole.cell h 0
theorem LinesAt.frozen {w : World} {g : Nat} {s : List UInt8} (h : LinesAt w g s) : w.frozen? ⟨g, 0, none⟩ = false := Whole.frozen h 0
theorem LinesAt.set {w : World} {g : Nat} {s : List UInt8} (h : LinesAt w g s) (r : List UInt8) : LinesAt (w.setCell ⟨g, 0, none⟩ (.string (strB r))) g r := by
  have := Whole.set h 0 (.string (strB r))
  exact this
theorem LinesAt.fr {w w' : World} {g : Nat} {s : List UInt8} (h : LinesAt w g s) (f : Fr (fun _ => False) w w') : LinesAt w' g s := Whole.fr h f (fun e => e)
theorem fr_set {w w' : World} {g : Nat} (f : Fr (fun _ => False) w w') (u : Value) : Fr (fun k => k = g) w (w'.setCell ⟨g, 0, none⟩ u) :=
  Fr.setCell (S := fun k => k = g) (p := ⟨g, 0, none⟩) (f.mono (fun _ _ e => e.elim)) (fun _ => rfl) u
set_option maxHeartbeats 1000000 in
set_option maxRecDepth 100000 in
theorem Vlbegin_any (g : Nat) (word s : List UInt8) (hw : word.length ≤ 100) (hs : s.length ≤ 1000000) (w : World) (h : LinesAt w g s) :
    Calls Tryz.prog 167 #[.pointer (some ⟨g, 0, none⟩), .string (strB word)] w fun e w' => e = .returned (.bool (begW word s)) ∧ w = w' := by
  have hc := h.cell
  have hp := Lib.hid (fun w => GHasPrefix_any s (word ++ [32]) (by omega) (by simp; omega) w)
  have hadd : ∀ w, (Op.stringOp .add (strB word) (ByteArray.mk #[32])).run Tryz.prog w = .ok (.string (strB (word ++ [32]))) w := fun w => add_str word [32] (by simp; omega) w
  have hb : (word ++ [32]).isPrefixOf s = begW word s := rfl
  rw [hb] at hp
  obtain ⟨b, hb2⟩ : ∃ b, begW word s = b := ⟨_, rfl⟩
  rw [hb2] at hp ⊢
  obtain ⟨S, hS⟩ : ∃ S, strB s = S := ⟨_, rfl⟩
  obtain ⟨W, hW⟩ : ∃ S, strB word = S := ⟨_, rfl⟩
  obtain ⟨X, hX⟩ : ∃ S, strB (word ++ [32]) = S := ⟨_, rfl⟩
  rw [hS] at hc hp
  rw [hX] at hp hadd
  rw [hW] at hadd ⊢
  clear hb hb2 hS hW hX h hs hw
  go_enter Tryz.func167, Tryz.ntmps167
  go_wp2_with (go_at_call 185; refine (hp.out _).mono ?_; rintro e w' ⟨rfl, rfl⟩)
  go_ret
  exact ⟨rfl, rfl⟩
set_option maxHeartbeats 1000000 in
set_option maxRecDepth 100000 in
theorem Vltake_some (g : Nat) (word s t r : List UInt8) (hw : word.length ≤ 100) (hn : ∀ b ∈ word, b ≠ 10) (hs : s.length ≤ 1000000) (ht : takeL word s = some (t, r)) (w : World) (h : LinesAt w g s) :
    Calls Tryz.prog 168 #[.pointer (some ⟨g, 0, none⟩), .string (strB word)] w fun e w' => e = .returned (.string (strB t)) ∧ LinesAt w' g r ∧ Fr (fun k => k = g) w w' := by
  have hb1 : begW word s = true := by
    cases hx : begW word s with
    | true => rfl
    | false => rw [takeL_no hx] at ht; cases ht
  have hb2 : has10 s = true := by
    cases hx : has10 s with
    | true => rfl
    | false => rw [takeL_none hx] at ht; cases ht
  rw [takeL_some hb1 hb2] at ht
  injection ht with ht
  injection ht with ht1 ht2
  have hc := h.cell
  have hz := h.frozen
  have HB := Lib.hid (Vlbegin_any g word s hw hs w h)
  rw [hb1] at HB
  have HC := Lib.hid (GstrCut_any s (by omega) w)
  rw [hb2] at HC
  have HY := Lib.hid (fun w => Vneed_yes w)
  have hfit := word_fits hn hb1 hb2
  obtain ⟨n, hn'⟩ : ∃ n, word.length + 1 = n := ⟨_, rfl⟩
  rw [hn'] at hfit ht1
  have hsl := fun w => slice_from (P := Tryz.prog) w Tryz.underlying9 (lnA s) n hfit
  rw [ht1] at hsl
  have hadd : ∀ w, (Op.stringOp .add (strB word) (ByteArray.mk #[32])).run Tryz.prog w = .ok (.string (strB (word ++ [32]))) w := fun w => add_str word [32] (by simp; omega) w
  have hsz : (strB (word ++ [32])).size = n := by rw [strB_size, List.length_append, List.length_singleton, hn']
  have hn100 : n ≤ 101 := by omega
  have HL := Lib.hid h
  rw [ht2] at HC
  obtain ⟨T, hT⟩ : ∃ S, strB [10] = S := ⟨_, rfl⟩
  have hTc : ByteArray.mk #[10] = T := hT
  obtain ⟨S, hS⟩ : ∃ S, strB s = S := ⟨_, rfl⟩
  obtain ⟨W, hW⟩ : ∃ S, strB word = S := ⟨_, rfl⟩
  obtain ⟨X, hX⟩ : ∃ S, strB (word ++ [32]) = S := ⟨_, rfl⟩
  obtain ⟨S1, hS1⟩ : ∃ S, strB (lnA s) = S := ⟨_, rfl⟩
  have HR : Hid (∀ w', Fr (fun _ => False) w w' → LinesAt (w'.setCell ⟨g, 0, none⟩ (.string (strB r))) g r ∧ Fr (fun k => k = g) w (w'.setCell ⟨g, 0, none⟩ (.string (strB r)))) := Lib.hid (fun w' f => ⟨(h.fr f).set r, fr_set f _⟩)
  have HF : Hid (∀ w', Below w.heap.size w w' → w'.frozen? ⟨g, 0, none⟩ = false) := Lib.hid (fun w' b => (h.fr (Fr.of_below b)).frozen)
  obtain ⟨S2, hS2⟩ : ∃ S, strB r = S := ⟨_, rfl⟩
  obtain ⟨S3, hS3⟩ : ∃ S, strB t = S := ⟨_, rfl⟩
  rw [hT, hS, hS1, hS2] at HC
  rw [hS] at hc
  rw [hW, hX] at hadd
  rw [hX] at hsz
  rw [hW] at HB
  rw [hS1, hS3] at hsl
  rw [hS2] at HR
  rw [hW, hS3]
  have HCB : Hid (∀ w', Below w.heap.size w w' → ∃ u, w'.cell? ⟨g, 0, none⟩ = some u) := Lib.hid (fun w' b => ⟨_, (HL.out.fr (Fr.of_below b)).cell⟩)
  clear hT hS hS1 hS2 hS3 hW hX hfit hn hs hw ht1 ht2 hb1 hb2 h HL hn'
  go_enter Tryz.func168, Tryz.ntmps168
  go_wp2_with (first
    | (go_at_call 167; refine HB.out.mono ?_; rintro e w' ⟨rfl, rfl⟩)
    | (go_at_call 186; refine HC.out.mono ?_; rintro e w2 ⟨rfl, b2⟩
       have hz2 := HF.out _ b2
       obtain ⟨u2, hc2⟩ := HCB.out _ b2)
    | (go_at_call 184; refine (HY.out _).mono ?_; rintro e w' ⟨rfl, rfl⟩))
  go_ret
  exact ⟨rfl, HR.out _ (Fr.of_below b2)⟩
set_option maxHeartbeats 1000000 in
set_option maxRecDepth 100000 in
theorem Vltake_none (g : Nat) (word s : List UInt8) (hw : word.length ≤ 100) (hs : s.length ≤ 1000000) (ht : takeL word s = none) (w : World) (h : LinesAt w g s) :
    Calls Tryz.prog 168 #[.pointer (some ⟨g, 0, none⟩), .string (strB word)] w fun e w' => e = PC ∧ Below w.heap.size w w' := by
  have hc := h.cell
  have HB := Lib.hid (Vlbegin_any g word s hw hs w h)
  have HC := Lib.hid (GstrCut_any s (by omega) w)
  have HY := Lib.hid (fun w => Vneed_yes w)
  have HN := Lib.hid (fun w => Vneed_no w)
  obtain ⟨T, hT⟩ : ∃ S, strB [10] = S := ⟨_, rfl⟩
  have hTc : ByteArray.mk #[10] = T := hT
  obtain ⟨S, hS⟩ : ∃ S, strB s = S := ⟨_, rfl⟩
  obtain ⟨W, hW⟩ : ∃ S, strB word = S := ⟨_, rfl⟩
  obtain ⟨S1, hS1⟩ : ∃ S, strB (lnA s) = S := ⟨_, rfl⟩
  obtain ⟨S2, hS2⟩ : ∃ S, strB (lnB s) = S := ⟨_, rfl⟩
  rw [hT, hS, hS1, hS2] at HC
  rw [hS] at hc
  rw [hW] at HB
  rw [hW]
  clear hT hS hS1 hS2 hW hs hw h
  cases hb1 : begW word s with
  | false =>
    rw [hb1] at HB
    clear ht hb1 HC HY
    go_enter Tryz.func168, Tryz.ntmps168
    go_wp2_with (first
      | (go_at_call 167; refine HB.out.mono ?_; rintro e w' ⟨rfl, rfl⟩)
      | (go_at_call 184; refine (HN.out _).mono ?_; rintro e w' ⟨rfl, rfl⟩))
    exact ⟨rfl, rfl, (Fr.refl (fun _ => False) w).below (fun _ _ e => e)⟩
  | true =>
    have hb2 : has10 s = false := by
      cases hx : has10 s with
      | false => rfl
      | true => rw [takeL_some hb1 hx] at ht; cases ht
    rw [hb1] at HB
    rw [hb2] at HC
    clear ht hb1 hb2
    go_enter Tryz.func168, Tryz.ntmps168
    go_wp2_with (first
      | (go_at_call 167; refine HB.out.mono ?_; rintro e w' ⟨rfl, rfl⟩)
      | (go_at_call 186; refine HC.out.mono ?_; rintro e w2 ⟨rfl, b2⟩)
      | (have _ := b2; go_at_call 184; refine (HN.out _).mono ?_; rintro e w' ⟨rfl, rfl⟩)
      | (go_at_call 184; refine (HY.out _).mono ?_; rintro e w' ⟨rfl, rfl⟩))
    exact ⟨rfl, rfl, b2⟩
/-! An id, a number, a digit, a text. -/
def readI (t : List UInt8) : Option Nat := if Ids.rdE (strB t) = 0 then some (Ids.nu (Ids.rdA (strB t))) else none
def idL (word s : List UInt8) : Option (Nat × List UInt8) := match takeL word s with | none => none | some (t, r) => match readI t with | none => none | some n => some (n, r)
def readN (t : List UInt8) : Option Nat := if (numW t).2 = 0 then some (valN t) else none
def numL (word s : List UInt8) : Option (Nat × List UInt8) := match takeL word s with | none => none | some (t, r) => match readN t with | none => none | some n => some (n, r)
def digL (word s : List UInt8) : Option (Nat × List UInt8) := match numL word s with | none => none | some (n, r) => if n < 10 then some (n, r) else none
def textL (s : List UInt8) : Option (List UInt8) := if [10].isPrefixOf s then some (s.drop 1) else none
theorem numW_cases (t : List UInt8) : (readN t = some (valN t) ∧ numW t = (((valN t : Nat) : Int), (0 : Int)) ∧ valN t < 1000000000000000) ∨ (readN t = none ∧ ∃ x : Int, numW t = (0, 12)) := by
  by_cases hb : badN t = true
  · right
    have := numW_bad hb
    exact ⟨by rw [readN, this]; rfl, 0, this⟩
  · have hb : badN t = false := by simpa using hb
    cases ha : t.all isDig with
    | false =>
      right
      have := numW_not ha
      exact ⟨by rw [readN, this]; rfl, 0, this⟩
    | true =>
      left
      have := numW_ok hb ha
      refine ⟨by rw [readN, this]; rfl, this, valN_range ha ?_⟩
      apply Classical.byContradiction
      intro hl
      rw [badN_long (by omega)] at hb
      cases hb
theorem rdA_lt (s : ByteArray) (k : Nat) : Ids.rdA s k < 16 := by
  unfold Ids.rdA
  split
  · exact Ids.begD_lt _ _ _
  · exact (by decide : 0 < 16)
theorem readI_cases (t : List UInt8) : (∃ n, readI t = some n ∧ n < Ids.big ∧ Ids.rdE (strB t) = 0 ∧ Ids.idC (Ids.rdA (strB t)) = Ids.idC (Ids.dgt n)) ∨ (readI t = none ∧ Ids.rdE (strB t) ≠ 0) := by
  by_cases h : Ids.rdE (strB t) = 0
  · left
    exact ⟨_, by rw [readI, if_pos h], Ids.nu_lt _ (rdA_lt _), h, (Ids.idC_nu _ (rdA_lt _)).symm⟩
  · right
    exact ⟨by rw [readI, if_neg h], h⟩
set_option maxHeartbeats 1000000 in
set_option maxRecDepth 100000 in
theorem Vlnumber_some (g : Nat) (word s r : List UInt8) (n : Nat) (hw : word.length ≤ 100) (hn : ∀ b ∈ word, b ≠ 10) (hs : s.length ≤ 1000000) (ht : numL word s = some (n, r)) (w : World) (h : LinesAt w g s) :
    Calls Tryz.prog 169 #[.pointer (some ⟨g, 0, none⟩), .string (strB word)] w fun e w' => e = .returned (.int .i64 n) ∧ LinesAt w' g r ∧ Fr (fun k => k = g) w w' := by
  rcases hx : takeL word s with _ | ⟨t, r'⟩
  · rw [numL, hx] at ht; cases ht
  · simp only [numL, hx] at ht
    rcases numW_cases t with ⟨h1, h2, h3⟩ | ⟨h1, _⟩
    · rw [h1] at ht
      injection ht with ht
      injection ht with ht1 ht2
      subst ht1; subst ht2
      have htl := (takeL_len hx).1
      have HT := Lib.hid (Vltake_some g word s t r' hw hn hs hx w h)
      have HM := Lib.hid (fun w => VNumber_any t (by omega) w)
      rw [h2] at HM
      have HY := Lib.hid (fun w => Vneed_yes w)
      obtain ⟨W, hW⟩ : ∃ S, strB word = S := ⟨_, rfl⟩
      obtain ⟨S, hS⟩ : ∃ S, strB t = S := ⟨_, rfl⟩
      obtain ⟨v, hv⟩ : ∃ v : Int, ((valN t : Nat) : Int) = v := ⟨_, rfl⟩
      rw [hW, hS] at HT
      rw [hS] at HM
      rw [hv] at HM
      rw [hW, hv]
      clear h1 h2 h3 hx htl hW hS hv h hs hw hn
      go_enter Tryz.func169, Tryz.ntmps169
      go_wp2_with (first
        | (go_at_call 168; refine HT.out.mono ?_; rintro e w2 ⟨rfl, l2, f2⟩)
        | (go_at_call 187; refine (HM.out _).mono ?_; rintro e w' ⟨rfl, rfl⟩)
        | (go_at_call 184; refine (HY.out _).mono ?_; rintro e w' ⟨rfl, rfl⟩))
      go_ret
      exact ⟨rfl, l2, f2⟩
    · rw [h1] at ht; cases ht
/-- The frame of a call that gave up. -/
def Gave (g : Nat) (w : World) (e : Ending) (w' : World) : Prop := e = PC ∧ Fr (fun k => k = g) w w'
set_option maxHeartbeats 1000000 in
set_option maxRecDepth 100000 in
theorem Vlnumber_none (g : Nat) (word s : List UInt8) (hw : word.length ≤ 100) (hn : ∀ b ∈ word, b ≠ 10) (hs : s.length ≤ 1000000) (ht : numL word s = none) (w : World) (h : LinesAt w g s) :
    Calls Tryz.prog 169 #[.pointer (some ⟨g, 0, none⟩), .string (strB word)] w (Gave g w) := by
  rcases hx : takeL word s with _ | ⟨t, r'⟩
  · have HT := Lib.hid (Vltake_none g word s hw hs hx w h)
    obtain ⟨W, hW⟩ : ∃ S, strB word = S := ⟨_, rfl⟩
    rw [hW] at HT ⊢
    clear hx hW h hs hw hn ht
    go_enter Tryz.func169, Tryz.ntmps169
    go_wp2_with (go_at_call 168; refine HT.out.mono ?_; rintro e w2 ⟨rfl, b2⟩)
    exact ⟨rfl, rfl, Fr.of_below b2⟩
  · simp only [numL, hx] at ht
    rcases numW_cases t with ⟨h1, h2, h3⟩ | ⟨h1, _, h2⟩
    · rw [h1] at ht; cases ht
    · have htl := (takeL_len hx).1
      have HT := Lib.hid (Vltake_some g word s t r' hw hn hs hx w h)
      have HM := Lib.hid (fun w => VNumber_any t (by omega) w)
      rw [h2] at HM
      have HY := Lib.hid (fun w => Vneed_no w)
      obtain ⟨W, hW⟩ : ∃ S, strB word = S := ⟨_, rfl⟩
      obtain ⟨S, hS⟩ : ∃ S, strB t = S := ⟨_, rfl⟩
      rw [hW, hS] at HT
      rw [hS] at HM
      rw [hW]
      clear h1 h2 hx htl hW hS h hs hw hn ht
      go_enter Tryz.func169, Tryz.ntmps169
      go_wp2_with (first
        | (go_at_call 168; refine HT.out.mono ?_; rintro e w2 ⟨rfl, l2, f2⟩)
        | (go_at_call 187; refine (HM.out _).mono ?_; rintro e w' ⟨rfl, rfl⟩)
        | (go_at_call 184; refine (HY.out _).mono ?_; rintro e w' ⟨rfl, rfl⟩))
      exact ⟨rfl, rfl, f2⟩
set_option maxHeartbeats 1000000 in
set_option maxRecDepth 100000 in
theorem Vldigit_some (g : Nat) (word s r : List UInt8) (n : Nat) (hw : word.length ≤ 100) (hn : ∀ b ∈ word, b ≠ 10) (hs : s.length ≤ 1000000) (ht : digL word s = some (n, r)) (w : World) (h : LinesAt w g s) :
    Calls Tryz.prog 174 #[.pointer (some ⟨g, 0, none⟩), .string (strB word)] w fun e w' => e = .returned (.int .i64 n) ∧ LinesAt w' g r ∧ Fr (fun k => k = g) w w' := by
  rcases hx : numL word s with _ | ⟨m, r'⟩
  · rw [digL, hx] at ht; cases ht
  · simp only [digL, hx] at ht
    by_cases h10 : m < 10
    · rw [if_pos h10] at ht
      injection ht with ht
      injection ht with ht1 ht2
      subst ht1; subst ht2
      have HT := Lib.hid (Vlnumber_some g word s r' m hw hn hs hx w h)
      have HY := Lib.hid (fun w => Vneed_yes w)
      obtain ⟨W, hW⟩ : ∃ S, strB word = S := ⟨_, rfl⟩
      have hi : (m : Int) < 10 := by omega
      rw [hW] at HT ⊢
      clear hx hW h hs hw hn
      go_enter Tryz.func174, Tryz.ntmps174
      go_wp2_with (first
        | (go_at_call 169; refine HT.out.mono ?_; rintro e w2 ⟨rfl, l2, f2⟩)
        | (go_at_call 184; refine (HY.out _).mono ?_; rintro e w' ⟨rfl, rfl⟩))
      go_ret
      exact ⟨rfl, l2, f2⟩
    · rw [if_neg h10] at ht; cases ht
set_option maxHeartbeats 1000000 in
set_option maxRecDepth 100000 in
theorem Vldigit_none (g : Nat) (word s : List UInt8) (hw : word.length ≤ 100) (hn : ∀ b ∈ word, b ≠ 10) (hs : s.length ≤ 1000000) (ht : digL word s = none) (w : World) (h : LinesAt w g s) :
    Calls Tryz.prog 174 #[.pointer (some ⟨g, 0, none⟩), .string (strB word)] w (Gave g w) := by
  rcases hx : numL word s with _ | ⟨m, r'⟩
  · have HT := Lib.hid (Vlnumber_none g word s hw hn hs hx w h)
    obtain ⟨W, hW⟩ : ∃ S, strB word = S := ⟨_, rfl⟩
    rw [hW] at HT ⊢
    clear hx hW h hs hw hn ht
    go_enter Tryz.func174, Tryz.ntmps174
    go_wp2_with (go_at_call 169; refine HT.out.mono ?_; rintro e w2 ⟨rfl, f2⟩)
    exact ⟨rfl, rfl, f2⟩
  · simp only [digL, hx] at ht
    by_cases h10 : m < 10
    · rw [if_pos h10] at ht; cases ht
    · have HT := Lib.hid (Vlnumber_some g word s r' m hw hn hs hx w h)
      have HY := Lib.hid (fun w => Vneed_no w)
      obtain ⟨W, hW⟩ : ∃ S, strB word = S := ⟨_, rfl⟩
      have hd : decide ((m : Int) < 10) = false := decide_eq_false (by omega)
      rw [hW] at HT ⊢
      clear hx hW h hs hw hn ht
      go_enter Tryz.func174, Tryz.ntmps174
      go_wp2_with (first
        | (go_at_call 169; refine HT.out.mono ?_; rintro e w2 ⟨rfl, l2, f2⟩)
        | (go_at_call 184; refine (HY.out _).mono ?_; rintro e w' ⟨rfl, rfl⟩))
      exact ⟨rfl, rfl, f2⟩
/-! An id's line; the text. -/
set_option maxHeartbeats 1600000 in
set_option maxRecDepth 100000 in
theorem Vlid_some (g : Nat) (word s r : List UInt8) (n : Nat) (hw : word.length ≤ 100) (hn : ∀ b ∈ word, b ≠ 10) (hs : s.length ≤ 1000000) (ht : idL word s = some (n, r)) (w : World) (h : LinesAt w g s) :
    Calls Tryz.prog 166 #[.pointer (some ⟨g, 0, none⟩), .string (strB word)] w fun e w' => e = .returned (.agg (Ids.idC (Ids.dgt n))) ∧ LinesAt w' g r ∧ Fr (fun k => k = g) w w' := by
  rcases hx : takeL word s with _ | ⟨t, r'⟩
  · rw [idL, hx] at ht; cases ht
  · simp only [idL, hx] at ht
    rcases readI_cases t with ⟨m, h1, h2, h3, h4⟩ | ⟨h1, _⟩
    · rw [h1] at ht
      injection ht with ht
      injection ht with ht1 ht2
      subst ht1; subst ht2
      have htl := (takeL_len hx).1
      obtain ⟨w1, hw1⟩ : ∃ w1, w.alloc (.cells Ids.zero32 48) = w1 := ⟨_, rfl⟩
      have hF : Fr (fun _ => False) w w1 := by subst hw1; exact (Fr.refl _ w).alloc _
      have hZ : Whole w1 w.heap.size 48 Ids.zero32 := by subst hw1; exact Whole.new w 48 Ids.zero32
      unfold Ids.zero32 at hw1
      simp [List.replicate] at hw1
      have HF := Lib.hid hF
      have HZ := Lib.hid hZ
      have hg : g < w.heap.size := Whole.lt h
      have HT := Lib.hid (Vltake_some g word s t r' hw hn hs hx w1 (h.fr hF))
      have HM := Lib.hid (fun w => Ids.ORead_any (strB t) (by rw [strB_size]; omega) w)
      rw [h3, h4] at HM
      have HY := Lib.hid (fun w => Vneed_yes w)
      obtain ⟨P, hP⟩ : ∃ P, Ids.idC (Ids.dgt m) = P := ⟨_, rfl⟩
      rw [hP] at HM ⊢
      have hPs : P.size = 32 := by rw [← hP]; exact Ids.idC_size _
      have hPo : P.all (·.oneCell') = true := by rw [← hP]; exact Ids.idC_one _
      obtain ⟨W, hW⟩ : ∃ S, strB word = S := ⟨_, rfl⟩
      obtain ⟨S, hS⟩ : ∃ S, strB t = S := ⟨_, rfl⟩
      rw [hW, hS] at HT
      rw [hS] at HM
      rw [hW]
      clear h1 h2 h3 h4 hx htl hW hS h hs hw hn hF hZ hP
      go_enter Tryz.func166, Tryz.ntmps166
      go_wp2_with (first
        | (go_at_call 168; refine HT.out.mono ?_; rintro e w2 ⟨rfl, l2, f2⟩)
        | (go_at_call 183; refine (HM.out _).mono ?_; rintro e w3 ⟨rfl, b3⟩)
        | (refine wpList_load_row rfl 48 _ rfl _ rfl 48 _ _ _ hw4 Tryz.underlying48 rfl (by rw [hPs]; exact Ids.size32) ?_)
        | (have _ := M1
           refine wpList_store_at rfl 48 _ _ rfl w.heap.size 0 48 _ P rfl rfl hz4 (by rw [hPs]; decide) (by rw [hPs]; exact Ids.size32) hPo ?_
           intro w6 hw6 hf6)
        | (refine wpList_store_at rfl 48 _ _ rfl w3.heap.size 0 48 _ P rfl rfl (Whole.new w3 48 Ids.zero32) (by rw [hPs]; decide) (by rw [hPs]; exact Ids.size32) hPo ?_
           intro w4 hw4 hf4
           rw [laidAt_all _ _ (by rw [hPs]; rfl)] at hw4
           have M1 := True.intro
           have F4 : Fr (fun k => k = g) w1 w4 := ((f2.then_below b3).alloc _).trans hf4 (fun i hi e => by have := f2.size; have := b3.size; omega)
           have l4 : LinesAt w4 g r' := Whole.fr (((l2.fr (Fr.of_below b3)).fr ((Fr.refl (fun _ => False) _).alloc _))) hf4 (fun e => by have := Whole.lt l2; have := b3.size; omega)
           have hz4 : Whole w4 w.heap.size 48 Ids.zero32 := HZ.out.fr F4 (fun e => by omega))
        | (go_at_call 184; refine (HY.out _).mono ?_; rintro e w' ⟨rfl, rfl⟩))
      rw [laidAt_all _ _ (by rw [hPs]; rfl)] at hw6
      refine bodyPost_ret (v := .agg P) (results_cell_row rfl _ _ _ _ _ _ _ rfl hw6 Tryz.underlying48 rfl (by rw [hPs]; exact Ids.size32)) rfl ?_
      refine ⟨rfl, Whole.fr l4 hf6 (fun e => by omega), ((HF.out.mono (fun _ _ e => e.elim) : Fr (fun k => k = g) w w1).trans F4 (fun i hi e => e)).trans hf6 (fun i hi e => by omega)⟩
    · rw [h1] at ht; cases ht
set_option maxHeartbeats 1600000 in
set_option maxRecDepth 100000 in
theorem Vlid_none (g : Nat) (word s : List UInt8) (hw : word.length ≤ 100) (hn : ∀ b ∈ word, b ≠ 10) (hs : s.length ≤ 1000000) (ht : idL word s = none) (w : World) (h : LinesAt w g s) :
    Calls Tryz.prog 166 #[.pointer (some ⟨g, 0, none⟩), .string (strB word)] w (Gave g w) := by
  obtain ⟨w1, hw1⟩ : ∃ w1, w.alloc (.cells Ids.zero32 48) = w1 := ⟨_, rfl⟩
  have hF : Fr (fun _ => False) w w1 := by subst hw1; exact (Fr.refl _ w).alloc _
  unfold Ids.zero32 at hw1
  simp [List.replicate] at hw1
  have HF := Lib.hid hF
  have hg : g < w.heap.size := Whole.lt h
  rcases hx : takeL word s with _ | ⟨t, r'⟩
  · have HT := Lib.hid (Vltake_none g word s hw hs hx w1 (h.fr hF))
    obtain ⟨W, hW⟩ : ∃ S, strB word = S := ⟨_, rfl⟩
    rw [hW] at HT ⊢
    clear hx hW h hs hw hn ht hF
    go_enter Tryz.func166, Tryz.ntmps166
    go_wp2_with (go_at_call 168; refine HT.out.mono ?_; rintro e w2 ⟨rfl, b2⟩)
    exact ⟨rfl, rfl, (HF.out.then_below b2).mono (fun _ _ e => e.elim)⟩
  · simp only [idL, hx] at ht
    rcases readI_cases t with ⟨m, h1, h2, h3, h4⟩ | ⟨h1, h3⟩
    · rw [h1] at ht; cases ht
    · have htl := (takeL_len hx).1
      have HT := Lib.hid (Vltake_some g word s t r' hw hn hs hx w1 (h.fr hF))
      have HM := Lib.hid (fun w => Ids.ORead_any (strB t) (by rw [strB_size]; omega) w)
      have HN := Lib.hid (fun w => Vneed_no w)
      obtain ⟨E, hE⟩ : ∃ E, Ids.rdE (strB t) = E := ⟨_, rfl⟩
      obtain ⟨P, hP⟩ : ∃ P, Ids.idC (Ids.rdA (strB t)) = P := ⟨_, rfl⟩
      rw [hE] at h3 HM
      rw [hP] at HM
      have hd : (E == 0) = false := by simpa using h3
      have hPs : P.size = 32 := by rw [← hP]; exact Ids.idC_size _
      have hPo : P.all (·.oneCell') = true := by rw [← hP]; exact Ids.idC_one _
      obtain ⟨W, hW⟩ : ∃ S, strB word = S := ⟨_, rfl⟩
      obtain ⟨S, hS⟩ : ∃ S, strB t = S := ⟨_, rfl⟩
      rw [hW, hS] at HT
      rw [hS] at HM
      rw [hW]
      clear h1 h3 hx htl hW hS h hs hw hn hF hP hE ht
      go_enter Tryz.func166, Tryz.ntmps166
      go_wp2_with (first
        | (go_at_call 168; refine HT.out.mono ?_; rintro e w2 ⟨rfl, l2, f2⟩)
        | (go_at_call 183; refine (HM.out _).mono ?_; rintro e w3 ⟨rfl, b3⟩)
        | (refine wpList_store_at rfl 48 _ _ rfl w3.heap.size 0 48 _ P rfl rfl (Whole.new w3 48 Ids.zero32) (by rw [hPs]; decide) (by rw [hPs]; exact Ids.size32) hPo ?_
           intro w4 hw4 hf4
           have F4 : Fr (fun k => k = g) w1 w4 := ((f2.then_below b3).alloc _).trans hf4 (fun i hi e => by have := f2.size; have := b3.size; omega))
        | (go_at_call 184; refine (HN.out _).mono ?_; rintro e w' ⟨rfl, rfl⟩))
      exact ⟨rfl, rfl, (HF.out.mono (fun _ _ e => e.elim) : Fr (fun k => k = g) w w1).trans F4 (fun i hi e => e)⟩
set_option maxHeartbeats 1000000 in
set_option maxRecDepth 100000 in
theorem Vltext_some (g : Nat) (s t : List UInt8) (hs : s.length ≤ 1000000) (ht : textL s = some t) (w : World) (h : LinesAt w g s) :
    Calls Tryz.prog 170 #[.pointer (some ⟨g, 0, none⟩)] w fun e w' => e = .returned (.string (strB t)) ∧ Fr (fun k => k = g) w w' := by
  have hp : [10].isPrefixOf s = true := by
    unfold textL at ht
    split at ht
    · assumption
    · cases ht
  have hct : cutB s [10] = t := by
    rw [textL, if_pos hp] at ht
    injection ht with ht
    rw [cutB, if_pos hp, ← ht]
    rfl
  have hc := h.cell
  have hz := h.frozen
  have HC := Lib.hid (fun w => GCutPrefix_any s [10] (by omega) (by decide) w)
  rw [hp, hct] at HC
  have HY := Lib.hid (fun w => Vneed_yes w)
  have HR : Hid (∀ u, Fr (fun k => k = g) w (w.setCell ⟨g, 0, none⟩ u)) := Lib.hid (fun u => fr_set (Fr.refl _ w) u)
  obtain ⟨T, hT⟩ : ∃ S, strB [10] = S := ⟨_, rfl⟩
  have hTc : ByteArray.mk #[10] = T := hT
  obtain ⟨S, hS⟩ : ∃ S, strB s = S := ⟨_, rfl⟩
  obtain ⟨S3, hS3⟩ : ∃ S, strB t = S := ⟨_, rfl⟩
  rw [hT, hS, hS3] at HC
  rw [hS] at hc
  rw [hS3]
  clear hT hS hS3 hs h hp hct ht
  go_enter Tryz.func170, Tryz.ntmps170
  go_wp2_with (first
    | (go_at_call 188; refine (HC.out _).mono ?_; rintro e w' ⟨rfl, rfl⟩)
    | (go_at_call 184; refine (HY.out _).mono ?_; rintro e w' ⟨rfl, rfl⟩))
  go_ret
  exact ⟨rfl, HR.out _⟩
set_option maxHeartbeats 1000000 in
set_option maxRecDepth 100000 in
theorem Vltext_none (g : Nat) (s : List UInt8) (hs : s.length ≤ 1000000) (ht : textL s = none) (w : World) (h : LinesAt w g s) :
    Calls Tryz.prog 170 #[.pointer (some ⟨g, 0, none⟩)] w (Gave g w) := by
  have hp : [10].isPrefixOf s = false := by
    cases hx : [10].isPrefixOf s with
    | false => rfl
    | true => rw [textL, if_pos hx] at ht; cases ht
  have hc := h.cell
  have HC := Lib.hid (fun w => GCutPrefix_any s [10] (by omega) (by decide) w)
  rw [hp] at HC
  have HN := Lib.hid (fun w => Vneed_no w)
  obtain ⟨T, hT⟩ : ∃ S, strB [10] = S := ⟨_, rfl⟩
  have hTc : ByteArray.mk #[10] = T := hT
  obtain ⟨S, hS⟩ : ∃ S, strB s = S := ⟨_, rfl⟩
  obtain ⟨S3, hS3⟩ : ∃ S, strB (cutB s [10]) = S := ⟨_, rfl⟩
  rw [hT, hS, hS3] at HC
  rw [hS] at hc
  clear hT hS hS3 hs h hp ht
  go_enter Tryz.func170, Tryz.ntmps170
  go_wp2_with (first
    | (go_at_call 188; refine (HC.out _).mono ?_; rintro e w' ⟨rfl, rfl⟩)
    | (go_at_call 184; refine (HN.out _).mono ?_; rintro e w' ⟨rfl, rfl⟩))
  exact ⟨rfl, rfl, Fr.refl _ _⟩
end Go.Proofs.YtkaeoflgnnlbeaaGreatDoor
/- What is proved: whether an id stands in a list, by the library; whether two of a list are one, by the program. Conditions: the list's cells are there. -/
namespace Go.Proofs.YtkaeoflgnnlbeaaGreatDoor
open Go.RowKit Go.Sort Go.Shelf
open Ids (idC dgt big idC_size idC_get idC_one cellD zero32 size32 dgt_lt eq_nums)
set_option linter.unusedVariables false
def idxN (l : List Nat) (x : Nat) : Int := if l.contains x then ((l.idxOf x : Nat) : Int) else -1
theorem idxN_at (l : List Nat) (x k : Nat) (hk : k < l.length) (h : ∀ j, j < k → gt l j ≠ x) (he : gt l k = x) : idxN l x = k := by
  have hm : x ∈ l := by rw [← he]; exact gt_mem l k hk
  rw [idxN, if_pos (by simpa using hm)]
  congr 1
  have h1 : l.idxOf x < l.length := List.idxOf_lt_length_of_mem hm
  have h2 : gt l (l.idxOf x) = x := by
    rw [gt, List.getD_eq_getElem?_getD, List.getElem?_eq_getElem h1]
    simp
  rcases Nat.lt_trichotomy (l.idxOf x) k with h3 | h3 | h3
  · exact absurd h2 (h _ h3)
  · exact h3
  · exfalso
    have : l.idxOf x ≤ k := by
      rw [gt, List.getD_eq_getElem?_getD, List.getElem?_eq_getElem hk] at he
      simp only [Option.getD_some] at he
      rw [List.idxOf]
      apply Classical.byContradiction
      intro hn
      have := List.not_of_lt_findIdx (p := fun y => y == x) (xs := l) (i := k) (by omega)
      rw [he] at this
      simp at this
    omega
theorem idxN_none (l : List Nat) (x : Nat) (h : ∀ j, j < l.length → gt l j ≠ x) : idxN l x = -1 := by
  rw [idxN, if_neg]
  intro hc
  have hm : x ∈ l := by simpa using hc
  obtain ⟨j, hj, e⟩ := List.getElem_of_mem hm
  refine h j hj ?_
  rw [gt, List.getD_eq_getElem?_getD, List.getElem?_eq_getElem hj]
  exact e
theorem idxN_ge (l : List Nat) (x : Nat) : decide (0 ≤ idxN l x) = l.contains x := by
  unfold idxN
  split
  · rename_i h; rw [h]; simp
  · rename_i h
    have : l.contains x = false := by simpa using h
    rw [this]; rfl
theorem wrap_k1 (k : Nat) (h : k ≤ 9223372036854775806) : IntKind.i64.wrap ((k : Int) + 1) = ((k + 1 : Nat) : Int) := by rw [IntKind.wrap_i64]; omega
set_option maxHeartbeats 3200000 in
set_option maxRecDepth 100000 in
theorem GIdxI_any (A : Option Addr) (c : Nat) (l : List Nat) (x : Nat) (hb : ∀ n ∈ l, n < big) (hx : x < big) (hn : l.length ≤ 1000000) (w : World) (h1 : Lies w A (flatI l)) :
    Calls Tryz.prog 207 #[.slice A l.length c, .agg (idC (dgt x))] w fun e w' => e = .returned (.int .i64 (idxN l x)) ∧ Below w.heap.size w w' := by
  have HL1 := Lib.hid h1
  have HB := Lib.hid hb
  have HX := Lib.hid hx
  obtain ⟨L, hL⟩ : ∃ L, l.length = L := ⟨_, rfl⟩
  have HLn := Lib.hid hL
  obtain ⟨w1, hw1⟩ : ∃ w1, w.alloc (.cells (idC (dgt x)) 48) = w1 := ⟨_, rfl⟩
  have HF : Hid (Fr (fun _ => False) w w1) := Lib.hid (by subst hw1; exact (Fr.refl _ w).alloc _)
  have HS : Hid (Whole w1 w.heap.size 48 (idC (dgt x))) := Lib.hid (by subst hw1; exact Whole.new w 48 _)
  obtain ⟨T32, hT32⟩ : ∃ T : TypeId, T = 48 := ⟨_, rfl⟩
  obtain ⟨n32, hn32⟩ : ∃ n : Nat, n = 32 := ⟨_, rfl⟩
  have ag32 : ∀ w, (isAgg T32).run Tryz.prog w = .ok true w := by rw [hT32]; exact fun _ => by kernel_rfl
  have sz32 : ∀ w, (sizeOf T32).run Tryz.prog w = .ok n32 w := by rw [hT32, hn32]; exact fun _ => by kernel_rfl
  have HN32 := Lib.hid hn32
  have HAT := Lib.hid (fun k hk h he => idxN_at l x k hk h he)
  have HNO := Lib.hid (idxN_none l x)
  obtain ⟨R, hR⟩ : ∃ R, idxN l x = R := ⟨_, rfl⟩
  rw [hR] at HAT HNO
  obtain ⟨cx, hcx⟩ : ∃ c, idC (dgt x) = c := ⟨_, rfl⟩
  have HCX := Lib.hid hcx
  rw [hcx] at hw1 HS
  rw [hL, hR, hcx]
  rw [hL] at hn HAT HNO
  clear h1 hb hx hL hn32 hcx hR
  go_enter Tryz.func207, Tryz.ntmps207
  rw [show Op.load 48 (.tmp 3) = Op.load T32 (.tmp 3) by rw [hT32], show Op.load 48 (.tmp 14) = Op.load T32 (.tmp 14) by rw [hT32]]
  clear hT32
  go_wp2
  go_loopw [8] (fun i wr => ∃ k : Nat, k ≤ L ∧ i = .int .i64 k ∧ Hid (∀ j, j < k → gt l j ≠ x) ∧ Fr (fun _ => False) w1 wr) (fun i _ => L - (intOf i).toNat)
  case atStart => exact ⟨0, by omega, rfl, Lib.hid (fun j hj => by omega), Fr.refl _ _⟩
  case round =>
    obtain ⟨k, hk, rfl, HJ, hf⟩ := hrel
    have HFr := Lib.hid hf
    by_cases hlt : k < L
    · obtain ⟨b, o, hA⟩ := HL1.out.some_of (by rw [HLn.out]; omega)
      subst hA
      have hka := gt_some l k (by rw [HLn.out]; exact hlt)
      have hma := HB.out _ (gt_mem l k (by rw [HLn.out]; exact hlt))
      have l1 : ∀ q : Later wr, (loadCellsFrom ⟨b, o + k * 32, none⟩ 0 n32 #[]).run Tryz.prog q.w' = .ok (idC (dgt (gt l k))) q.w' := fun q => by rw [HN32.out]; exact load_at HL1.out hka ((HF.out.trans HFr.out (fun _ _ e => e)).trans q.fr (fun _ _ e => e))
      have l2 : ∀ q : Later wr, (loadCellsFrom ⟨w.heap.size, 0, none⟩ 0 n32 #[]).run Tryz.prog q.w' = .ok cx q.w' := fun q => load_mid HS.out (HFr.out.trans q.fr (fun _ _ e => e)) (by rw [HN32.out, ← HCX.out, idC_size]) (fun j v hv => by rw [Nat.zero_add, ← hv, Array.getElem?_toList])
      have heq := fun w => eq_nums x (gt l k) HX.out hma w
      rw [HCX.out] at heq
      obtain ⟨ca1, hca⟩ : ∃ c, idC (dgt (gt l k)) = c := ⟨_, rfl⟩
      rw [hca] at l1 heq
      obtain ⟨s, hs⟩ : ∃ s, (x == gt l k) = s := ⟨_, rfl⟩
      rw [hs] at heq
      have HSs := Lib.hid hs
      have hk0 : (k : Int) < L := by omega
      have wk := wrap_n k (by omega)
      have wk1 := wrap_k1 k (by omega)
      clear hka hma hca hf hs
      cases s
      · have HNE : Hid (gt l k ≠ x) := Lib.hid (fun e => by have := HSs.out; rw [e] at this; simp at this)
        go_wp2_with fail
        refine wp_region_later (w0 := wr) (Fr.refl _ _) (by kernel_rfl) (by kernel_rfl) ?_
        repeat (quiet_step (fail))
        refine wpQuiet_nil ?_
        intro _ hw'
        obtain ⟨q, hw''⟩ := hw'
        subst hw''
        go_wp2_with fail
        go_roundw
        case rel => exact ⟨k + 1, by omega, by go_num, Lib.hid (fun j hj => by
          rcases Nat.lt_or_ge j k with h | h
          · exact HJ.out j h
          · obtain rfl : j = k := by omega
            exact HNE.out), HFr.out.trans q.fr (fun _ _ e => e)⟩
        case measure => simp [intOf]; omega
      · have HR : Hid (R = k) := Lib.hid (HAT.out k hlt HJ.out (by have := HSs.out; exact (eq_of_beq this).symm))
        go_wp2_with fail
        refine wp_region_later (w0 := wr) (Fr.refl _ _) (by kernel_rfl) (by kernel_rfl) ?_
        repeat (quiet_step (fail))
        refine wpQuiet_nil ?_
        intro _ hw'
        obtain ⟨q, hw''⟩ := hw'
        subst hw''
        go_wp2_with fail
        go_ret
        exact ⟨ret_num (by rw [HR.out]), ((HF.out.trans HFr.out (fun _ _ e => e)).trans q.fr (fun _ _ e => e)).below (fun _ _ e => e)⟩
    · obtain rfl : k = L := by omega
      have HR := Lib.hid (HNO.out HJ.out)
      clear hf
      go_wp2_with fail
      go_ret
      exact ⟨ret_num (by rw [HR.out]), (HF.out.trans HFr.out (fun _ _ e => e)).below (fun _ _ e => e)⟩
set_option maxHeartbeats 1000000 in
theorem GContI_any (A : Option Addr) (c : Nat) (l : List Nat) (x : Nat) (hb : ∀ n ∈ l, n < big) (hx : x < big) (hn : l.length ≤ 1000000) (w : World) (h1 : Lies w A (flatI l)) :
    Calls Tryz.prog 189 #[.slice A l.length c, .agg (idC (dgt x))] w fun e w' => e = .returned (.bool (l.contains x)) ∧ Below w.heap.size w w' := by
  obtain ⟨w1, hw1⟩ : ∃ w1, w.alloc (.cells (idC (dgt x)) 48) = w1 := ⟨_, rfl⟩
  have hF : Fr (fun _ => False) w w1 := by subst hw1; exact (Fr.refl _ w).alloc _
  have HF := Lib.hid hF
  have HS : Hid (Whole w1 w.heap.size 48 (idC (dgt x))) := Lib.hid (by subst hw1; exact Whole.new w 48 _)
  have HC := Lib.hid (GIdxI_any A c l x hb hx hn w1 (h1.fr hF (fun _ _ e => e)))
  rw [← idxN_ge]
  have hcs := idC_size (dgt x)
  obtain ⟨r, hr⟩ : ∃ r, idxN l x = r := ⟨_, rfl⟩
  obtain ⟨cx, hcx⟩ : ∃ c, idC (dgt x) = c := ⟨_, rfl⟩
  obtain ⟨L, hL⟩ : ∃ L, l.length = L := ⟨_, rfl⟩
  rw [hr, hcx, hL] at HC
  rw [hcx] at hw1 HS hcs
  rw [hr, hcx, hL]
  clear hr hcx hL hb hn h1 hF
  go_enter Tryz.func189, Tryz.ntmps189
  go_wp2_with (first
    | (refine wpList_load_row rfl 48 _ rfl _ rfl 48 _ _ _ HS.out Tryz.underlying48 rfl (by rw [hcs]; exact size32) ?_)
    | (go_at_call 207; refine HC.out.mono ?_; rintro e w' ⟨rfl, bb⟩))
  go_ret
  exact ⟨rfl, (HF.out.then_below bb).below (fun _ _ e => e)⟩
/-- Whether two of a list are one. -/
def twN (l : List Nat) : Bool := (List.range l.length).any fun k => (l.take k).contains (gt l k)
theorem twN_at (l : List Nat) (k : Nat) (hk : k < l.length) (h : (l.take k).contains (gt l k) = true) : twN l = true := by
  rw [twN, List.any_eq_true]
  exact ⟨k, List.mem_range.2 hk, h⟩
theorem twN_none (l : List Nat) (h : ∀ j, j < l.length → (l.take j).contains (gt l j) = false) : twN l = false := by
  rw [twN, List.any_eq_false]
  intro j hj
  rw [h j (List.mem_range.1 hj)]
  decide
set_option maxHeartbeats 3200000 in
set_option maxRecDepth 100000 in
theorem Vtwice_any (A : Option Addr) (c : Nat) (l : List Nat) (hc : l.length ≤ c) (hb : ∀ n ∈ l, n < big) (hn : l.length ≤ 1000000) (w : World) (h1 : Lies w A (flatI l)) :
    Calls Tryz.prog 172 #[.slice A l.length c] w fun e w' => e = .returned (.bool (twN l)) ∧ Below w.heap.size w w' := by
  have HL1 := Lib.hid h1
  have HB := Lib.hid hb
  obtain ⟨L, hL⟩ : ∃ L, l.length = L := ⟨_, rfl⟩
  have HLn := Lib.hid hL
  have HAT := Lib.hid (fun k hk h => twN_at l k hk h)
  have HNO := Lib.hid (twN_none l)
  obtain ⟨R, hR⟩ : ∃ R, twN l = R := ⟨_, rfl⟩
  rw [hR] at HAT HNO
  have HCc := Lib.hid hc
  obtain ⟨T32, hT32⟩ : ∃ T : TypeId, T = 48 := ⟨_, rfl⟩
  obtain ⟨n32, hn32⟩ : ∃ n : Nat, n = 32 := ⟨_, rfl⟩
  have ag32 : ∀ w, (isAgg T32).run Tryz.prog w = .ok true w := by rw [hT32]; exact fun _ => by kernel_rfl
  have sz32 : ∀ w, (sizeOf T32).run Tryz.prog w = .ok n32 w := by rw [hT32, hn32]; exact fun _ => by kernel_rfl
  have HN32 := Lib.hid hn32
  rw [hL, hR]
  rw [hL] at hn HAT HNO
  rw [hL] at HCc
  clear h1 hb hL hR hc hn32
  go_enter Tryz.func172, Tryz.ntmps172
  rw [show Op.load 48 (.tmp 4) = Op.load T32 (.tmp 4) by rw [hT32]]
  clear hT32
  go_wp2
  go_loopw [7] (fun i wr => ∃ k : Nat, k ≤ L ∧ i = .int .i64 k ∧ Hid (∀ j, j < k → (l.take j).contains (gt l j) = false) ∧ Fr (fun _ => False) w wr) (fun i _ => L - (intOf i).toNat)
  case atStart => exact ⟨0, by omega, rfl, Lib.hid (fun j hj => by omega), Fr.refl _ _⟩
  case round =>
    obtain ⟨k, hk, rfl, HJ, hf⟩ := hrel
    obtain ⟨wo, rfl⟩ : ∃ wo, wo = wr := ⟨wr, rfl⟩
    have HFr := Lib.hid hf
    by_cases hlt : k < L
    · obtain ⟨b, o, hA⟩ := HL1.out.some_of (by rw [HLn.out]; omega)
      subst hA
      have hka := gt_some l k (by rw [HLn.out]; exact hlt)
      have hma := HB.out _ (gt_mem l k (by rw [HLn.out]; exact hlt))
      have hld : ∀ q : Later wo, (loadCellsFrom ⟨b, o + k * 32, none⟩ 0 32 #[]).run Tryz.prog q.w' = .ok (idC (dgt (gt l k))) q.w' := fun q => load_at HL1.out hka (HFr.out.trans q.fr (fun _ _ e => e))
      have hrg : Hid (wo.rangeAt b (o + k * 32) (idC (dgt (gt l k))).toList) := Lib.hid (range_at HL1.out hka HFr.out)
      have hsl := fun w => slice_hd (some ⟨b, o, none⟩) (.inr ⟨b, o, rfl⟩) L c k (by have := HCc.out; omega) w
      have hlen : (l.take k).length = k := by rw [List.length_take, HLn.out]; omega
      have HC := Lib.hid (fun (w' : World) (f : Fr (fun _ => False) w w') => GContI_any (some ⟨b, o, none⟩) c (l.take k) (gt l k) (fun n hn => HB.out n (List.mem_of_mem_take hn)) hma (by rw [hlen]; omega) w' (by rw [flatI_take]; exact (HL1.out.fr f (fun _ _ e => e)).take _))
      rw [hlen] at HC
      obtain ⟨s, hs⟩ : ∃ s, (l.take k).contains (gt l k) = s := ⟨_, rfl⟩
      rw [hs] at HC
      have HSs := Lib.hid hs
      have hcs := idC_size (dgt (gt l k))
      have hco := idC_one (dgt (gt l k))
      obtain ⟨cx, hcx⟩ : ∃ c, idC (dgt (gt l k)) = c := ⟨_, rfl⟩
      rw [hcx] at hld hrg HC hcs hco
      have hk0 : (k : Int) < L := by omega
      have wk := wrap_n k (by omega)
      have wk1 := wrap_k1 k (by omega)
      obtain ⟨Z, hZ⟩ : ∃ Z, Z = zero32 := ⟨_, rfl⟩
      clear hka hma hcx hf hs hlen hld
      go_wp2_with (first
        | (refine wpList_load_mid rfl 48 _ rfl b (o + k * 32) rfl _ _ hrg.out Tryz.underlying48 rfl (by rw [Array.length_toList, hcs]; exact size32) ?_)
        | (refine wpList_store_at rfl 48 _ _ rfl wo.heap.size 0 48 _ cx rfl rfl (Whole.new wo 48 zero32) (by rw [hcs]; decide) (by rw [hcs]; exact size32) hco ?_
           intro w4 hw4 hf4
           rw [laidAt_all _ _ (by rw [hcs]; rfl)] at hw4))
      have F4 : Hid (Fr (fun _ => False) w w4) := Lib.hid (HFr.out.trans (((Fr.refl (fun _ => False) wo).alloc _).trans hf4 (fun i hi e => by omega) : Fr (fun _ => False) wo w4) (fun _ _ e => e))
      have l2 : ∀ q : Later w4, (loadCellsFrom ⟨wo.heap.size, 0, none⟩ 0 n32 #[]).run Tryz.prog q.w' = .ok cx q.w' := fun q => load_mid hw4 q.fr (by rw [HN32.out, hcs]) (fun j v hv => by rw [Nat.zero_add, ← hv, Array.getElem?_toList])
      clear hf4 hw4
      refine wp_region_later (w0 := w4) (Fr.refl _ _) (by kernel_rfl) (by kernel_rfl) ?_
      repeat (quiet_step ((go_at_call 189; refine Calls.later_of (HC.out _ (F4.out.trans (Later.fr _) (fun _ _ e => e))))))
      refine wpQuiet_nil ?_
      intro _ hw'
      obtain ⟨q, hw''⟩ := hw'
      subst hw''
      cases s
      · go_wp2_with fail
        go_roundw
        case rel => exact ⟨k + 1, by omega, by go_num, Lib.hid (fun j hj => by
          rcases Nat.lt_or_ge j k with h | h
          · exact HJ.out j h
          · obtain rfl : j = k := by omega
            exact HSs.out), F4.out.trans q.fr (fun _ _ e => e)⟩
        case measure => simp [intOf]; omega
      · have HR := Lib.hid (HAT.out k hlt HSs.out)
        go_wp2_with fail
        go_ret
        exact ⟨ret_bool (by rw [HR.out]), (F4.out.trans q.fr (fun _ _ e => e)).below (fun _ _ e => e)⟩
    · obtain rfl : k = L := by omega
      have HR := Lib.hid (HNO.out HJ.out)
      clear hf
      go_wp2_with fail
      go_ret
      exact ⟨ret_bool (by rw [HR.out]), HFr.out.below (fun _ _ e => e)⟩
end Go.Proofs.YtkaeoflgnnlbeaaGreatDoor

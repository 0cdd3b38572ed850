/- What is proved: a text's parts, by the program and by the document. Conditions: the text is not too long for any machine. -/
import Derived.Test.YtnekddpnajgmdaaDoorRtf
namespace Go.Proofs.YtnekddpnajgmdaaDoor
open Go.RowKit
set_option linter.unusedVariables false

theorem Lies.of_whole {w : World} {g : Nat} {t : TypeId} {xs : List Value} (h : Whole w g t xs.toArray) : Lies w (some ⟨g, 0, none⟩) xs :=
  .inr ⟨g, 0, rfl, fun j u hu => by rw [Nat.zero_add, h.cell, List.getElem?_toArray]; exact hu⟩
set_option maxHeartbeats 1000000 in
theorem GSplit_any (l : List UInt8) (hl : l.length ≤ 900000) (w : World) : Calls Tryd.prog 40 #[.string (strB l), .string (strB [47])] w fun e w' =>
    e = .returned (.slice (some ⟨w.heap.size, 0, none⟩) (spl l).length (spl l).length) ∧ Lies w' (some ⟨w.heap.size, 0, none⟩) (strV (spl l)) ∧ Below w.heap.size w w' := by
  have hc := Lib.hid (fun w => GgenSplit_any l hl w)
  go_enter Tryd.func40, Tryd.ntmps40
  go_wp2_with (go_at_call 54; refine (hc.out _).mono ?_; rintro e w' ⟨rfl, hW, hB⟩)
  go_ret
  exact ⟨rfl, Lies.of_whole hW, hB⟩
set_option maxHeartbeats 1000000 in
theorem RtParts_any (l : List UInt8) (hl : l.length ≤ 900000) (w : World) : Calls Tryd.prog 18 #[.string (strB l)] w fun e w' =>
    ∃ A c, e = .returned (.slice A (prt l).length c) ∧ (prt l).length ≤ c ∧ Lies w' A (strV (prt l)) ∧ Below w.heap.size w w' := by
  have hc : Hid (∀ w, Calls Tryd.prog 40 #[.string (strB l), .string (ByteArray.mk #[47])] w fun e w' =>
    e = .returned (.slice (some ⟨w.heap.size, 0, none⟩) (spl l).length (spl l).length) ∧ Lies w' (some ⟨w.heap.size, 0, none⟩) (strV (spl l)) ∧ Below w.heap.size w w') := Lib.hid (fun w => GSplit_any l hl w)
  have hL := strB_list l
  by_cases h : l = []
  · have e1 : prt l = [] := by rw [prt, if_pos h]
    rw [e1]
    obtain ⟨S, hS⟩ : ∃ S, strB l = S := ⟨_, rfl⟩
    rw [hS] at hL ⊢
    clear hc e1 hS
    go_enter Tryd.func18, Tryd.ntmps18
    go_wp2
    go_ret
    exact ⟨none, 0, rfl, Nat.le_refl _, .inl rfl, (Fr.refl (fun _ => False) w).below (fun _ _ e => e)⟩
  · rw [prt_of h]
    have h' : l.isEmpty = false := by simpa using h
    obtain ⟨S, hS⟩ : ∃ S, strB l = S := ⟨_, rfl⟩
    rw [hS] at hL hc ⊢
    obtain ⟨P, hP⟩ : ∃ P, spl l = P := ⟨_, rfl⟩
    rw [hP] at hc ⊢
    clear hS hP
    go_enter Tryd.func18, Tryd.ntmps18
    go_wp2_with (go_at_call 40; refine (hc.out _).mono ?_; rintro e w' ⟨rfl, hW, hB⟩)
    go_ret
    exact ⟨_, _, rfl, Nat.le_refl _, hW, hB⟩

/-- One cell that the call has just laid, as a source. -/
theorem src_one {tx e' : TypeId} (hk : Tryd.prog.underlying tx = some (.slice e')) (w : World) (c : Value) (hc : c.oneCell' = true) : Src Tryd.prog 1 tx (.slice (some ⟨w.heap.size, 0, none⟩) 1 1) 1 [c] (w.alloc (.cells #[c] e')) :=
  Src.ofSlice _ hk ⟨w.heap.size, 0, none⟩ 1 1 [c] rfl (by intro j u hj; match j, hj with | 0, hj => simp at hj; subst hj; simp [Addr.add]) (by intro u hu; simp at hu; subst hu; exact hc)
theorem fr_append {w0 w w' : World} {v : Value} {n : Nat} {xs : List Value} {e : TypeId} {size : Nat} (h : w.ownsRow w0.heap.size e size v n xs) (f : Fr (fun _ => False) w0 w) (hg : w.grownBy w' v.ownBlock) : Fr (fun _ => False) w0 w' :=
  f.grown hg (fun k hk hlt => absurd hlt (by have := (World.ownsRow.lt h k hk).1; omega))

/-- What stands at the head of a round of the document's Parts. -/
structure QpRel (w : World) (l : List UInt8) (k : Nat) (v : Value) (acc : List (List UInt8)) (now : List UInt8) (wr : World) : Prop where
  own : wr.ownsRow w.heap.size 9 1 v acc.length (strV acc)
  fr : Fr (fun _ => False) w wr
  say : spl (l.take k) = acc ++ [now]
theorem QpRel.small {w : World} {l : List UInt8} {k : Nat} {v : Value} {acc : List (List UInt8)} {now : List UInt8} {wr : World} (h : QpRel w l k v acc now wr) : now.length ≤ l.length ∧ acc.length ≤ l.length := by
  have h1 := spl_len_le (l.take k) now (by rw [h.say]; simp)
  have h2 := spl_count (l.take k)
  rw [h.say, List.length_append, List.length_singleton] at h2
  have h3 := List.count_le_length (a := (47 : UInt8)) (l := l.take k)
  rw [List.length_take] at h1 h3
  omega
theorem take_snoc (l : List UInt8) (k : Nat) (h : k < l.length) : l.take (k + 1) = l.take k ++ [l.getD k 0] := by
  rw [List.take_add_one, List.getElem?_eq_getElem h, List.getD_eq_getElem?_getD, List.getElem?_eq_getElem h]
  rfl

set_option maxHeartbeats 3200000 in
theorem QrParts_any (l : List UInt8) (hl : l.length ≤ 900000) (w : World) : Calls Tryd.prog 19 #[.string (strB l)] w fun e w' =>
    ∃ A c, e = .returned (.slice A (prt l).length c) ∧ (prt l).length ≤ c ∧ Lies w' A (strV (prt l)) ∧ Below w.heap.size w w' := by
  obtain ⟨i0, hi, hz0, hz1, hz2⟩ := info_parts info_str
  have hL := strB_list l
  have hsz := strB_size l
  have HIX := Lib.hid (fun k hk w => index_str (P := Tryd.prog) w Tryd.underlying9 l k hk)
  have HSL := Lib.hid (fun k hk w => slice_one (P := Tryd.prog) w Tryd.underlying9 l k hk)
  by_cases h : l = []
  · have e1 : prt l = [] := by rw [prt, if_pos h]
    rw [e1]
    obtain ⟨S, hS⟩ : ∃ S, strB l = S := ⟨_, rfl⟩
    rw [hS] at hL ⊢
    clear e1 hS hsz HIX HSL
    go_enter Tryd.func19, Tryd.ntmps19
    go_wp2
    go_ret
    exact ⟨none, 0, rfl, Nat.le_refl _, .inl rfl, (Fr.refl (fun _ => False) w).below (fun _ _ e => e)⟩
  · rw [prt_of h]
    have h' : l.isEmpty = false := by simpa using h
    have HE : Hid (strB [] = ByteArray.mk #[]) := Lib.hid rfl
    obtain ⟨S, hS⟩ : ∃ S, strB l = S := ⟨_, rfl⟩
    rw [hS] at hL hsz HIX HSL ⊢
    obtain ⟨n, hn⟩ : ∃ n, l.length = n := ⟨_, rfl⟩
    have HNn := Lib.hid hn
    rw [hn] at hl hsz HIX HSL
    clear hS hn
    go_enter Tryd.func19, Tryd.ntmps19
    go_wp2
    clear hL h h'
    go_loopw [3, 4, 5] (fun v s i wr => ∃ (k : Nat) (acc : List (List UInt8)) (now : List UInt8), k ≤ n ∧ i = .int .i64 k ∧ s = .string (strB now) ∧ QpRel w l k v acc now wr) (fun _ _ i _ => n - (intOf i).toNat)
    case atStart => exact ⟨0, [], [], by omega, rfl, by rw [HE.out], World.ownsRow_nil w w.heap.size 9 1, Fr.refl _ _, rfl⟩
    case round =>
      obtain ⟨k, acc, now, hk, rfl, rfl, hr⟩ := hrel
      obtain ⟨A, c, hv, hnc, hcm⟩ := own_slice hr.own
      subst hv
      obtain ⟨hnow, hacc⟩ := hr.small
      rw [HNn.out] at hnow hacc
      have HR := Lib.hid hr
      clear hr
      by_cases hlt : k < n
      · have hix := HIX.out k hlt
        have htk := Lib.hid (take_snoc l k (by rw [HNn.out]; exact hlt))
        by_cases hb : l.getD k 0 = 47
        · rw [hb] at hix htk
          have e47 : (((47 : UInt8).toNat : Nat) : Int) = 47 := rfl
          rw [e47] at hix
          obtain ⟨R, hR⟩ : ∃ R, strB now = R := ⟨_, rfl⟩
          have HRn := Lib.hid hR
          rw [hR]
          clear hR hb
          go_wp2_with (at_builtin; refine wpList_append_row _ rfl (.tmp 19) (.tmp 21) 25 25 rfl w.heap.size 9 i0 (.string (strB [])) 1 16 Tryd.underlying25 hi hz0 hz1 hz2 rfl _ acc.length _ rfl ((HR.out.own).alloc _) _ 1 [.string R] rfl (src_one Tryd.underlying25 _ _ rfl) (by unfold maxLen; omega) (by omega) (by have := HR.out.fr.size; simp; omega) ?_
                       intro v1 w2 o1 g1 at1)
          have hn : QpRel w l (k + 1) v1 (acc ++ [now]) [] w2 := ⟨by rw [strV_append, List.length_append, ← HRn.out] at *; exact o1, fr_append (HR.out.own.alloc _) (HR.out.fr.alloc _) g1, by rw [htk.out, spl_snoc47, HR.out.say]⟩
          have HN := Lib.hid hn
          clear hn o1 g1 at1
          go_roundw
          case rel => exact ⟨k + 1, _, _, by omega, by go_num, by rw [HE.out], HN.out⟩
          case measure => simp [intOf]; omega
        · have hsl := HSL.out k hlt
          have hadd := fun w => add_str (P := Tryd.prog) now [l.getD k 0] (by rw [List.length_singleton]; omega) w
          have HN : Hid (QpRel w l (k + 1) (.slice A acc.length c) acc (now ++ [l.getD k 0]) wr) := Lib.hid ⟨HR.out.own, HR.out.fr, by rw [htk.out, spl_snoc _ _ hb _ _ HR.out.say]⟩
          obtain ⟨z, hz⟩ : ∃ z : Int, (((l.getD k 0).toNat : Nat) : Int) = z := ⟨_, rfl⟩
          have hz47 : ¬ z = 47 := fun e => hb (UInt8.toNat_inj.1 (by show (l.getD k 0).toNat = 47; omega))
          rw [hz] at hix
          obtain ⟨R, hR⟩ : ∃ R, strB now = R := ⟨_, rfl⟩
          obtain ⟨U, hU⟩ : ∃ R, strB [l.getD k 0] = R := ⟨_, rfl⟩
          obtain ⟨nx, hnx⟩ : ∃ R, now ++ [l.getD k 0] = R := ⟨_, rfl⟩
          obtain ⟨V, hV⟩ : ∃ R, strB nx = R := ⟨_, rfl⟩
          have HV := Lib.hid hV
          rw [hU] at hsl hadd
          rw [hnx] at hadd HN
          rw [hR, hV] at hadd
          rw [hR]
          clear hR hU hV hnx hb hz htk
          go_wp2_with fail
          go_roundw
          case rel => exact ⟨k + 1, _, nx, by omega, by go_num, by rw [HV.out], HN.out⟩
          case measure => simp [intOf]; omega
      · obtain rfl : k = n := by omega
        obtain ⟨R, hR⟩ : ∃ R, strB now = R := ⟨_, rfl⟩
        have HRn := Lib.hid hR
        rw [hR]
        clear hR
        go_wp2_with (at_builtin; refine wpList_append_row _ rfl (.tmp 30) (.tmp 32) 25 25 rfl w.heap.size 9 i0 (.string (strB [])) 1 16 Tryd.underlying25 hi hz0 hz1 hz2 rfl _ acc.length _ rfl ((HR.out.own).alloc _) _ 1 [.string R] rfl (src_one Tryd.underlying25 _ _ rfl) (by unfold maxLen; omega) (by omega) (by have := HR.out.fr.size; simp; omega) ?_
                     intro v1 w2 o1 g1 at1)
        have hs : spl l = acc ++ [now] := by
          have := HR.out.say
          rwa [← HNn.out, List.take_length] at this
        have hf := fr_append (HR.out.own.alloc (.cells #[.string R] 9)) (HR.out.fr.alloc _) g1
        obtain ⟨A', c', hv, hnc', hcm'⟩ := own_slice o1
        subst hv
        have hli := Lies.of_own o1
        go_ret
        refine ⟨A', c', ?_, ?_, ?_, hf.below (fun _ _ e => e)⟩
        · rw [hs, List.length_append]; rfl
        · rw [hs, List.length_append]; exact hnc'
        · rw [hs, strV_append, ← HRn.out] at *
          exact hli
end Go.Proofs.YtnekddpnajgmdaaDoor

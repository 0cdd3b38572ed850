/- What is proved: names, by the program and by the document. Conditions: the text is not too long for any machine. -/
import Derived.Test.YtppddpbacpeadaaDoorRtc
import Derived.Laws.OwnMore
namespace Go.Proofs.YtppddpbacpeadaaDoor
open Go.RowKit
set_option linter.unusedVariables false

theorem name_eq (l : List UInt8) (n : Nat) (hn : l.length = n) : nameB l = (decide (1 ≤ n) && decide (n ≤ 32) && visB l && !l.contains 47 && !(l == [46]) && !(l == [46, 46])) := by rw [nameB, hn]

set_option maxHeartbeats 1000000 in
set_option maxRecDepth 100000 in
theorem RtName_any (l : List UInt8) (hl : l.length ≤ 9223372036854775806) (w : World) : Calls Tryd.prog 34 #[.string (strB l)] w fun e w' => e = .returned (.bool (nameB l)) ∧ w = w' := by
  have c1 := Lib.hid (fun w => Rtvisible_any l hl w)
  have c2 : Hid (∀ w, Calls Tryd.prog 49 #[.string (strB l), .string (ByteArray.mk #[47])] w fun e w' => e = .returned (.bool (l.contains 47)) ∧ w = w') := Lib.hid (fun w => GContains_any l w)
  have hsz := strB_size l
  have hL := strB_list l
  obtain ⟨S, hS⟩ : ∃ S, strB l = S := ⟨_, rfl⟩
  obtain ⟨n, hn⟩ : ∃ n, l.length = n := ⟨_, rfl⟩
  rw [hS] at hsz hL c1 c2 ⊢
  rw [hn] at hsz hl
  have HE := Lib.hid (name_eq l n hn)
  obtain ⟨r, hr⟩ : ∃ r, nameB l = r := ⟨_, rfl⟩
  rw [hr] at HE ⊢
  obtain ⟨b4, hb4⟩ : ∃ b, visB l = b := ⟨_, rfl⟩
  obtain ⟨b5, hb5⟩ : ∃ b, l.contains 47 = b := ⟨_, rfl⟩
  rw [hb4] at c1 HE
  rw [hb5] at c2 HE
  have h0 : l ≠ [] → 1 ≤ n := fun h => by rw [← hn]; exact List.length_pos_iff.2 h
  have H0 := Lib.hid h0
  have H1 : Hid (l = [] → n = 0) := Lib.hid (fun h => by rw [← hn, h]; rfl)
  clear hb4 hb5 hn hS hr h0
  go_enter Tryd.func34, Tryd.ntmps34
  by_cases hlen : n ≤ 32
  · by_cases h1 : l = [46]
    · go_wp2
      go_ret
      exact ⟨by rw [HE.out, h1]; simp, rfl⟩
    · have e1 : (l == [46]) = false := by simpa using h1
      by_cases h2 : l = [46, 46]
      · go_wp2
        go_ret
        exact ⟨by rw [HE.out, h2]; simp, rfl⟩
      · have e2 : (l == [46, 46]) = false := by simpa using h2
        by_cases h3 : l = []
        · have h4 := H1.out h3
          go_wp2
          go_ret
          exact ⟨by rw [HE.out, h4]; rfl, rfl⟩
        · have h4 := H0.out h3
          have e3 : l.isEmpty = false := by simpa using h3
          cases b4
          · go_wp2_with (go_at_call 48; refine (c1.out _).mono ?_; rintro e w' ⟨rfl, rfl⟩)
            go_ret
            exact ⟨by rw [HE.out]; simp, rfl⟩
          · go_wp2_with (first
              | (go_at_call 48; refine (c1.out _).mono ?_; rintro e w' ⟨rfl, rfl⟩)
              | (go_at_call 49; refine (c2.out _).mono ?_; rintro e w' ⟨rfl, rfl⟩))
            go_ret
            refine ⟨?_, rfl⟩
            rw [HE.out]
            rw [e1, e2, decide_eq_true h4, decide_eq_true hlen]
            simp
  · go_wp2
    go_ret
    exact ⟨by rw [HE.out]; simp [hlen]; try rfl, rfl⟩

theorem add_str {P : Program} (a b : List UInt8) (h : a.length + b.length ≤ 9223372036854775807) (w : World) : (Op.stringOp .add (strB a) (strB b)).run P w = .ok (.string (strB (a ++ b))) w := by
  rw [← strB_append]
  exact run_string_add_sum w _ _ (by rw [strB_size, strB_size]; exact h)
theorem join_one {P : Program} (a : List UInt8) (h : a.length + 1 ≤ 9223372036854775807) (w : World) : (Op.stringOp .add (strB a) (ByteArray.mk #[47])).run P w = .ok (.string (strB (a ++ [47]))) w := add_str a [47] h w

/-- Texts as cells. -/
def strV (ps : List (List UInt8)) : List Value := ps.map fun p => .string (strB p)
theorem strV_len (ps : List (List UInt8)) : (strV ps).length = ps.length := by simp [strV]
theorem strV_append (a b : List (List UInt8)) : strV (a ++ b) = strV a ++ strV b := by simp [strV]
theorem strV_get (ps : List (List UInt8)) (k : Nat) (h : k < ps.length) : (strV ps)[k]? = some (.string (strB (ps.getD k []))) := by
  rw [strV, List.getElem?_map, List.getElem?_eq_getElem h, List.getD_eq_getElem?_getD, List.getElem?_eq_getElem h]
  rfl
theorem strV_one (ps : List (List UInt8)) : ∀ v ∈ strV ps, v.oneCell' = true := by
  intro v hv
  obtain ⟨p, _, rfl⟩ := List.mem_map.1 hv
  rfl

theorem info_parts {P : Program} {t : TypeId} {z : Value} {s b : Nat} (h : (P.info? t).map (fun i => (i.zero, i.size, i.bytes)) = some (some z, s, b)) : ∃ i, P.info? t = some i ∧ i.zero = some z ∧ i.size = s ∧ i.bytes = b := by
  cases hq : P.info? t with
  | none => simp [hq] at h
  | some i =>
    simp [hq] at h
    exact ⟨i, rfl, h.1, h.2.1, h.2.2⟩
theorem info_str : (Tryd.prog.info? 9).map (fun i => (i.zero, i.size, i.bytes)) = some (some (.string (strB [])), 1, 16) := by kernel_rfl
/-- One cell that the call has just laid, as a source. -/
theorem src_one {tx e' : TypeId} (hk : Tryd.prog.underlying tx = some (.slice e')) (w : World) (c : Value) (hc : c.oneCell' = true) : Src Tryd.prog 1 tx (.slice (some ⟨w.heap.size, 0, none⟩) 1 1) 1 [c] (w.alloc (.cells #[c] e')) :=
  Src.ofSlice _ hk ⟨w.heap.size, 0, none⟩ 1 1 [c] rfl (by intro j u hj; match j, hj with | 0, hj => simp at hj; subst hj; simp [Addr.add]) (by intro u hu; simp at hu; subst hu; exact hc)
theorem fr_append {w0 w w' : World} {v : Value} {n : Nat} {xs : List Value} {e : TypeId} {size : Nat} (h : w.ownsRow w0.heap.size e size v n xs) (f : Fr (fun _ => False) w0 w) (hg : w.grownBy w' v.ownBlock) : Fr (fun _ => False) w0 w' :=
  f.grown hg (fun k hk hlt => absurd hlt (by have := (World.ownsRow.lt h k hk).1; omega))

/-- What stands at the head of a round of the document's Parts. -/
structure QpRel (w : World) (l : List UInt8) (k : Nat) (v : Value) (acc : List (List UInt8)) (now : List UInt8) (wr : World) : Prop where
  own : wr.ownsRow w.heap.size 9 1 v acc.length (strV acc)
  fr : Fr (fun _ => False) w wr
  say : spl (l.take k) = acc ++ [now]
theorem QpRel.small {w : World} {l : List UInt8} {k : Nat} {v : Value} {acc : List (List UInt8)} {now : List UInt8} {wr : World} (h : QpRel w l k v acc now wr) : now.length ≤ l.length ∧ acc.length ≤ l.length := by
  have h1 := spl_len_le (l.take k) now (by rw [h.say]; simp)
  have h2 := spl_count (l.take k)
  rw [h.say, List.length_append, List.length_singleton] at h2
  have h3 := List.count_le_length (a := (47 : UInt8)) (l := l.take k)
  rw [List.length_take] at h1 h3
  omega
theorem take_snoc (l : List UInt8) (k : Nat) (h : k < l.length) : l.take (k + 1) = l.take k ++ [l.getD k 0] := by
  rw [List.take_add_one, List.getElem?_eq_getElem h, List.getD_eq_getElem?_getD, List.getElem?_eq_getElem h]
  rfl

set_option maxHeartbeats 3200000 in
set_option maxRecDepth 100000 in
theorem QrParts_any (l : List UInt8) (hl : l.length ≤ 900000) (w : World) : Calls Tryd.prog 51 #[.string (strB l)] w fun e w' =>
    ∃ A c, e = .returned (.slice A (prt l).length c) ∧ (prt l).length ≤ c ∧ Lies w' A (strV (prt l)) ∧ Below w.heap.size w w' := by
  obtain ⟨i0, hi, hz0, hz1, hz2⟩ := info_parts info_str
  have hL := strB_list l
  have hsz := strB_size l
  have HIX := Lib.hid (fun k hk w => index_str (P := Tryd.prog) w Tryd.underlying9 l k hk)
  have HSL := Lib.hid (fun k hk w => slice_one (P := Tryd.prog) w Tryd.underlying9 l k hk)
  by_cases h : l = []
  · have e1 : prt l = [] := by rw [prt, if_pos h]
    rw [e1]
    obtain ⟨S, hS⟩ : ∃ S, strB l = S := ⟨_, rfl⟩
    rw [hS] at hL ⊢
    clear e1 hS hsz HIX HSL
    go_enter Tryd.func51, Tryd.ntmps51
    go_wp2
    go_ret
    exact ⟨none, 0, rfl, Nat.le_refl _, .inl rfl, (Fr.refl (fun _ => False) w).below (fun _ _ e => e)⟩
  · rw [prt_of h]
    have h' : l.isEmpty = false := by simpa using h
    have HE : Hid (strB [] = ByteArray.mk #[]) := Lib.hid rfl
    obtain ⟨S, hS⟩ : ∃ S, strB l = S := ⟨_, rfl⟩
    rw [hS] at hL hsz HIX HSL ⊢
    obtain ⟨n, hn⟩ : ∃ n, l.length = n := ⟨_, rfl⟩
    have HNn := Lib.hid hn
    rw [hn] at hl hsz HIX HSL
    clear hS hn
    go_enter Tryd.func51, Tryd.ntmps51
    go_wp2
    clear hL h h'
    go_loopw [3, 4, 5] (fun v s i wr => ∃ (k : Nat) (acc : List (List UInt8)) (now : List UInt8), k ≤ n ∧ i = .int .i64 k ∧ s = .string (strB now) ∧ QpRel w l k v acc now wr) (fun _ _ i _ => n - (intOf i).toNat)
    case atStart => exact ⟨0, [], [], by omega, rfl, by rw [HE.out], World.ownsRow_nil w w.heap.size 9 1, Fr.refl _ _, rfl⟩
    case round =>
      obtain ⟨k, acc, now, hk, rfl, rfl, hr⟩ := hrel
      obtain ⟨A, c, hv, hnc, hcm⟩ := own_slice hr.own
      subst hv
      obtain ⟨hnow, hacc⟩ := hr.small
      rw [HNn.out] at hnow hacc
      have HR := Lib.hid hr
      clear hr
      by_cases hlt : k < n
      · have hix := HIX.out k hlt
        have htk := Lib.hid (take_snoc l k (by rw [HNn.out]; exact hlt))
        by_cases hb : l.getD k 0 = 47
        · rw [hb] at hix htk
          have e47 : (((47 : UInt8).toNat : Nat) : Int) = 47 := rfl
          rw [e47] at hix
          obtain ⟨R, hR⟩ : ∃ R, strB now = R := ⟨_, rfl⟩
          have HRn := Lib.hid hR
          rw [hR]
          clear hR hb
          go_wp2_with (at_builtin; refine wpList_append_row _ rfl (.tmp 19) (.tmp 21) 82 82 rfl w.heap.size 9 i0 (.string (strB [])) 1 16 Tryd.underlying82 hi hz0 hz1 hz2 rfl _ acc.length _ rfl ((HR.out.own).alloc _) _ 1 [.string R] rfl (src_one Tryd.underlying82 _ _ rfl) (by unfold maxLen; omega) (by omega) (by have := HR.out.fr.size; simp; omega) ?_
                       intro v1 w2 o1 g1 at1)
          have hn : QpRel w l (k + 1) v1 (acc ++ [now]) [] w2 := ⟨by rw [strV_append, List.length_append, ← HRn.out] at *; exact o1, fr_append (HR.out.own.alloc _) (HR.out.fr.alloc _) g1, by rw [htk.out, spl_snoc47, HR.out.say]⟩
          have HN := Lib.hid hn
          clear hn o1 g1 at1
          go_roundw
          case rel => exact ⟨k + 1, _, _, by omega, by go_num, by rw [HE.out], HN.out⟩
          case measure => simp [intOf]; omega
        · have hsl := HSL.out k hlt
          have hadd := fun w => add_str (P := Tryd.prog) now [l.getD k 0] (by rw [List.length_singleton]; omega) w
          have HN : Hid (QpRel w l (k + 1) (.slice A acc.length c) acc (now ++ [l.getD k 0]) wr) := Lib.hid ⟨HR.out.own, HR.out.fr, by rw [htk.out, spl_snoc _ _ hb _ _ HR.out.say]⟩
          obtain ⟨z, hz⟩ : ∃ z : Int, (((l.getD k 0).toNat : Nat) : Int) = z := ⟨_, rfl⟩
          have hz47 : ¬ z = 47 := fun e => hb (UInt8.toNat_inj.1 (by show (l.getD k 0).toNat = 47; omega))
          rw [hz] at hix
          obtain ⟨R, hR⟩ : ∃ R, strB now = R := ⟨_, rfl⟩
          obtain ⟨U, hU⟩ : ∃ R, strB [l.getD k 0] = R := ⟨_, rfl⟩
          obtain ⟨nx, hnx⟩ : ∃ R, now ++ [l.getD k 0] = R := ⟨_, rfl⟩
          obtain ⟨V, hV⟩ : ∃ R, strB nx = R := ⟨_, rfl⟩
          have HV := Lib.hid hV
          rw [hU] at hsl hadd
          rw [hnx] at hadd HN
          rw [hR, hV] at hadd
          rw [hR]
          clear hR hU hV hnx hb hz htk
          go_wp2_with fail
          go_roundw
          case rel => exact ⟨k + 1, _, nx, by omega, by go_num, by rw [HV.out], HN.out⟩
          case measure => simp [intOf]; omega
      · obtain rfl : k = n := by omega
        obtain ⟨R, hR⟩ : ∃ R, strB now = R := ⟨_, rfl⟩
        have HRn := Lib.hid hR
        rw [hR]
        clear hR
        go_wp2_with (at_builtin; refine wpList_append_row _ rfl (.tmp 30) (.tmp 32) 82 82 rfl w.heap.size 9 i0 (.string (strB [])) 1 16 Tryd.underlying82 hi hz0 hz1 hz2 rfl _ acc.length _ rfl ((HR.out.own).alloc _) _ 1 [.string R] rfl (src_one Tryd.underlying82 _ _ rfl) (by unfold maxLen; omega) (by omega) (by have := HR.out.fr.size; simp; omega) ?_
                     intro v1 w2 o1 g1 at1)
        have hs : spl l = acc ++ [now] := by
          have := HR.out.say
          rwa [← HNn.out, List.take_length] at this
        have hf := fr_append (HR.out.own.alloc (.cells #[.string R] 9)) (HR.out.fr.alloc _) g1
        obtain ⟨A', c', hv, hnc', hcm'⟩ := own_slice o1
        subst hv
        have hli := Lies.of_own o1
        go_ret
        refine ⟨A', c', ?_, ?_, ?_, hf.below (fun _ _ e => e)⟩
        · rw [hs, List.length_append]; rfl
        · rw [hs, List.length_append]; exact hnc'
        · rw [hs, strV_append, ← HRn.out] at *
          exact hli
theorem one_part (l : List UInt8) (h : l ≠ []) : decide ((prt l).length = 1) = !l.contains 47 := by
  rw [prt_of h, spl_count, Bool.eq_iff_iff]
  simp [List.count_eq_zero]
theorem right_name (l : List UInt8) (n : Nat) (hn : l.length = n) : nameB l = (decide (1 ≤ n) && decide (n ≤ 32) && visB l && (decide ((prt l).length = 1) && !(l == [46]) && !(l == [46, 46]))) := by
  by_cases h : l = []
  · subst h; subst hn; rfl
  · rw [one_part l h, name_eq l n hn]
    simp only [Bool.and_assoc]

set_option maxHeartbeats 3200000 in
set_option maxRecDepth 100000 in
theorem QrName_any (l : List UInt8) (hl : l.length ≤ 9223372036854775806) (w : World) : Calls Tryd.prog 36 #[.string (strB l)] w fun e w' => e = .returned (.bool (nameB l)) ∧ Below w.heap.size w w' := by
  have c1 := Lib.hid (fun w => Qrseen_any l (by omega) w)
  have c2 := Lib.hid (fun (hl2 : l.length ≤ 32) w => QrParts_any l (by omega) w)
  have hsz := strB_size l
  have hL := strB_list l
  obtain ⟨S, hS⟩ : ∃ S, strB l = S := ⟨_, rfl⟩
  obtain ⟨n, hn⟩ : ∃ n, l.length = n := ⟨_, rfl⟩
  rw [hS] at hsz hL c1 c2 ⊢
  have HE := Lib.hid (right_name l n hn)
  rw [hn] at hsz hl
  obtain ⟨r, hr⟩ : ∃ r, nameB l = r := ⟨_, rfl⟩
  rw [hr] at HE ⊢
  obtain ⟨b4, hb4⟩ : ∃ b, visB l = b := ⟨_, rfl⟩
  obtain ⟨m, hm⟩ : ∃ b, (prt l).length = b := ⟨_, rfl⟩
  rw [hb4] at c1 HE
  rw [hm, hn] at c2
  rw [hm] at HE
  have HB := Lib.hid ((Fr.refl (fun _ => False) w).below (fun _ _ e => e))
  clear hb4 hm hn hS hr
  go_enter Tryd.func36, Tryd.ntmps36
  by_cases h1 : 1 ≤ n
  · have hd1 : decide (1 ≤ n) = true := decide_eq_true h1
    by_cases h2 : n ≤ 32
    · have hd2 : decide (n ≤ 32) = true := decide_eq_true h2
      cases b4
      · go_wp2_with (go_at_call 50; refine (c1.out _).mono ?_; rintro e w' ⟨rfl, rfl⟩)
        go_ret
        exact ⟨by rw [HE.out]; simp, HB.out⟩
      · by_cases h3 : m = 1
        · have hd3 : decide (m = 1) = true := decide_eq_true h3
          by_cases h4 : l = [46]
          · go_wp2_with (first
              | (go_at_call 50; refine (c1.out _).mono ?_; rintro e w' ⟨rfl, rfl⟩)
              | (go_at_call 51; refine (c2.out h2 _).mono ?_; rintro e w' ⟨A, c, rfl, _, _, b⟩))
            go_ret
            exact ⟨by rw [HE.out, h4]; simp, b⟩
          · have e1 : (l == [46]) = false := by simpa using h4
            by_cases h5 : l = [46, 46]
            · go_wp2_with (first
                | (go_at_call 50; refine (c1.out _).mono ?_; rintro e w' ⟨rfl, rfl⟩)
                | (go_at_call 51; refine (c2.out h2 _).mono ?_; rintro e w' ⟨A, c, rfl, _, _, b⟩))
              go_ret
              exact ⟨by rw [HE.out, h5]; simp, b⟩
            · have e2 : (l == [46, 46]) = false := by simpa using h5
              go_wp2_with (first
                | (go_at_call 50; refine (c1.out _).mono ?_; rintro e w' ⟨rfl, rfl⟩)
                | (go_at_call 51; refine (c2.out h2 _).mono ?_; rintro e w' ⟨A, c, rfl, _, _, b⟩))
              go_ret
              exact ⟨by rw [HE.out, hd1, hd2, hd3, e1, e2]; rfl, b⟩
        · have hd3 : decide (m = 1) = false := decide_eq_false h3
          go_wp2_with (first
            | (go_at_call 50; refine (c1.out _).mono ?_; rintro e w' ⟨rfl, rfl⟩)
            | (go_at_call 51; refine (c2.out h2 _).mono ?_; rintro e w' ⟨A, c, rfl, _, _, b⟩))
          go_ret
          exact ⟨by rw [HE.out, hd3]; simp, b⟩
    · have hd2 : decide (n ≤ 32) = false := decide_eq_false h2
      go_wp2
      go_ret
      exact ⟨by rw [HE.out, hd2]; simp, HB.out⟩
  · have hd1 : decide (1 ≤ n) = false := decide_eq_false h1
    go_wp2
    go_ret
    exact ⟨by rw [HE.out, hd1]; simp, HB.out⟩
end Go.Proofs.YtppddpbacpeadaaDoor

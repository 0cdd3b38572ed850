/- What is proved: the line of a word, by the document. Conditions: the word has no byte 10; the text is not too long. -/
import Derived.Test.YtppddpbacpeadaaDoorRwd
namespace Go.Proofs.YtppddpbacpeadaaDoor
open Go.RowKit Go.Sort Go.Shelf
set_option linter.unusedVariables false

theorem slice_mid {P : Program} (w : World) {t : TypeId} (h : P.underlying t = some .string) (l : List UInt8) (a b : Nat) (hab : a ≤ b) (hb : b ≤ l.length) : (Instr.slice t (.string (strB l)) (some (.int .i64 a)) (some (.int .i64 b)) none).run P w = .ok (.string (strB ((l.take b).drop a))) w := by
  rw [run_slice_string_if w t _ .i64 .i64 a b h, if_pos ⟨by omega, by rw [strB_size]; omega⟩, if_pos ⟨by omega, by omega⟩, strB_extract]
  simp
/-- What the document's call answers. -/
def LineIs (G : Option (List UInt8 × List UInt8)) (e : Ending) : Prop := match G with
  | some (t, r) => e = .returned (.tuple #[.string (strB t), .string (strB r), .bool true])
  | none => e = .returned (.tuple #[.string (strB []), .string (strB []), .bool false])
theorem LineIs.no {G : Option (List UInt8 × List UInt8)} {e : Ending} (h : G = none) (he : e = .returned (.tuple #[.string (strB []), .string (strB []), .bool false])) : LineIs G e := by subst h; exact he
theorem LineIs.yes {G : Option (List UInt8 × List UInt8)} {e : Ending} {t r : List UInt8} (h : G = some (t, r)) (he : e = .returned (.tuple #[.string (strB t), .string (strB r), .bool true])) : LineIs G e := by subst h; exact he
set_option maxHeartbeats 3200000 in
set_option maxRecDepth 100000 in
theorem QvLine_any (word s : List UInt8) (hw : word.length ≤ 100) (hn : ∀ b ∈ word, b ≠ 10) (hs : s.length ≤ 1000000) (w : World) :
    Calls Tryd.prog 40 #[.string (strB s), .string (strB word)] w fun e w' => LineIs (takeL word s) e ∧ Below w.heap.size w w' := by
  have HIX := Lib.hid (fun k hk w => index_str (P := Tryd.prog) w Tryd.underlying9 s k hk)
  have hss := strB_size s
  have hws := strB_size word
  have hla := lnA_len s
  have hfacts : (∀ k, k < (lnA s).length → s.getD k 0 ≠ 10) ∧ ((lnA s).length < s.length → s.getD (lnA s).length 0 = 10) ∧ (has10 s = false → (lnA s).length = s.length) ∧ (has10 s = true → (lnA s).length < s.length ∧ lnB s = s.drop ((lnA s).length + 1) ∧ lnA s = s.take (lnA s).length) := by
    rcases idx10_cases s with ⟨_, h1, h2, h3, h4⟩ | ⟨m, _, hml, h0, h1, h2, h3, h4⟩
    · rw [h3]
      refine ⟨fun k hk => ?_, fun h => absurd h (Nat.lt_irrefl _), fun _ => rfl, fun h => by rw [h2] at h; cases h⟩
      rw [List.getD_eq_getElem?_getD, List.getElem?_eq_getElem hk]
      exact h1 _ (List.getElem_mem _)
    · have hlen : (lnA s).length = m := by rw [h3, List.length_take]; omega
      rw [hlen]
      refine ⟨fun k hk => ?_, fun _ => ?_, fun h => (by rw [h2] at h; cases h), fun _ => ⟨hml, h4, h3⟩⟩
      · rw [List.getD_eq_getElem?_getD, List.getElem?_eq_getElem (by omega)]
        refine h1 _ ?_
        rw [List.mem_take_iff_getElem]
        exact ⟨k, by omega, rfl⟩
      · rw [h0, List.getD_eq_getElem?_getD, List.getElem?_append_right (by rw [List.length_take]; omega), List.length_take, show m - min m s.length = 0 by omega]
        rfl
  have HFA := Lib.hid hfacts
  have hpre := pre_take (word ++ [32]) s
  have hbw : (word ++ [32]).isPrefixOf s = begW word s := rfl
  rw [hbw, List.length_append, List.length_singleton] at hpre
  have HPRE := Lib.hid hpre
  have HWF := Lib.hid (fun h1 h2 => word_fits (word := word) (s := s) hn h1 h2)
  have HTS := Lib.hid (fun h1 h2 => takeL_some (word := word) (s := s) h1 h2)
  have HTN := Lib.hid (fun h1 => takeL_no (word := word) (s := s) h1)
  have HTN2 := Lib.hid (fun h1 => takeL_none (word := word) (s := s) h1)
  obtain ⟨G, hG⟩ : ∃ G, takeL word s = G := ⟨_, rfl⟩
  rw [hG] at HTS HTN HTN2 ⊢
  have hadd : ∀ w, (Op.stringOp .add (strB word) (ByteArray.mk #[32])).run Tryd.prog w = .ok (.string (strB (word ++ [32]))) w := fun w => add_str word [32] (by simp; omega) w
  have HST := Lib.hid (fun (k : Nat) (hk : k ≤ s.length) w => slice_to (P := Tryd.prog) w Tryd.underlying9 s k hk)
  have HSF := Lib.hid (fun (k : Nat) (hk : k ≤ s.length) w => slice_from (P := Tryd.prog) w Tryd.underlying9 s k hk)
  have HSM := Lib.hid (fun (a b : Nat) (hab : a ≤ b) (hb : b ≤ s.length) w => slice_mid (P := Tryd.prog) w Tryd.underlying9 s a b hab hb)
  have HEQ := Lib.hid (str_eq (s.take (word.length + 1)) (word ++ [32]))
  obtain ⟨n, hn'⟩ : ∃ n, s.length = n := ⟨_, rfl⟩
  obtain ⟨wl, hwl⟩ : ∃ n, word.length = n := ⟨_, rfl⟩
  obtain ⟨M, hM⟩ : ∃ n, (lnA s).length = n := ⟨_, rfl⟩
  rw [hn'] at HIX hss hla HFA HPRE HST HSF HSM hs
  rw [hwl] at hws HPRE HWF HTS HEQ hw
  rw [hM] at hla HFA HWF
  obtain ⟨S, hS⟩ : ∃ S, strB s = S := ⟨_, rfl⟩
  obtain ⟨W, hW⟩ : ∃ S, strB word = S := ⟨_, rfl⟩
  obtain ⟨X, hX⟩ : ∃ S, strB (word ++ [32]) = S := ⟨_, rfl⟩
  obtain ⟨Y, hY⟩ : ∃ S, strB (s.take (wl + 1)) = S := ⟨_, rfl⟩
  have HYY := Lib.hid hY
  rw [hS] at HIX hss HST HSF HSM ⊢
  rw [hW] at hws hadd ⊢
  rw [hX] at hadd HEQ
  rw [hY] at HEQ
  have w1 := wrap_n1 wl (by omega)
  clear hG hpre hbw hn' hwl hM hS hW hX hY hfacts hn
  go_enter Tryd.func40, Tryd.ntmps40
  go_wp2
  go_loopw [7] (fun i wr => ∃ k : Nat, k ≤ M ∧ i = .int .i64 k ∧ w = wr) (fun i _ => M - (intOf i).toNat)
  case atStart => exact ⟨0, by omega, rfl, rfl⟩
  case round =>
    obtain ⟨k, hk, rfl, rfl⟩ := hrel
    have wk1 := wrap_k1 k (by omega)
    have wk2 := wrap_n1 k (by omega)
    by_cases hkM : k < M
    · have hk0 : (k : Int) < n := by omega
      have hixk := fun w => HIX.out k (by omega) w
      have hne := HFA.out.1 k hkM
      obtain ⟨x, hx⟩ : ∃ x : Int, ((s.getD k 0).toNat : Int) = x := ⟨_, rfl⟩
      have hb : (x == 10) = false := by
        rw [beq_eq_false_iff_ne, ← hx]
        intro h
        exact hne (UInt8.toNat_inj.1 (by show _ = 10; omega))
      rw [hx] at hixk
      clear hx hne
      go_wp2_with fail
      go_roundw
      case rel => exact ⟨k + 1, by omega, by go_num, by first | rfl | trivial⟩
      case measure => simp [intOf]; omega
    · obtain rfl : k = M := by omega
      cases h10 : has10 s with
      | false =>
        have hMn := HFA.out.2.2.1 h10
        have hG := HTN2.out h10
        have HGn := Lib.hid hG
        clear hG
        obtain rfl : k = n := by omega
        clear h10
        go_wp2_with fail
        go_ret3
        exact ⟨LineIs.no HGn.out rfl, (Fr.refl (fun _ => False) w).below (fun _ _ e => e)⟩
      | true =>
        obtain ⟨hMn, hlB, hlA⟩ := HFA.out.2.2.2 h10
        have hk0 : (k : Int) < n := by omega
        have hkn : ((k : Int) == n) = false := by rw [beq_eq_false_iff_ne]; omega
        have hixk := fun w => HIX.out k hMn w
        rw [HFA.out.2.1 hMn, show ((10 : UInt8).toNat : Int) = 10 from rfl] at hixk
        by_cases hfit : k < wl + 1
        · have hfz : (k : Int) < (wl : Int) + 1 := by omega
          have hb : begW word s = false := by
            cases hx : begW word s with
            | false => rfl
            | true => have := HWF.out hx h10; omega
          have HGn := Lib.hid (HTN.out hb)
          clear h10 hlB hlA hb
          go_wp2_with fail
          go_ret3
          exact ⟨LineIs.no HGn.out rfl, (Fr.refl (fun _ => False) w).below (fun _ _ e => e)⟩
        · have hfz : ¬ (k : Int) < (wl : Int) + 1 := by omega
          have hst : ∀ w, (Instr.slice 9 (.string S) none (some (.int .i64 ((wl : Int) + 1))) none).run Tryd.prog w = .ok (.string Y) w := fun w => by have := HST.out (wl + 1) (by omega) w; rw [HYY.out] at this; exact this
          have he := HEQ.out
          have hp := HPRE.out
          rw [decide_eq_true (by omega), Bool.true_and] at hp
          cases hb : begW word s with
          | false =>
            rw [hb] at hp
            rw [← hp] at he
            have HGn := Lib.hid (HTN.out hb)
            clear h10 hlB hlA hb hp
            have hne : ¬ Y.toList = X.toList := by simpa using he
            go_wp2_with fail
            go_ret3
            exact ⟨LineIs.no HGn.out rfl, (Fr.refl (fun _ => False) w).below (fun _ _ e => e)⟩
          | true =>
            rw [hb] at hp
            rw [← hp] at he
            have HGs := Lib.hid (HTS.out hb h10)
            rw [hlB] at HGs
            have hsm : ∀ w, (Instr.slice 9 (.string S) (some (.int .i64 ((wl : Int) + 1))) (some (.int .i64 k)) none).run Tryd.prog w = .ok (.string (strB ((lnA s).drop (wl + 1)))) w := fun w => by have := HSM.out (wl + 1) k (by omega) (by omega) w; rw [← hlA] at this; exact this
            have hsf : ∀ w, (Instr.slice 9 (.string S) (some (.int .i64 ((k : Int) + 1))) none none).run Tryd.prog w = .ok (.string (strB (s.drop (k + 1)))) w := fun w => HSF.out (k + 1) (by omega) w
            obtain ⟨S2, hS2⟩ : ∃ S, strB ((lnA s).drop (wl + 1)) = S := ⟨_, rfl⟩
            obtain ⟨S3, hS3⟩ : ∃ S, strB (s.drop (k + 1)) = S := ⟨_, rfl⟩
            have HE2 := Lib.hid hS2
            have HE3 := Lib.hid hS3
            rw [hS2] at hsm
            rw [hS3] at hsf
            have hye : Y.toList = X.toList := by simpa using he
            clear h10 hlB hlA hb hp hS2 hS3
            go_wp2_with fail
            go_region
            go_wp2
            go_ret3
            refine ⟨LineIs.yes HGs.out (by rw [HE2.out, HE3.out]; rfl), ?_⟩
            first | exact (Fr.refl (fun _ => False) w).below (fun _ _ e => e) | exact ((Fr.refl (fun _ => False) w).drew).below (fun _ _ e => e)
end Go.Proofs.YtppddpbacpeadaaDoor

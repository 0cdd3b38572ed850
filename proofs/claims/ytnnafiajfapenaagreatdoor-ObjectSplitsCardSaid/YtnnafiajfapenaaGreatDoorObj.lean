/- What is proved: bytes as a kind and a body, by the document. Conditions: the bytes' cells are there. -/
import Derived.Test.YtnnafiajfapenaaGreatDoorObi
import Derived.Test.YtnnafiajfapenaaGreatDoorBo
namespace Go.Proofs.YtnnafiajfapenaaGreatDoor
open Go.RowKit Go.Sort Go.Shelf
set_option linter.unusedVariables false

/-! What the first byte 0 among 20, and the first blank ahead of it, tell. -/
theorem headT_none {b : List UInt8} {e : Nat} (h1 : ∀ i, i < e → b[i]? ≠ some 0) (h2 : e = b.length ∨ e = 20) (h3 : e ≤ b.length) (h4 : e ≤ 20) : headT b = none := by
  have hx : idx0 (b.take 20) = -1 := by
    rcases idx0_cases (b.take 20) with ⟨h, _⟩ | ⟨m, _, hml, _, _, h5, _⟩
    · exact h
    · rw [List.length_take] at hml
      rw [List.getElem?_take_of_lt (by omega)] at h5
      exact absurd h5 (h1 m (by omega))
  rw [headT, if_pos hx]
theorem headT_at {b : List UInt8} {e : Nat} (h1 : ∀ i, i < e → b[i]? ≠ some 0) (h2 : b[e]? = some 0) (h4 : e < 20) :
    headT b = if kindB (blA (b.take e)) = 0 ∨ (numW (blB (b.take e))).2 ≠ 0 then none else some (kindB (blA (b.take e)), (numW (blB (b.take e))).1, b.drop (e + 1)) := by
  have hel : e < b.length := (List.getElem?_eq_some_iff.1 h2).1
  rcases idx0_cases (b.take 20) with ⟨_, _, _, h⟩ | ⟨m, hm, hml, hn, _, h5, h6⟩
  · exact absurd (by rw [List.getElem?_take_of_lt h4]; exact h2) (h e)
  · rw [List.length_take] at hml
    have hme : m = e := by
      rcases Nat.lt_trichotomy m e with h | h | h
      · rw [List.getElem?_take_of_lt (by omega)] at h5
        exact absurd h5 (h1 m h)
      · exact h
      · exact absurd (by rw [List.getElem?_take_of_lt h4]; exact h2) (h6 e h)
    subst hme
    rw [headT, if_neg (by omega), hn, List.take_take, Nat.min_eq_left (by omega), List.length_take, Nat.min_eq_left (by omega)]
theorem bl_none {h : List UInt8} (h1 : ∀ i, i < h.length → h[i]? ≠ some 32) : blA h = h ∧ blB h = [] := by
  rcases idx32_cases h with ⟨_, _, _, e1, e2⟩ | ⟨m, _, hml, e0, _, _, e1, e2⟩
  · exact ⟨e1, e2⟩
  · exfalso
    refine h1 m hml ?_
    conv => lhs; rw [e0]
    rw [List.getElem?_append_right (by rw [List.length_take]; omega), List.length_take, Nat.min_eq_left (by omega), Nat.sub_self]
    rfl
theorem bl_at {h : List UInt8} {e : Nat} (h1 : ∀ i, i < e → h[i]? ≠ some 32) (h2 : h[e]? = some 32) : blA h = h.take e ∧ blB h = h.drop (e + 1) := by
  have hel : e < h.length := (List.getElem?_eq_some_iff.1 h2).1
  rcases idx32_cases h with ⟨_, hn, _⟩ | ⟨m, _, hml, e0, hn, _, e1, e2⟩
  · exact absurd rfl (hn 32 (List.mem_of_getElem? h2))
  · have hme : m = e := by
      rcases Nat.lt_trichotomy m e with hh | hh | hh
      · exfalso
        refine h1 m hh ?_
        conv => lhs; rw [e0]
        rw [List.getElem?_append_right (by rw [List.length_take]; omega), List.length_take, Nat.min_eq_left (by omega), Nat.sub_self]
        rfl
      · exact hh
      · exfalso
        refine hn 32 ?_ rfl
        rw [List.mem_take_iff_getElem]
        exact ⟨e, by omega, by have := (List.getElem?_eq_some_iff.1 h2).2; exact this⟩
    subst hme
    exact ⟨e1, e2⟩
theorem numW_nil : (numW []).2 = 12 := by rw [numW_bad (by decide)]
/-- How reading an object ends. -/
def SplitPost (w : World) (Y : Int × List UInt8 × Int) (e : Ending) (w' : World) : Prop := ∃ A2 c2, e = .returned (.tuple #[.int .i64 Y.1, .slice A2 Y.2.1.length c2, .int .i64 Y.2.2]) ∧ Y.2.1.length ≤ c2 ∧ Lies w' A2 (bytesV Y.2.1) ∧ (∀ ad, A2 = some ad → w.heap.size ≤ ad.block) ∧ Fr (fun _ => False) w w'
theorem SplitPost.bad {w w' : World} {Y : Int × List UInt8 × Int} {e : Ending} {k : Int} (h : Y = (0, [], k)) (he : e = .returned (.tuple #[.int .i64 0, .slice none 0 0, .int .i64 k])) (f : Fr (fun _ => False) w w') : SplitPost w Y e w' := by
  subst h; exact ⟨none, 0, he, Nat.le_refl _, .inl rfl, (by intro ad e; cases e), f⟩

set_option maxHeartbeats 6400000 in
set_option maxRecDepth 100000 in
theorem QbSplit_any (A : Option Addr) (c : Nat) (b : List UInt8) (hcap : b.length ≤ c) (hm : b.length ≤ 100000) (w : World) (h : Lies w A (bytesV b)) :
    Calls Tryz.prog 18 #[.slice A b.length c] w (SplitPost w (splitB b)) := by
  obtain ⟨i0, hi, hz0, hz1, hz2⟩ := info_parts info_u8
  have HH0 := Lib.hid (fun e (h1 : ∀ i, i < e → b[i]? ≠ some 0) h2 h3 h4 => headT_none (b := b) (e := e) h1 h2 h3 h4)
  have HH1 := Lib.hid (fun e (h1 : ∀ i, i < e → b[i]? ≠ some 0) h2 h4 => headT_at (b := b) (e := e) h1 h2 h4)
  have HY : Hid (splitB b = splitG (headT b)) := Lib.hid rfl
  obtain ⟨Y, hYY⟩ : ∃ Y, splitB b = Y := ⟨_, rfl⟩
  rw [hYY] at HY ⊢
  have HS := Lib.hid (fun w' (hx : Lies w' A (bytesV b)) m => (hx.tlB c m hcap))
  have HL := Lib.hid h
  have HCP := Lib.hid hcap
  obtain ⟨n, hn⟩ : ∃ n, b.length = n := ⟨_, rfl⟩
  have HNn := Lib.hid hn
  by_cases hb0 : b = []
  · have hn0 : n = 0 := by rw [← hn, hb0]; rfl
    have HB : Hid (Y = (0, [], 12)) := Lib.hid (by rw [HY.out, HH0.out 0 (by intro i hi; omega) (.inl (by rw [hn, hn0])) (by omega) (by omega)]; rfl)
    rw [hn, hn0]
    clear hYY hn hb0 hn0 h hcap hm HS HL HCP HNn HY HH0 HH1
    go_enter Tryz.func18, Tryz.ntmps18
    go_wp2_with fail
    go_loopg [5] 0 (fun kx s5 wr => s5 = .int .i64 0 ∧ w = wr)
    case atStart => exact ⟨rfl, rfl⟩
    case round =>
      obtain ⟨rfl, rfl⟩ := hrel
      have hz : ¬ (0 : Int) < ((0 : Nat) : Int) := by omega
      go_wp2_with fail
      (
        (try simp only [Exit.inBlock, Exit.then])
        go_ret3
        exact SplitPost.bad HB.out rfl (Fr.refl _ _))
  · obtain ⟨bk, o, hA⟩ := Lies.someB h (List.length_pos_iff.2 hb0)
    subst hA
    have HBT := Lib.hid (fun j (hj : j < n) => (HL.out.byte j (b.getD j 0) (by rw [List.getD_eq_getElem?_getD, List.getElem?_eq_getElem (by omega)]; rfl) : w.cell? ⟨bk, o + j, none⟩ = _))
    have HGT := Lib.hid (fun j (hj : j < n) => (show b[j]? = some (b.getD j 0) by rw [List.getD_eq_getElem?_getD, List.getElem?_eq_getElem (by omega)]; rfl))
    rw [hn] at hm ⊢
    clear hYY hn h hb0
    go_enter Tryz.func18, Tryz.ntmps18
    go_wp2_with fail
    go_loopg [5] 20 (fun kx s5 wr => ∃ j : Nat, s5 = .int .i64 j ∧ j ≤ n ∧ j ≤ 20 ∧ 20 - j ≤ kx ∧ w = wr ∧ Hid (∀ i, i < j → b[i]? ≠ some 0))
    case atStart => exact ⟨0, rfl, by omega, by omega, by omega, rfl, Lib.hid (by intro i hi; omega)⟩
    case round =>
      obtain ⟨j, rfl, hj1, hj2, hjx, rfl, HP⟩ := hrel
      by_cases hlt : j < n
      · have hltz : (j : Int) < (n : Int) := by omega
        by_cases hl20 : j < 20
        · have hl20z : (j : Int) < 20 := by omega
          have cb := HBT.out j hlt
          have HG := Lib.hid (HGT.out j hlt)
          obtain ⟨x, hx⟩ : ∃ x, b.getD j 0 = x := ⟨_, rfl⟩
          rw [hx] at cb HG
          have wj : IntKind.i64.wrap ((j : Int) + 1) = (j : Int) + 1 := by rw [IntKind.wrap_i64]; omega
          by_cases hx0 : x = 0
          · subst hx0
            have HHT := Lib.hid (HH1.out j HP.out HG.out hl20)
            have hltb : j < b.length := by rw [HNn.out]; exact hlt
            have HHl : Hid ((b.take j).length = j) := Lib.hid (by rw [List.length_take]; omega)
            have HG2 := Lib.hid (fun g (hg : g < j) => (show (b.take j)[g]? = some (b.getD g 0) by rw [List.getElem?_take_of_lt hg]; exact HGT.out g (by omega)))
            have HBN := Lib.hid (fun (h1 : ∀ i, i < (b.take j).length → (b.take j)[i]? ≠ some 32) => bl_none h1)
            have HBA := Lib.hid (fun e (h1 : ∀ i, i < e → (b.take j)[i]? ≠ some 32) h2 => bl_at (e := e) h1 h2)
            have heq0 : ((j : Int) == (n : Int)) = false := by rw [beq_eq_false_iff_ne]; omega
            have heq20 : ((j : Int) == 20) = false := by rw [beq_eq_false_iff_ne]; omega
            rw [show ((0 : UInt8).toNat : Int) = 0 from rfl] at cb
            clear hx
            go_wp2_with fail
            try simp only [Act.put]
            go_loopg [6] j (fun kx s6 wr => ∃ g : Nat, s6 = .int .i64 g ∧ g ≤ j ∧ j - g ≤ kx ∧ w = wr ∧ Hid (∀ i, i < g → (b.take j)[i]? ≠ some 32))
            case atStart => exact ⟨0, rfl, by omega, by omega, rfl, Lib.hid (by intro i hi; omega)⟩
            case round =>
              obtain ⟨g, rfl, hg1, hgx, rfl, HQ⟩ := hrel
              by_cases hgl : g < j
              · have hglz : (g : Int) < (j : Int) := by omega
                have cg := HBT.out g (by omega)
                have HG3 := Lib.hid (HG2.out g hgl)
                obtain ⟨y, hy⟩ : ∃ y, b.getD g 0 = y := ⟨_, rfl⟩
                rw [hy] at cg HG3
                have wg : IntKind.i64.wrap ((g : Int) + 1) = (g : Int) + 1 := by rw [IntKind.wrap_i64]; omega
                clear hy cb
                by_cases hy32 : y = 32
                · subst hy32
                  rw [show ((32 : UInt8).toNat : Int) = 32 from rfl] at cg
                  obtain ⟨e1, e2⟩ := HBA.out g HQ.out HG3.out
                  have HHT2 := HHT.out
                  rw [e1, e2] at HHT2
                  have etk : (b.take j).take g = b.take g := by rw [List.take_take]; congr 1; omega
                  rw [etk] at HHT2
                  have heqg : ((g : Int) == (j : Int)) = false := by rw [beq_eq_false_iff_ne]; omega
                  have HK := Lib.hid (fun w => QbKind_any (b.take g) w)
                  have hdl : ((b.take j).drop (g + 1)).length = j - (g + 1) := by rw [List.length_drop, HHl.out]
                  have HN := Lib.hid (fun w => QvNumber_any ((b.take j).drop (g + 1)) (by omega) w)
                  have hlg : (b.take g).length = g := by rw [List.length_take]; omega
                  have hcj : j ≤ c := by have := HCP.out; omega
                  have s1 := fun w => slice_hdO (some ⟨bk, o, none⟩) n c g (by omega) w
                  have s2 : ∀ w, (Instr.slice 22 (.slice (some ⟨bk, o, none⟩) n c) (some (.int .i64 ((g : Int) + 1))) (some (.int .i64 (j : Int))) none).run Tryz.prog w = .ok (.slice (tlB (some ⟨bk, o, none⟩) c (g + 1)) (j - (g + 1)) (c - (g + 1))) w := fun w => slice_mdB (some ⟨bk, o, none⟩) n c (g + 1) j (by omega) hcj w
                  have s3 : ∀ w, (Instr.slice 22 (.slice (some ⟨bk, o, none⟩) n c) (some (.int .i64 ((j : Int) + 1))) none none).run Tryz.prog w = .ok (.slice (tlB (some ⟨bk, o, none⟩) c (j + 1)) (n - (j + 1)) (c - (j + 1))) w := fun w => slice_tlB (some ⟨bk, o, none⟩) n c (j + 1) (by omega) w
                  have cv1 := run_convert_lies 22 9 5 Tryz.underlying22 Tryz.underlying5 Tryz.underlying9 (HL.out.takeB g) c
                  rw [hlg] at cv1
                  have CV2 := Lib.hid (fun w2 (f : Fr (fun _ => False) w w2) => run_convert_lies 22 9 5 Tryz.underlying22 Tryz.underlying5 Tryz.underlying9 (((HL.out.fr f (fun _ _ e => e)).takeB j).tlB c (g + 1) (by rw [HHl.out]; exact hcj)) (c - (g + 1)))
                  rw [hdl] at CV2
                  have hrl : (b.drop (j + 1)).length = n - (j + 1) := by rw [List.length_drop, HNn.out]
                  have HCK := Lib.hid (fun (k : Int) w2 (f : Fr (fun _ => False) w w2) => QbCheck_any k (tlB (some ⟨bk, o, none⟩) c (j + 1)) (c - (j + 1)) (b.drop (j + 1)) (by rw [hrl]; have := HCP.out; have := HNn.out; omega) w2 (HS.out w2 (HL.out.fr f (fun _ _ e => e)) (j + 1)))
                  rw [hrl] at HCK
                  have HLR := Lib.hid (fun w2 (f : Fr (fun _ => False) w w2) => HS.out w2 (HL.out.fr f (fun _ _ e => e)) (j + 1))
                  have u1 : IntKind.i64.wrap ((n : Int) - (j : Int)) = (n : Int) - (j : Int) := by rw [IntKind.wrap_i64]; omega
                  have u2 : IntKind.i64.wrap ((n : Int) - (j : Int) - 1) = (n : Int) - (j : Int) - 1 := by rw [IntKind.wrap_i64]; omega
                  obtain ⟨R, hR⟩ : ∃ R, b.drop (j + 1) = R := ⟨_, rfl⟩
                  rw [hR] at HHT2 HCK HLR hrl
                  obtain ⟨q, hq⟩ : ∃ q, kindB (b.take g) = q := ⟨_, rfl⟩
                  rw [hq] at HHT2 HK
                  obtain ⟨z, hz⟩ : ∃ z, numW ((b.take j).drop (g + 1)) = z := ⟨_, rfl⟩
                  rw [hz] at HHT2 HN
                  obtain ⟨z1, z2⟩ := z
                  simp only [] at HHT2 HN
                  have HCK := Lib.hid (HCK.out q)
                  obtain ⟨S1, hS1⟩ : ∃ S, strB (b.take g) = S := ⟨_, rfl⟩
                  rw [hS1] at cv1 HK
                  obtain ⟨S2, hS2⟩ : ∃ S, strB ((b.take j).drop (g + 1)) = S := ⟨_, rfl⟩
                  rw [hS2] at CV2 HN
                  obtain ⟨r, hr⟩ : ∃ r, chkO q R = r := ⟨_, rfl⟩
                  rw [hr] at HCK
                  obtain ⟨A2, hA2⟩ : ∃ A2, tlB (some ⟨bk, o, none⟩) c (g + 1) = A2 := ⟨_, rfl⟩
                  rw [hA2] at s2 CV2
                  obtain ⟨A3, hA3⟩ : ∃ A2, tlB (some ⟨bk, o, none⟩) c (j + 1) = A2 := ⟨_, rfl⟩
                  rw [hA3] at s3 HCK HLR
                  have HHT3 := Lib.hid HHT2
                  have HRn := Lib.hid hrl
                  have HR4 := Lib.hid (show Y = splitG (headT b) from HY.out)
                  clear HHT2 e1 e2 etk hlg hdl hR hq hz hS1 hS2 hA2 hA3 HBN HBA HG2 HG3 HHT HHl HGT HBT HH0 HH1 HP HQ HG hrl
                  by_cases hq0 : q = 0
                  · have HB : Hid (Y = (0, [], 12)) := Lib.hid (by rw [HR4.out, HHT3.out, if_pos (.inl hq0)]; rfl)
                    subst hq0
                    clear hr
                    go_wp2_with (first | (
                      (go_at_call 16; refine (HK.out w).mono ?_; rintro e w2 ⟨rfl, b2⟩; have F2 := Lib.hid (Fr.of_below (S := fun _ => False) b2); have cv2 := CV2.out w2 F2.out; clear b2)) | (
                        (go_at_call 33; refine (HN.out _).mono ?_; rintro e w' ⟨rfl, rfl⟩)))
                    (
                      (try simp only [Exit.inBlock, Exit.then])
                      go_ret3
                      exact SplitPost.bad HB.out rfl F2.out)
                  · have hqz : (q == 0) = false := by simp [hq0]
                    by_cases hz0 : z2 = 0
                    · subst hz0
                      have HB : Hid (Y = if (R.length : Int) < z1 then (0, [], 10) else if z1 < (R.length : Int) then (0, [], 12) else if r = 0 then (q, R, 0) else (0, [], r)) := Lib.hid (by rw [HR4.out, HHT3.out, if_neg (by rintro (e | e); exact hq0 e; exact e rfl), ← hr]; rfl)
                      rw [HRn.out] at HB
                      have hcst : ((n - (j + 1) : Nat) : Int) = (n : Int) - (j : Int) - 1 := by omega
                      rw [hcst] at HB
                      clear hr HHT3 hcst
                      by_cases h1 : (n : Int) - (j : Int) - 1 < z1
                      · have HB2 : Hid (Y = (0, [], 10)) := Lib.hid (by rw [HB.out, if_pos h1])
                        go_wp2_with (first | (
                          (go_at_call 16; refine (HK.out w).mono ?_; rintro e w2 ⟨rfl, b2⟩; have F2 := Lib.hid (Fr.of_below (S := fun _ => False) b2); have cv2 := CV2.out w2 F2.out; clear b2)) | (
                            (go_at_call 33; refine (HN.out _).mono ?_; rintro e w' ⟨rfl, rfl⟩)))
                        (
                          (try simp only [Exit.inBlock, Exit.then])
                          go_ret3
                          exact SplitPost.bad HB2.out rfl F2.out)
                      · by_cases h2 : z1 < (n : Int) - (j : Int) - 1
                        · have HB2 : Hid (Y = (0, [], 12)) := Lib.hid (by rw [HB.out, if_neg h1, if_pos h2])
                          go_wp2_with (first | (
                            (go_at_call 16; refine (HK.out w).mono ?_; rintro e w2 ⟨rfl, b2⟩; have F2 := Lib.hid (Fr.of_below (S := fun _ => False) b2); have cv2 := CV2.out w2 F2.out; clear b2)) | (
                              (go_at_call 33; refine (HN.out _).mono ?_; rintro e w' ⟨rfl, rfl⟩)))
                          (
                            (try simp only [Exit.inBlock, Exit.then])
                            go_ret3
                            exact SplitPost.bad HB2.out rfl F2.out)
                        · by_cases hr0 : r = 0
                          · subst hr0
                            have HB2 : Hid (Y = (q, R, 0)) := Lib.hid (by rw [HB.out, if_neg h1, if_neg h2, if_pos rfl])
                            obtain ⟨N, hN⟩ : ∃ N, n - (j + 1) = N := ⟨_, rfl⟩
                            rw [hN] at s3 HCK HRn
                            have hNb : N ≤ 100000 := by omega
                            clear hN
                            go_wp2_with (first
                              | (
                                (go_at_call 16; refine (HK.out w).mono ?_; rintro e w2 ⟨rfl, b2⟩; have F2 := Lib.hid (Fr.of_below (S := fun _ => False) b2); have cv2 := CV2.out w2 F2.out; clear b2)) | (
                                  (go_at_call 33; refine (HN.out _).mono ?_; rintro e w' ⟨rfl, rfl⟩)) | (
                                    (go_at_call 12; refine (HCK.out w2 F2.out).mono ?_; rintro e w3 ⟨rfl, f3⟩; have F3 := Lib.hid (F2.out.trans f3 (fun _ _ e => e)); clear f3))
                              | (at_builtin
                                 refine wpList_append_row _ rfl (.tmp 95) (.tmp 99) 22 22 rfl w.heap.size 5 i0 (.int .u8 0) 1 1 Tryz.underlying22 hi hz0 hz1 hz2 rfl (.slice none 0 0) 0 [] rfl (World.ownsRow_nil w3 w.heap.size 5 1) (.slice A3 N (c - (j + 1))) N (bytesV R) rfl (Lies.srcB (HLR.out w3 F3.out) HRn.out (c - (j + 1))) (by unfold maxLen; omega) (by omega) F3.out.size ?_
                                 intro v4 w4 o4 g4 at4
                                 have O4 := Lib.hid (show OwnB w w4 v4 R from ⟨by rw [HRn.out]; simpa using o4, fr_append (World.ownsRow_nil w3 w.heap.size 5 1) F3.out g4⟩)
                                 obtain ⟨A4, c4, rfl, hc4, hl4, _⟩ := O4.out.slice
                                 have B4 := Lib.hid (fun ad (e : A4 = some ad) => (World.ownsRow.lt O4.out.1 ad.block (by rw [e]; rfl)).1)
                                 have L4 := Lib.hid hl4
                                 have C4 := Lib.hid hc4
                                 clear o4 g4 at4 hl4 hc4))
                            (try simp only [Exit.inBlock, Exit.then])
                            go_ret3
                            show SplitPost w Y _ _
                            rw [HB2.out]
                            exact ⟨A4, c4, rfl, C4.out, L4.out, B4.out, O4.out.2⟩
                          · have hrz : (r == 0) = false := by simp [hr0]
                            have HB2 : Hid (Y = (0, [], r)) := Lib.hid (by rw [HB.out, if_neg h1, if_neg h2, if_neg hr0])
                            go_wp2_with (first | (
                              (go_at_call 16; refine (HK.out w).mono ?_; rintro e w2 ⟨rfl, b2⟩; have F2 := Lib.hid (Fr.of_below (S := fun _ => False) b2); have cv2 := CV2.out w2 F2.out; clear b2)) | (
                                (go_at_call 33; refine (HN.out _).mono ?_; rintro e w' ⟨rfl, rfl⟩)) | (
                                  (go_at_call 12; refine (HCK.out w2 F2.out).mono ?_; rintro e w3 ⟨rfl, f3⟩; have F3 := Lib.hid (F2.out.trans f3 (fun _ _ e => e)); clear f3)))
                            (
                              (try simp only [Exit.inBlock, Exit.then])
                              go_ret3
                              exact SplitPost.bad HB2.out rfl F3.out)
                    · have hzz : (z2 == 0) = false := by simp [hz0]
                      have HB : Hid (Y = (0, [], 12)) := Lib.hid (by rw [HR4.out, HHT3.out, if_pos (.inr hz0)]; rfl)
                      clear hr
                      go_wp2_with (first | (
                        (go_at_call 16; refine (HK.out w).mono ?_; rintro e w2 ⟨rfl, b2⟩; have F2 := Lib.hid (Fr.of_below (S := fun _ => False) b2); have cv2 := CV2.out w2 F2.out; clear b2)) | (
                          (go_at_call 33; refine (HN.out _).mono ?_; rintro e w' ⟨rfl, rfl⟩)))
                      (
                        (try simp only [Exit.inBlock, Exit.then])
                        go_ret3
                        exact SplitPost.bad HB.out rfl F2.out)
                · have hy2 : ¬ ((y.toNat : Nat) : Int) = 32 := fun e => hy32 (UInt8.toNat_inj.1 (by show _ = 32; omega))
                  have hyz : ((((y.toNat : Nat) : Int)) == 32) = false := by rw [beq_eq_false_iff_ne]; exact hy2
                  have HQN : Hid (∀ i, i < g + 1 → (b.take j)[i]? ≠ some 32) := Lib.hid (fun i hi => by
                    rcases Nat.lt_or_ge i g with hh | hh
                    · exact HQ.out i hh
                    · obtain rfl : i = g := by omega
                      rw [HG3.out]
                      exact fun e => hy32 (Option.some.inj e))
                  obtain ⟨yc, hyc⟩ : ∃ yc : Int, ((y.toNat : Nat) : Int) = yc := ⟨_, rfl⟩
                  rw [hyc] at cg hy2 hyz
                  clear hyc
                  go_wp2_with fail
                  go_roundg (gk - 1)
                  case measure => omega
                  case rel => exact ⟨g + 1, by simp, by omega, by omega, rfl, HQN⟩
              · obtain rfl : g = j := by omega
                have hglz : ¬ (g : Int) < (g : Int) := by omega
                obtain ⟨e1, e2⟩ := HBN.out (by rw [HHl.out]; exact HQ.out)
                have HB : Hid (Y = (0, [], 12)) := Lib.hid (by rw [HY.out, HHT.out, e2, if_pos (.inr (by rw [numW_nil]; decide))]; rfl)
                clear cb e1 e2
                go_wp2_with fail
                (
                  (try simp only [Exit.inBlock, Exit.then])
                  go_ret3
                  exact SplitPost.bad HB.out rfl (Fr.refl _ _))
          · have hx2 : ¬ ((x.toNat : Nat) : Int) = 0 := fun e => hx0 (UInt8.toNat_inj.1 (by show _ = 0; omega))
            have hxz : ((((x.toNat : Nat) : Int)) == 0) = false := by rw [beq_eq_false_iff_ne]; exact hx2
            have HPN : Hid (∀ i, i < j + 1 → b[i]? ≠ some 0) := Lib.hid (fun i hi => by
              rcases Nat.lt_or_ge i j with hh | hh
              · exact HP.out i hh
              · obtain rfl : i = j := by omega
                rw [HG.out]
                exact fun e => hx0 (Option.some.inj e))
            obtain ⟨xc, hxc⟩ : ∃ xc : Int, ((x.toNat : Nat) : Int) = xc := ⟨_, rfl⟩
            rw [hxc] at cb hx2 hxz
            clear hxc hx
            go_wp2_with fail
            go_roundg (gk - 1)
            case measure => omega
            case rel => exact ⟨j + 1, by simp, by omega, by omega, by omega, rfl, HPN⟩
        · obtain rfl : j = 20 := by omega
          have HB : Hid (Y = (0, [], 12)) := Lib.hid (by rw [HY.out, HH0.out 20 HP.out (.inr rfl) (by rw [HNn.out]; exact hj1) (by omega)]; rfl)
          have heq0 : (((20 : Nat) : Int) == (n : Int)) = false := by rw [beq_eq_false_iff_ne]; omega
          have hl20z : ¬ ((20 : Nat) : Int) < 20 := by omega
          clear HP
          go_wp2_with fail
          (
            (try simp only [Exit.inBlock, Exit.then])
            go_ret3
            exact SplitPost.bad HB.out rfl (Fr.refl _ _))
      · obtain rfl : j = n := by omega
        have hltz : ¬ (j : Int) < (j : Int) := by omega
        have HB : Hid (Y = (0, [], 12)) := Lib.hid (by rw [HY.out, HH0.out j HP.out (.inl HNn.out.symm) (by rw [HNn.out]; exact Nat.le_refl _) hj2]; rfl)
        clear HP
        go_wp2_with fail
        (
          (try simp only [Exit.inBlock, Exit.then])
          go_ret3
          exact SplitPost.bad HB.out rfl (Fr.refl _ _))
end Go.Proofs.YtnnafiajfapenaaGreatDoor

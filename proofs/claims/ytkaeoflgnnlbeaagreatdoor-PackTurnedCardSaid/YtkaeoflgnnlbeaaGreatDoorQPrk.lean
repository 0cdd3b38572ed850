/- What is proved: texts that stand one behind the other: Prk. Conditions: each theorem names its own. -/
import Derived.Test.YtkaeoflgnnlbeaaGreatDoorQPrn
import Derived.Test.YtkaeoflgnnlbeaaGreatDoorQPrv
/- What is proved: an entry of a pack and all that it lies on, by the program. Conditions: the bytes are there. -/
namespace Go.Proofs.YtkaeoflgnnlbeaaGreatDoor
open Go.RowKit
set_option linter.unusedVariables false

/-- An entry of the pack through its window. -/
theorem entW_opnE {bs : List UInt8} {P d : Nat} (h44 : 44 ≤ bs.length) (h12 : 12 ≤ P) (hP : P + 32 < bs.length) (hd : d ≤ 8) (hr : d = 8 → P + 10 + 32 ≤ bs.length) : entW (winB bs P) P (decide ((d : Int) < 8)) = opnE bs P d := by
  have hl : (bs.take (bs.length - 32)).length = bs.length - 32 := by rw [List.length_take]; omega
  rw [entW_opn (winB_win hP) h12 _ d (by
    by_cases e : d = 8
    · right; exact ⟨by subst e; rfl, by omega, by have := hr e; omega⟩
    · left; exact ⟨by simp; omega, by omega⟩)]
  unfold opnE
  rw [if_neg (by omega), if_neg (by omega)]
/-- What chainOf tells. -/
def ChPost (w : World) (R : List Ent × Int) (e : Ending) (w' : World) : Prop :=
  ∃ A' ps c', e = .returned (.tuple #[.slice A' ps.length c', .int .i64 R.2]) ∧ Mn w w' (.slice A' ps.length c') ps ∧ ps.map PEn.e = R.1.reverse ∧ Below w.heap.size w w'
theorem chP_bad {bs : List UInt8} {at' : Int} {e : Int} (n : Nat) (h : ∀ over, opnE bs at' over = zE e) (he : e ≠ 0) : chP bs n at' = ([], e) := by
  cases n with
  | zero => unfold chP; rw [h, if_pos (by exact he)]; rfl
  | succ n => unfold chP; rw [h, if_pos (by exact he)]; rfl
theorem chP_err (bs : List UInt8) (n : Nat) (at' : Int) (h : (chP bs n at').2 ≠ 0) : (chP bs n at').1 = [] := by
  cases n with
  | zero =>
    unfold chP at h ⊢
    split
    · rfl
    · rename_i h1; rw [if_neg h1] at h; exact absurd rfl h
  | succ n =>
    unfold chP at h ⊢
    split
    · rfl
    · rename_i h1
      rw [if_neg h1] at h
      split
      · rename_i h2; rw [if_pos h2] at h; exact absurd rfl h
      · rename_i h2
        rw [if_neg h2] at h
        split
        · rfl
        · rename_i h3; rw [if_neg h3] at h; exact absurd rfl h
theorem opnE_kind {bs : List UInt8} {at' over : Int} (h : (opnE bs at' over).2 = 0) : 1 ≤ (opnE bs at' over).1.1 ∧ (opnE bs at' over).1.1 ≤ 5 := by
  have hT : ∀ (D : List UInt8) (k base s : Int) (p : Nat) (er : Int), (opnT D k base s p er).2 = 0 → (opnT D k base s p er).1.1 = k := fun D k base s p er h => (opnT_ok h).1
  unfold opnE at h ⊢
  split at h
  · cases h
  · rename_i h1
    rw [if_neg h1]
    split at h
    · cases h
    · rename_i h2
      rw [if_neg h2]
      unfold opnD opnK at h ⊢
      generalize varO (bs.take (bs.length - 32)) (stepAt (bs.take (bs.length - 32)).length at'.toNat 0 1) (hasErr (bs.take (bs.length - 32)).length at'.toNat 0 1) 4000 = z at h ⊢
      split at h
      · cases h
      · rename_i h3
        rw [if_neg h3]
        split at h
        · rename_i h4
          rw [if_pos h4]
          split at h
          · cases h
          · rename_i h5
            rw [if_neg h5]
            split at h
            · cases h
            · rename_i h6
              rw [if_neg h6, hT _ _ _ _ _ _ h]
              omega
        · rename_i h4
          rw [if_neg h4, hT _ _ _ _ _ _ h]
          omega
/-- A step of the chain. -/
theorem chP_step (bs : List UInt8) (d : Nat) (hd : d ≤ 8) (P : Int) : chP bs (8 - d) P =
    if (opnE bs P d).2 ≠ 0 then ([], (opnE bs P d).2)
    else if (opnE bs P d).1.1 < 5 then ([(opnE bs P d).1], 0)
    else if (chP bs (8 - (d + 1)) (opnE bs P d).1.2.1).2 ≠ 0 then ([], (chP bs (8 - (d + 1)) (opnE bs P d).1.2.1).2)
    else ((opnE bs P d).1 :: (chP bs (8 - (d + 1)) (opnE bs P d).1.2.1).1, 0) := by
  by_cases e : d = 8
  · subst e
    have hk := (opnE_ok (bs := bs) (at' := P) (over := 8))
    show chP bs 0 P = _
    unfold chP
    by_cases h : (opnE bs P 8).2 ≠ 0
    · rw [if_pos h, if_pos (by exact h)]; rfl
    · rw [if_neg h, if_neg (by exact h), if_pos (by exact (hk (by simpa using h)).1 rfl)]; rfl
  · obtain ⟨n, hn⟩ : ∃ n, 8 - d = n + 1 := ⟨7 - d, by omega⟩
    have h1 : 8 - (d + 1) = n := by omega
    have h2 : (8 : Int) - ((n : Int) + 1) = d := by omega
    rw [hn, h1]
    conv => lhs; unfold chP
    rw [h2]

set_option maxHeartbeats 12800000 in
set_option maxRecDepth 100000 in
theorem PchainOf_any (A : Option Addr) (c : Nat) (bs : List UInt8) (hc : bs.length ≤ c) (hcc : c ≤ 9223372036854775807) (hbs : bs.length ≤ 140737488355328) (at' : Int) (ha : -9223372036854775808 ≤ at' ∧ at' ≤ 9223372036854775807) (w : World) (h : Lies w A (bytesV bs)) :
    Calls Tryz.prog 34 #[.slice A bs.length c, .int .i64 at'] w (ChPost w (chP bs 8 at')) := by
  obtain ⟨R, hR⟩ : ∃ R, chP bs 8 at' = R := ⟨_, rfl⟩
  rw [hR]
  obtain ⟨ha0, ha1⟩ := ha
  have HA := Lib.hid h
  obtain ⟨L, hL⟩ : ∃ L, bs.length = L := ⟨_, rfl⟩
  have HL := Lib.hid hL
  have none_ : ∀ E : Int, R = ([], E) → ChPost w R (.returned (.tuple #[.slice none 0 0, .int .i64 E])) w := fun E hE => by
    subst hE
    exact ⟨none, [], 0, rfl, ⟨World.ownsRow_nil _ _ _ _, by simp⟩, rfl, Below.refl _ _⟩
  by_cases h44 : L < 44
  · have HR := Lib.hid (none_ 10 (by rw [← hR]; exact chP_bad 8 (fun over => by unfold opnE; rw [if_pos (by omega)]) (by decide)))
    have h44' : (L : Int) < 44 := by omega
    rw [hL]
    clear none_ hR hL h
    go_enter Tryz.func34, Tryz.ntmps34
    go_wp2_with fail
    go_ret2
    exact HR.out
  · have h44' : ¬ (L : Int) < 44 := by omega
    have hw32 : IntKind.i64.wrap ((L : Int) - 32) = (L : Int) - 32 := by rw [IntKind.wrap_i64]; omega
    by_cases ha12 : at' < 12
    · have HR := Lib.hid (none_ 2 (by rw [← hR]; exact chP_bad 8 (fun over => by unfold opnE; rw [if_neg (by omega), if_pos (.inl ha12)]) (by decide)))
      rw [hL]
      clear none_ hR hL h
      go_enter Tryz.func34, Tryz.ntmps34
      go_wp2_with fail
      go_ret2
      exact HR.out
    · by_cases ha32 : (L : Int) - 32 ≤ at'
      · have HR := Lib.hid (none_ 2 (by rw [← hR]; exact chP_bad 8 (fun over => by unfold opnE; rw [if_neg (by omega), if_pos (.inr (by omega))]) (by decide)))
        rw [hL]
        clear none_ hR hL h
        go_enter Tryz.func34, Tryz.ntmps34
        go_wp2_with fail
        go_ret2
        exact HR.out
      · obtain ⟨P0, rfl⟩ := Int.eq_ofNat_of_zero_le (show 0 ≤ at' by omega)
        obtain ⟨i1, gi, gz0, gz1, gz2⟩ := info_parts infoPE
        have HR := Lib.hid hR
        rw [hL]
        clear none_ hR hL h
        go_enter Tryz.func34, Tryz.ntmps34
        go_wp2_with fail
        go_loopw [1, 6, 22] (fun s1 s6 s22 wr => ∃ (d P : Nat) (v6 : Value) (ps : List PEn), s22 = .int .i64 d ∧ s1 = .int .i64 P ∧ s6 = v6 ∧ d ≤ 8 ∧ 12 ≤ P ∧ P + 32 < L ∧ ps.length = d ∧ Hid (1 ≤ d → P + d + 6 + 32 ≤ L) ∧ Hid (Mn w wr v6 ps) ∧ Hid (Fr (fun _ => False) w wr) ∧ Hid ((if (chP bs (8 - d) P).2 ≠ 0 then ([], (chP bs (8 - d) P).2) else (ps.map PEn.e ++ (chP bs (8 - d) P).1, 0)) = R)) (fun _ _ i _ => 9 - (intOf i).toNat)
        case atStart =>
          refine ⟨0, P0, .slice none 0 0, [], rfl, rfl, rfl, by omega, by omega, by omega, rfl, Lib.hid (fun e => by omega), Lib.hid (Mn.nil w), Lib.hid (Fr.refl _ _), Lib.hid ?_⟩
          rw [← HR.out]
          show (if (chP bs 8 P0).2 ≠ 0 then ([], (chP bs 8 P0).2) else ([] ++ (chP bs 8 P0).1, 0)) = chP bs 8 P0
          have he := chP_err bs 8 P0
          generalize chP bs 8 P0 = z at he
          by_cases e : z.2 ≠ 0
          · rw [if_pos e, ← he e]
          · rw [if_neg e, List.nil_append]
            have : z.2 = 0 := by simpa using e
            rw [← this]
        case round =>
          obtain ⟨d, P, v6, ps, rfl, rfl, rfl, hd8, hP12, hP32, hpl, HRm, HM, HF, HX⟩ := hrel
          have hPL : P + 32 < bs.length := by rw [HL.out]; exact hP32
          have h44L : 44 ≤ bs.length := by rw [HL.out]; omega
          have HN := Lib.hid (fun w' l => PnewReader_any A c bs hc hcc hbs P hPL w' l)
          unfold NrPost at HN
          have hent := entW_opnE h44L hP12 hPL hd8 (fun e => by have := HRm.out; rw [HL.out]; omega)
          have hwl : 0 < (winB bs P).length := by rw [winB_len hPL rfl]; omega
          have HE := Lib.hid (fun g v w' (q : Rd (some (P : Int)) w' g v (winB bs P) 0 0) => PREntry_any g v (winB bs P) P (decide ((d : Int) < 8)) ⟨by omega, by have := HL.out; omega⟩ hwl w' q)
          rw [hent] at HE
          unfold EnPost at HE
          have hst := HX.out
          rw [chP_step bs d hd8 P] at hst
          have hok := opnE_room (bs := bs) (at' := P) (over := d)
          have hkd := opnE_kind (bs := bs) (at' := P) (over := d)
          have hk8 := opnE_ok (bs := bs) (at' := P) (over := d)
          obtain ⟨⟨⟨k, ba, en, sm, ld⟩, E⟩, hXo⟩ : ∃ z, opnE bs P d = z := ⟨_, rfl⟩
          rw [hXo] at HE hst hok hkd hk8
          simp only at HE hst hok hkd hk8
          have HK8 := Lib.hid hk8
          clear hk8
          obtain ⟨LL, hLL⟩ : ∃ LL, ld.length = LL := ⟨_, rfl⟩
          have HLL := Lib.hid hLL
          rw [hLL] at HE
          have HAr := Lib.hid (HA.out.fr HF.out (fun _ _ e => e))
          obtain ⟨Av, cv, hv, -, -⟩ := own_slice HM.out.own
          subst hv
          have HPl := Lib.hid hpl
          have hd9 : (d : Int) < 9 := by omega
          obtain ⟨W, hW⟩ : ∃ W, winB bs P = W := ⟨_, rfl⟩
          rw [hW] at HN HE
          rw [HL.out] at HN
          rw [hpl] at HM ⊢
          clear hLL hent hwl hXo hPL h44L hW hpl
          go_upto_region 10 with (first
            | (go_at_call 56; refine (HE.out g v w1 HR1.out).mono ?_; rintro e w2 ⟨A2, c2, sz, rfl, o2, f2⟩; have HO2 := Lib.hid o2; have HF2 := Lib.hid f2; clear o2 f2)
            | (go_at_call 55; refine (HN.out wr HAr.out).mono ?_; rintro e w1 ⟨g, v, rfl, g1, o1, r1, b1⟩; have HG := Lib.hid (And.intro g1 o1); have HR1 := Lib.hid r1; have HB1 := Lib.hid b1; clear g1 o1 r1 b1))
          obtain ⟨w3, hw3⟩ : ∃ w3, w2.alloc (.cells #[.int .i64 k, .int .i64 ba, .int .i64 sz, .int .u32 sm, .slice A2 LL c2, .int .i64 en] 122) = w3 := ⟨_, rfl⟩
          rw [hw3]
          have HF23 := Lib.hid (show Fr (fun _ => False) w2 w3 by subst hw3; exact (Fr.refl _ _).alloc _)
          have HX3 := Lib.hid (show Whole w3 w2.heap.size 122 #[.int .i64 k, .int .i64 ba, .int .i64 sz, .int .u32 sm, .slice A2 LL c2, .int .i64 en] by subst hw3; exact Whole.new _ _ _)
          obtain ⟨xb, hxb⟩ : ∃ xb, w2.heap.size = xb := ⟨_, rfl⟩
          have HSz := Lib.hid (show w.heap.size ≤ wr.heap.size ∧ wr.heap.size ≤ w1.heap.size ∧ wr.heap.size ≤ g ∧ wr.heap.size ≤ xb from ⟨HF.out.size, HB1.out.size, HG.out.1, by have := Fr.size HF2.out; have := HB1.out.size; omega⟩)
          rw [hxb] at HX3 ⊢
          have HFr3 := Lib.hid (show Fr (fun j => j = g) wr w3 from (Fr.trans (Fr.of_below (S := fun j => j = g) HB1.out) HF2.out (fun _ _ e => e)).trans HF23.out (fun _ _ e => e.elim))
          have HF3 := Lib.hid (show Fr (fun _ => False) w w3 from HF.out.trans HFr3.out (fun i hi e => by have := HSz.out; omega))
          have HM3 := Lib.hid (HM.out.frN HFr3.out (fun j hj e => by have := HSz.out; omega))
          have HO3 := Lib.hid (own_fr HO2.out HF23.out (fun _ _ e => e))
          clear hw3 hxb
          by_cases hE : E = 0
          · subst hE
            rw [if_neg (show ¬ (0 : Int) ≠ 0 by simp)] at hst
            obtain ⟨-, -, hrm, hbk⟩ := hok rfl
            obtain ⟨hk1, hk5⟩ := hkd rfl
            have HP3 := Lib.hid (show (⟨k, ba, sz, sm, ld, A2, c2, en⟩ : PEn).Ok w.heap.size w3 from by
              show w3.ownsRow w.heap.size 5 1 (.slice A2 ld.length c2) ld.length (bytesV ld)
              rw [HLL.out]
              exact own_down HO3.out (by have := HSz.out; omega))
            have HSrc : Hid (∀ w : World, Src Tryz.prog 6 84 (.slice (some ⟨w.heap.size, 0, none⟩) 1 1) 1 [.int .i64 k, .int .i64 ba, .int .i64 sz, .int .u32 sm, .slice A2 LL c2, .int .i64 en] (w.alloc (.cells #[.int .i64 k, .int .i64 ba, .int .i64 sz, .int .u32 sm, .slice A2 LL c2, .int .i64 en] 122))) := Lib.hid (fun w => by
              have := src_en w ⟨k, ba, sz, sm, ld, A2, c2, en⟩
              simpa only [PEn.cells, HLL.out] using this)
            obtain ⟨xp, hxp⟩ : ∃ xp, flatN ps = xp := ⟨_, rfl⟩
            have HMo := Lib.hid (show w3.ownsRow w.heap.size 122 6 (.slice Av d cv) d xp from by have := HM3.out.own; rwa [HPl.out, hxp] at this)
            have HXp := Lib.hid hxp
            obtain ⟨x0, x1, x2, x3, x4, x5⟩ := HX3.out.six
            have HRk := Lib.hid hrm
            have hwd : IntKind.i64.wrap ((d : Int) + 1) = ((d + 1 : Nat) : Int) := by rw [IntKind.wrap_i64]; omega
            clear hxp hok hkd
            by_cases hk : k < 5
            · rw [if_pos hk] at hst
              have HRr := Lib.hid (show (ps.map PEn.e ++ [(k, ba, en, sm, ld)], 0) = R from by rw [← hst, if_neg (by simp)])
              have hkn : (k != 5) = true := by simp; omega
              clear hst hbk
              go_wp2_with (first
                | (
                  (at_builtin; refine wpList_append_row _ rfl (.tmp 37) (.tmp 39) 84 84 rfl w.heap.size 122 i1 (.agg zeroN) 6 64 Tryz.underlying84 gi gz0 gz1 gz2 rfl _ d xp rfl (HMo.out.alloc _) _ 1 _ rfl (HSrc.out _) (by unfold maxLen; omega) (by omega) (by have := HSz.out; have := Fr.size HFr3.out; simp; omega) ?_
                   intro v6 w6 o6 g6 at6
                   have HFa := Lib.hid (show Fr (fun j => Value.ownBlock (.slice Av d cv) = some j) w3 w6 from ((Fr.refl _ w3).alloc _).grown g6 (fun j hj _ => hj))
                   have HM6 := Lib.hid (show Mn w w6 v6 (ps ++ [⟨_, _, sz, sm, ld, A2, c2, en⟩]) from Mn.push HM3.out HP3.out (by rw [HPl.out, HXp.out]; simpa only [PEn.cells, HLL.out] using o6) HFa.out)
                   have HF6 := Lib.hid (show Fr (fun _ => False) w w6 from HF3.out.trans HFa.out (fun i hi e => by have := (World.ownsRow.lt HMo.out _ e).1; omega))
                   have HX6 := Lib.hid (HX3.out.fr HFa.out (fun e => by have h1 := (World.ownsRow.lt HM.out.own _ e).2; have := HSz.out; omega))
                   obtain ⟨A6, c6, hv6, _, _⟩ := own_slice o6
                   subst hv6
                   obtain ⟨y0, y1, y2, y3, y4, y5⟩ := HX6.out.six
                   clear o6 g6 at6))
                | (go_at_call 57; refine (rev_any HM6.out (by rw [List.length_append, HPl.out]; rfl) (by omega)).mono ?_; rintro e w7 ⟨rfl, m7, f7⟩; have HM7 := Lib.hid m7; have HF7 := Lib.hid f7; clear m7 f7))
              go_ret2
              have hr := HRr.out
              subst hr
              have hl7 : (ps ++ [(⟨k, ba, sz, sm, ld, A2, c2, en⟩ : PEn)]).reverse.length = d + 1 := by rw [List.length_reverse, List.length_append, HPl.out]; rfl
              refine ⟨A6, (ps ++ [(⟨k, ba, sz, sm, ld, A2, c2, en⟩ : PEn)]).reverse, c6, by rw [hl7]; rfl, by rw [hl7]; exact HM7.out, by simp [PEn.e], ?_⟩
              exact (HF6.out.trans HF7.out (fun i hi e => by have := (World.ownsRow.lt HM6.out.own _ e).1; omega)).below (fun _ _ e => e)
            · have hk' : k = 5 := by omega
              subst hk'
              rw [if_neg hk] at hst
              have hbb : 12 ≤ ba ∧ ba < (P : Int) := by omega
              obtain ⟨B, rfl⟩ := Int.eq_ofNat_of_zero_le (show 0 ≤ ba by omega)
              have hd7 : d < 8 := by
                rcases Nat.lt_or_ge d 8 with h | h
                · exact h
                · exfalso
                  have := (HK8.out rfl).1 (by omega)
                  omega
              have HRr := Lib.hid (show (if (chP bs (8 - (d + 1)) B).2 ≠ 0 then ([], (chP bs (8 - (d + 1)) B).2) else ((ps ++ [(⟨5, B, sz, sm, ld, A2, c2, en⟩ : PEn)]).map PEn.e ++ (chP bs (8 - (d + 1)) B).1, 0)) = R from by
                rw [← hst]
                generalize chP bs (8 - (d + 1)) B = z
                by_cases e : z.2 ≠ 0
                · rw [if_pos e, if_pos e]; simp only; rw [if_pos e]
                · rw [if_neg e, if_neg e, if_neg (by simp)]; simp [PEn.e])
              clear hst hbk
              go_wp2_with (
                (at_builtin; refine wpList_append_row _ rfl (.tmp 37) (.tmp 39) 84 84 rfl w.heap.size 122 i1 (.agg zeroN) 6 64 Tryz.underlying84 gi gz0 gz1 gz2 rfl _ d xp rfl (HMo.out.alloc _) _ 1 _ rfl (HSrc.out _) (by unfold maxLen; omega) (by omega) (by have := HSz.out; have := Fr.size HFr3.out; simp; omega) ?_
                 intro v6 w6 o6 g6 at6
                 have HFa := Lib.hid (show Fr (fun j => Value.ownBlock (.slice Av d cv) = some j) w3 w6 from ((Fr.refl _ w3).alloc _).grown g6 (fun j hj _ => hj))
                 have HM6 := Lib.hid (show Mn w w6 v6 (ps ++ [⟨_, _, sz, sm, ld, A2, c2, en⟩]) from Mn.push HM3.out HP3.out (by rw [HPl.out, HXp.out]; simpa only [PEn.cells, HLL.out] using o6) HFa.out)
                 have HF6 := Lib.hid (show Fr (fun _ => False) w w6 from HF3.out.trans HFa.out (fun i hi e => by have := (World.ownsRow.lt HMo.out _ e).1; omega))
                 have HX6 := Lib.hid (HX3.out.fr HFa.out (fun e => by have h1 := (World.ownsRow.lt HM.out.own _ e).2; have := HSz.out; omega))
                 obtain ⟨A6, c6, hv6, _, _⟩ := own_slice o6
                 subst hv6
                 obtain ⟨y0, y1, y2, y3, y4, y5⟩ := HX6.out.six
                 clear o6 g6 at6))
              go_roundw
              case rel => exact ⟨d + 1, B, .slice A6 (d + 1) c6, ps ++ [⟨5, B, sz, sm, ld, A2, c2, en⟩], by go_num, rfl, rfl, by omega, by omega, by omega, by rw [List.length_append, HPl.out]; rfl, Lib.hid (fun _ => by have := HRm.out; have := HRk.out; have := HL.out; omega), HM6, HF6, HRr⟩
              case measure => simp [intOf]; omega
          · rw [if_pos hE] at hst
            simp only at hst
            rw [if_pos hE] at hst
            have hE' : (E != 0) = true := by simpa using hE
            have HR0 := Lib.hid hst.symm
            clear hst hok hkd hE
            go_wp2_with fail
            go_ret2
            rw [HR0.out]
            exact ⟨none, [], 0, rfl, ⟨World.ownsRow_nil _ _ _ _, by simp⟩, rfl, HF3.out.below (fun _ _ e => e)⟩
end Go.Proofs.YtkaeoflgnnlbeaaGreatDoor

/- What is proved: the walk of the law ShaPieces, for every list of parts. Conditions: the table of constants holds what start-up lays; the parts lie where they are said to lie. -/
import Derived.Test.YtbbjappmaigobaaDoorShyS
namespace Go.Proofs.YtbbjappmaigobaaDoor.pieces
open Go.ChangeShapes Go.WideShapes Go.ChangeAt Go.RowKit
open Go.Proofs.YtbbjappmaigobaaDoor.sums
set_option linter.unusedVariables false

theorem own_lit0 (w : World) : (w.alloc (.cells #[] 5)).ownsRow w.heap.size 5 1 (.slice (some ⟨w.heap.size, 0, none⟩) 0 0) 0 [] :=
  World.ownsRow_lit w #[] 0 (Nat.le_refl _) (by unfold maxLen; decide) rfl
theorem own_above {w : World} {base n : Nat} {v : Value} {xs : List Value} {e : TypeId} {s g : Nat} (h : w.ownsRow base e s v n xs) (hg : g < base) : v.ownBlock ≠ some g := fun e => by
  have := (World.ownsRow.lt h g e).1
  omega

/-- What stands at the head of a round. -/
structure PcRel (w2 : World) (g : Nat) (l r : List UInt8) (L : Nat) (v : Value) (wr : World) : Prop where
  len : l.length = L
  own : wr.ownsRow w2.heap.size 5 1 v L (bytesV l)
  hash : HashAt wr g l r
  fr : Fr (fun j => j = g) w2 wr

set_option maxHeartbeats 3200000 in
theorem walk (A : Option Addr) (cap : Nat) (ps : List (List UInt8)) (w : World) (ht : Tab w) (hp : Parts w A ps) (hn : ps.length ≤ 9223372036854775807) :
    Calls Tryd.prog 6 #[.slice A ps.length cap] w fun e w' => e = .returned (.bool true) ∧ Below w.heap.size w w' := by
  obtain ⟨i0, hi, hz0, hz1, hz2⟩ := info_parts info_u8
  have htlt := ht.lt
  have HP := Lib.hid hp
  have HT := Lib.hid ht
  clear hp ht
  go_enter Tryd.func6, Tryd.ntmps6
  go_wp2_with (go_at_call 17; refine (SNew_any _).mono ?_; rintro e w2 ⟨g, r0, rfl, hg, hh, b2⟩)
  have hglt := hh.whole.lt
  have HH := Lib.hid hh
  have HB2 := Lib.hid (Fr.of_below (S := fun _ => False) b2)
  clear hh b2
  go_loopw [4, 5] (fun v i wr => ∃ (k L : Nat) (r : List UInt8), k ≤ ps.length ∧ i = .int .i64 k ∧ L ≤ 3000 ∧ PcRel w2 g (ps.take k).flatten r L v wr) (fun _ i _ => ps.length - (intOf i).toNat)
  case atStart => exact ⟨0, 0, r0, by omega, rfl, by omega, rfl, World.ownsRow_nil w2 w2.heap.size 5 1, HH.out, Fr.refl _ _⟩
  case round =>
    clear HH
    obtain ⟨k, L, r, hk, rfl, h3000, hr⟩ := hrel
    obtain ⟨l, hl⟩ : ∃ l, (ps.take k).flatten = l := ⟨_, rfl⟩
    rw [hl] at hr
    have HLn := Lib.hid hr.len
    obtain ⟨A4, c4, hv4, hc4, -⟩ := own_slice hr.own
    subst hv4
    have hFw : Fr (fun _ => False) w wr := HB2.out.trans hr.fr (fun i hi e => by omega)
    have HFw := Lib.hid hFw
    have HR := Lib.hid hr
    clear hr hFw
    by_cases hlt : k < ps.length
    · obtain ⟨p, hpk⟩ : ∃ p, ps[k]? = some p := ⟨_, List.getElem?_eq_getElem hlt⟩
      rcases HP.out with h0 | ⟨b, o, hA, hc⟩
      · rw [h0] at hlt
        simp at hlt
      · obtain ⟨Ai, ci, d1, d2, d3⟩ := hc k p hpk
        have c1 := HFw.out.cell d1 (fun e => e)
        subst hA
        have hft := flatten_take_succ ps k p hpk
        rw [hl] at hft
        obtain ⟨z, hz⟩ : ∃ z, p.length = z := ⟨_, rfl⟩
        have HZn := Lib.hid hz
        have HFT := Lib.hid hft
        have HD3 := Lib.hid d3
        have HD1 := Lib.hid d1
        rw [hz] at c1 d2
        clear hft d1 d3 hz hc
        by_cases hbig : (3000 : Int) - L < z
        · go_wp2_with (go_at_call 8; refine (works_any _ (HT.out.fr HFw.out (fun e => e))).mono ?_; rintro e w4 ⟨rfl, b4⟩)
          go_ret
          exact ⟨rfl, (HFw.out.then_below b4).below (fun _ _ e => e)⟩
        · go_wp2_with (first
            | (at_builtin; refine wpList_append_row _ rfl (.tmp 26) (.tmp 30) 24 24 rfl w2.heap.size 5 i0 (.int .u8 0) 1 1 Tryd.underlying24 hi hz0 hz1 hz2 rfl (.slice A4 L c4) L (bytesV l) rfl HR.out.own (.slice Ai z ci) z (bytesV p) rfl (Lies.srcB (HD3.out.fr HFw.out (fun _ _ e => e)) HZn.out ci) (by unfold maxLen; omega) (by omega) HR.out.fr.size ?_
               intro v1 w5 o1 g1 at1
               have hF5 := HFw.out.grown g1 (fun k hk hlt => absurd hlt (by have := (World.ownsRow.lt HR.out.own k hk).1; omega))
               have hH5 := HR.out.hash.fr ((Fr.refl (fun k => (Value.slice A4 L c4).ownBlock = some k) wr).grown g1 (fun k e _ => e)) (own_above HR.out.own hglt)
               have hF25 := HR.out.fr.grown g1 (fun k hk hlt => absurd hlt (by have := (World.ownsRow.lt HR.out.own k hk).1; omega))
               have c5 := (hF5.alloc (.cells #[] 5)).cell HD1.out (fun e => e)
               rw [HZn.out] at c5)
            | (at_builtin; refine wpList_append_row _ rfl (.tmp 32) (.tmp 36) 24 24 rfl w5.heap.size 5 i0 (.int .u8 0) 1 1 Tryd.underlying24 hi hz0 hz1 hz2 rfl (.slice (some ⟨w5.heap.size, 0, none⟩) 0 0) 0 [] rfl (own_lit0 w5) (.slice Ai z ci) z (bytesV p) rfl (Lies.srcB (HD3.out.fr (hF5.alloc _) (fun _ _ e => e)) HZn.out ci) (by unfold maxLen; omega) (by omega) (by simp) ?_
               intro v6 w6 o6 g6 at6
               rw [Nat.zero_add, List.nil_append] at o6
               obtain ⟨A6, c6, hv6, hc6, -⟩ := own_slice o6
               subst hv6
               have hF56 : Fr (fun _ => False) w5 w6 := ((Fr.refl (fun _ => False) w5).alloc _).grown g6 (fun k e hlt => by simp [Value.ownBlock] at e; omega)
               have hF6 := hF5.trans hF56 (fun _ _ e => e)
               have hH6 := hH5.fr hF56 (fun e => e)
               have hO6 := o6)
            | (go_at_call 18
               have hg5 : g < w5.heap.size := Nat.lt_of_lt_of_le hglt hF25.size
               refine Calls.mono (by have h := HWrite_any g l r A6 c6 p w6 hH6 (HT.out.fr hF6 (fun e => e)) (by omega) (Lies.of_own o6) (fun _ ad had e => by subst had; exact own_above o6 hg5 (by simp [Value.ownBlock, e])) (by rw [HZn.out]; exact hc6) (by rw [HLn.out, HZn.out]; omega); rw [HZn.out] at h; exact h) ?_
               rintro e w7 ⟨rfl, r7, hH7, hF7⟩
               have o7 := own_fr o6 hF7 (fun k hk e => own_above o6 hg5 (by rw [hk, e]))))
          have hNl : (ps.take (k + 1)).flatten.length = L + z := by rw [HFT.out, List.length_append, HLn.out, HZn.out]
          have ho1 : w7.ownsRow w2.heap.size 5 1 v1 (L + z) (bytesV (ps.take (k + 1)).flatten) := by
            rw [HFT.out, bytesV_append]
            exact own_fr (own_fr o1 hF56 (fun _ _ e => e)) hF7 (fun j hj e => own_above o1 hglt (by rw [hj, e]))
          have hh7 : HashAt w7 g (ps.take (k + 1)).flatten r7 := by rw [HFT.out]; exact hH7
          have hF27 : Fr (fun j => j = g) w2 w7 := (hF25.trans hF56 (fun _ _ e => e.elim)).trans hF7 (fun _ _ e => e)
          have hv1 : ∀ b, (Value.slice A6 z c6).ownBlock = some b → v1.ownBlock ≠ some b := fun b hb e => by
            have h1 := (World.ownsRow.lt o6 b hb).1
            have h2 := (World.ownsRow.lt o1 b e).2
            omega
          have hgb : ∀ b, (Value.slice A6 z c6).ownBlock = some b → b ≠ g ∧ w2.heap.size ≤ b := fun b hb => by
            have h1 := (World.ownsRow.lt o6 b hb).1
            have h2 := hF25.size
            omega
          obtain ⟨l2, hl2⟩ : ∃ l2, (ps.take (k + 1)).flatten = l2 := ⟨_, rfl⟩
          obtain ⟨N2, hN2⟩ : ∃ N2, L + z = N2 := ⟨_, rfl⟩
          have hN3 : N2 ≤ 3000 := by omega
          rw [hl2] at hNl ho1 hh7
          rw [hN2] at hNl ho1
          have HL2 := Lib.hid hl2
          have HNL := Lib.hid hNl
          have HO1 := Lib.hid ho1
          have HH7 := Lib.hid hh7
          have HF27 := Lib.hid hF27
          have HV1 := Lib.hid hv1
          have HGB := Lib.hid hgb
          have HO7 := Lib.hid o7
          clear hNl ho1 hh7 hl2 hN2 hF27 hv1 hgb o7 hH6 hF6 hF56 g6 at6 o6 hO6 g1 at1 o1 hF5 hH5 hF25 hF7 hH7 c5 c1
          obtain ⟨A1, e1, hv1e, he1, -⟩ := own_slice HO1.out
          subst hv1e
          have hx0 : ∀ i, i < z → ∃ c, (bytesV p)[i]? = some (.int .u8 c) := fun i hi => by
            rw [bytesV, List.getElem?_map, List.getElem?_eq_getElem (by rw [HZn.out]; exact hi)]
            exact ⟨_, rfl⟩
          have HX0 := Lib.hid hx0
          clear hx0
          go_wp2_with fail
          obtain ⟨w8, rfl⟩ : ∃ w8, w8 = w7 := ⟨_, rfl⟩
          go_loopw [7] (fun i wr => ∃ (j : Nat) (xs : List Value), j ≤ z ∧ i = .int .i64 j ∧ wr.ownsRow w5.heap.size 5 1 (.slice A6 z c6) z xs ∧ (∀ i, i < z → ∃ c, xs[i]? = some (.int .u8 c)) ∧ Fr (fun b => (Value.slice A6 z c6).ownBlock = some b) w8 wr) (fun i _ => z - (intOf i).toNat)
          case atStart => exact ⟨0, bytesV p, by omega, rfl, HO7.out, HX0.out, Fr.refl _ _⟩
          case round =>
            obtain ⟨j, xs, hj, rfl, hox, hxs, hfx⟩ := hrel
            by_cases hjz : j < z
            · rcases own_shape hox with ⟨_, h0, _⟩ | ⟨gb, cb, hvb, _, _, hgbb⟩
              · omega
              · injection hvb with hA6 _ hc6e
                subst hA6
                subst hc6e
                obtain ⟨c, hcx⟩ := hxs j hjz
                have cc := (World.ownsRow.cellAt hox j (by omega)).trans hcx
                have ff := World.ownsRow.frozenAt hox j
                have hst := (World.ownsRow.stored hox j (.int .u8 (bits .xor .u8 c 255))).1
                have hxs2 : ∀ i, i < z → ∃ c', (xs.set j (.int .u8 (bits .xor .u8 c 255)))[i]? = some (.int .u8 c') := fun i hi => by
                  rw [List.getElem?_set]
                  by_cases hij : j = i
                  · subst hij
                    rw [if_pos rfl, if_pos (List.getElem?_eq_some_iff.1 hcx).1]
                    exact ⟨_, rfl⟩
                  · rw [if_neg hij]
                    exact hxs i hi
                have hfx2 := hfx.setCell (p := ⟨gb, j, none⟩) (fun _ => by simp [Value.ownBlock]) (.int .u8 (bits .xor .u8 c 255))
                have HST := Lib.hid hst
                have HXS2 := Lib.hid hxs2
                have HFX2 := Lib.hid hfx2
                clear hst hxs2 hfx2 hox hxs hfx hcx
                go_wp2_with fail
                go_roundw
                case rel => exact ⟨j + 1, _, by omega, by go_num, HST.out, HXS2.out, HFX2.out⟩
                case measure => simp [intOf]; omega
            · have hF9 : Fr (fun j => j = g) w2 wr := HF27.out.trans hfx (fun b hb e => by have := (HGB.out b e).2; omega)
              have hH9 := HH7.out.fr hfx (fun e => (HGB.out g e).1 rfl)
              have hO9 := own_fr HO1.out hfx (fun b hb e => HV1.out b e hb)
              have HF9 := Lib.hid hF9
              have HH9 := Lib.hid hH9
              have HO9 := Lib.hid hO9
              clear hF9 hH9 hO9 hfx hox hxs
              obtain ⟨Z, hZ⟩ : ∃ Z, sumV l2 = Z := ⟨_, rfl⟩
              have heq : ∀ w, (Op.equalIn 10000 38 (.agg Z) (.agg Z)).run Tryd.prog w = .ok true w := by rw [← hZ]; exact eqSum l2
              have HZ := Lib.hid hZ
              have hwr : w.heap.size ≤ wr.heap.size := (HB2.out.trans HF9.out (fun i hi e => by omega) : Fr (fun _ => False) w wr).size
              have HTr := Lib.hid (HT.out.fr (HB2.out.trans HF9.out (fun i hi e => by omega) : Fr (fun _ => False) w wr) (fun e => e))
              have hll : Lies wr A1 (bytesV l2) := Lies.of_own HO9.out
              have HLL := Lib.hid hll
              have HLC := Lib.hid (show ((l2.length : Nat) : Int) = (N2 : Int) by rw [HNL.out])
              clear hZ hll
              by_cases hk12 : (k : Int) < 12
              · go_wp2_with (first
                  | (go_at_call 19; refine (HSum_any g l2 r7 _ HH9.out HTr.out (by omega) (by rw [HNL.out]; omega)).mono ?_; rintro e w10 ⟨rfl, b10⟩; rw [HZ.out])
                  | (go_at_call 15; refine Calls.mono (by have h := QOf_any A1 e1 l2 w10 (HLL.out.fr (Fr.of_below (S := fun _ => False) b10) (fun _ _ e => e)) (by rw [HNL.out]; omega); rw [HNL.out, HZ.out] at h; exact h) ?_; rintro e w11 ⟨rfl, b11⟩; have hF11 := (Fr.of_below (S := fun _ => False) b10).then_below b11)
                  | (go_at_call 20; refine (HLen_any g l2 r7 _ (HH9.out.fr hF11 (fun e => e))).mono ?_; rintro e w12 ⟨rfl, rfl⟩; rw [HLC.out]))
                go_roundw
                case rel => exact ⟨k + 1, N2, r7, by omega, by go_num, hN3, by rw [HL2.out]; exact ⟨HNL.out, own_fr HO9.out hF11 (fun _ _ e => e), HH9.out.fr hF11 (fun e => e), HF9.out.trans hF11 (fun _ _ e => e.elim)⟩⟩
                case measure => simp [intOf]; omega
              · go_wp2_with (first
                  | (go_at_call 20; refine (HLen_any g l2 r7 _ HH9.out).mono ?_; rintro e w12 ⟨rfl, rfl⟩; rw [HLC.out]))
                go_roundw
                case rel => exact ⟨k + 1, N2, r7, by omega, by go_num, hN3, by rw [HL2.out]; exact ⟨HNL.out, HO9.out, HH9.out, HF9.out⟩⟩
                case measure => simp [intOf]; omega
    · have hke : k = ps.length := by omega
      obtain ⟨Z, hZ⟩ : ∃ Z, sumV l = Z := ⟨_, rfl⟩
      have heq : ∀ w, (Op.equalIn 10000 38 (.agg Z) (.agg Z)).run Tryd.prog w = .ok true w := by rw [← hZ]; exact eqSum l
      have heq0 : ∀ w, (Op.equalIn 10000 38 (.agg zero32) (.agg #[.int .u8 0, .int .u8 0, .int .u8 0, .int .u8 0, .int .u8 0, .int .u8 0, .int .u8 0, .int .u8 0, .int .u8 0, .int .u8 0, .int .u8 0, .int .u8 0, .int .u8 0, .int .u8 0, .int .u8 0, .int .u8 0, .int .u8 0, .int .u8 0, .int .u8 0, .int .u8 0, .int .u8 0, .int .u8 0, .int .u8 0, .int .u8 0, .int .u8 0, .int .u8 0, .int .u8 0, .int .u8 0, .int .u8 0, .int .u8 0, .int .u8 0, .int .u8 0])).run Tryd.prog w = .ok true w := fun w => eq32 (List.replicate 32 0) rfl w
      have HZ := Lib.hid hZ
      have HTr := Lib.hid (HT.out.fr HFw.out (fun e => e))
      have HLL := Lib.hid (show Lies wr A4 (bytesV l) from Lies.of_own HR.out.own)
      have hgr : g < wr.heap.size := HR.out.hash.whole.lt
      clear hZ
      go_wp2_with (first
        | (go_at_call 18; refine (HWrite_nil _ _).mono ?_; rintro e w4 ⟨rfl, rfl⟩)
        | (go_at_call 8; refine (works_any _ (HTr.out.fr hF14 (fun e => e))).mono ?_; rintro e w15 ⟨rfl, b15⟩)
        | (go_at_call 19; refine (HSum_nil w13).mono ?_; rintro e w14 ⟨rfl, b14⟩; have hF14 := hF13.then_below b14)
        | (go_at_call 20; refine (HLen_nil w13).mono ?_; rintro e w13' ⟨rfl, rfl⟩)
        | (go_at_call 16
           have hF12 := Fr.of_below (S := fun _ => False) b12
           have hPa : Parts (w12.alloc (.cells #[.slice A4 L c4] 24)) (some ⟨w12.heap.size, 0, none⟩) [l] := one_part w12 A4 L c4 l HLn.out hc4 (HLL.out.fr hF12 (fun _ _ e => e))
           refine Calls.mono (by have h := SOf_any (some ⟨w12.heap.size, 0, none⟩) 1 [l] (w12.alloc (.cells #[.slice A4 L c4] 24)) hPa (by show 1 ≤ _; decide) (HTr.out.fr (hF12.alloc _) (fun e => e)) (by rw [show [l].flatten = l by simp, HLn.out]; omega); rw [show [l].flatten = l by simp, HZ.out] at h; exact h) ?_
           rintro e w13 ⟨rfl, b13⟩
           have hF13 := (hF12.alloc (.cells #[.slice A4 L c4] 24)).then_below b13)
        | (go_at_call 19; refine (HSum_any g l r _ HR.out.hash HTr.out (by omega) (by rw [HLn.out]; omega)).mono ?_; rintro e w12 ⟨rfl, b12⟩; rw [HZ.out]))
      go_ret
      exact ⟨rfl, ((HFw.out.trans hF14 (fun _ _ e => e)).then_below b15).below (fun _ _ e => e)⟩
end Go.Proofs.YtbbjappmaigobaaDoor.pieces

/- What is proved: OctetBack, for every list of a Writer's calls (of bulk at most 1048576): what is laid is read as it was, to the end; the list reads as before. Conditions: the bulk's bound of the statement. -/
import Derived.Test.YticgmfnidhlkjaaPua
namespace Go.Proofs.Yticgmfnidhlkjaa.back
open Go.ChangeShapes Go.WideShapes Go.ChangeAt Go.RowKit
open Go.Proofs.Yticgmfnidhlkjaa
set_option linter.unusedVariables false

set_option maxHeartbeats 4000000 in
set_option maxRecDepth 100000 in
theorem walk (A : Option Addr) (cap : Nat) (l : List PutD) (w : World) (hl : PLies w A l) (hcap : l.length ≤ cap) (htot : totB l ≤ 100000000) (hlen : l.length ≤ 100000000) (hok : ∀ p ∈ l, p.ok) :
    Calls Try.prog 5 #[.slice A l.length cap] w fun e w' => e = .returned (.bool true) ∧ Below w.heap.size w w' := by
  have HL := Lib.hid hl
  have HOK := Lib.hid hok
  have HT := laidAll_length l
  clear hl hok
  go_enter Try.func5, Try.ntmps5
  go_wp2_with (go_at_call 8; refine (NewWriter_any _).mono ?_; rintro e w1 ⟨rfl, h1⟩; subst h1)
  go_loopw [4] (fun i wr => ∃ k : Nat, k ≤ l.length ∧ i = .int .i64 k ∧ WTo (w.alloc (.cells #[.slice none 0 0] 63)) w.heap.size (.slice none 0 0) (laidAll (l.take k)) wr) (fun i _ => l.length - (intOf i).toNat)
  case atStart => exact ⟨0, Nat.zero_le _, rfl, _, Wr.new w, WSt.refl _ _ _⟩
  case round =>
    obtain ⟨k, hk, rfl, v1, r1, s1⟩ := hrel
    have F1 : Fr (fun k => w.heap.size ≤ k) w wr := ((Fr.refl _ w).alloc (.cells #[.slice none 0 0] 63)).trans s1.fr (by rintro i hi (e | e); (omega); (cases e))
    by_cases hlt : k < l.length
    · obtain ⟨p, hp⟩ : ∃ p, l[k]? = some p := ⟨l[k], List.getElem?_eq_getElem hlt⟩
      obtain ⟨d1, d2, d3, d4, d5⟩ := HOK.out p (List.mem_of_getElem? hp)
      have hk0 : (0 : Int) ≤ (k : Int) := by omega
      have hk1 : (k : Int) < l.length := by omega
      have HLr := HL.out.below (F1.below (fun i hi => by omega))
      obtain ⟨b, o, hA⟩ := HL.out.addr hlt
      subst hA
      obtain ⟨c0, c1, c2⟩ := HLr.cells hp
      have hsum := totB_le hp
      have HSN := Lib.hid (laidAll_snoc hp)
      have HP := Lib.hid hp
      obtain ⟨pd, pn, ps⟩ := p
      simp only at c0 c1 c2 d1 d2 d3 d4 d5 hsum
      clear hp HLr
      go_wp2_with (go_at_call 9; refine (lay_any _ _ _ _ _ _ _ r1 d3 d4 (by omega)).mono ?_; rintro e w2 ⟨rfl, v2, r2, s2⟩)
      go_roundw
      case rel => exact ⟨k + 1, by omega, by go_num, v2, by rw [HSN.out]; exact r2, s1.trans s2⟩
      case measure => simp [intOf]; omega
    · obtain rfl : k = l.length := by omega
      rw [List.take_length] at r1
      obtain ⟨X, hX⟩ : ∃ X, laidAll l = X := ⟨_, rfl⟩
      rw [hX] at r1 HT
      have HX := Lib.hid hX
      have HR1 := Lib.hid r1
      have HF1 := Lib.hid F1
      have HS1 := Lib.hid s1
      clear hX r1 F1 s1
      obtain ⟨w2, hw2⟩ : ∃ w2 : World, w2 = wr := ⟨_, rfl⟩
      subst hw2
      go_wp2_with (first
        | (go_at_call 13; refine (WBytes_any _ _ _ _ HR1.out (by omega)).mono ?_; rintro e w3 ⟨v3, rfl, o3, b3⟩; obtain ⟨A3, c3, hv3, -, l3, -⟩ := own_lies o3; subst hv3; have L3 := Lib.hid l3; clear l3 o3)
        | (go_at_call 15; refine (NewReader_any A3 c3 X _ L3.out (by omega)).mono ?_; rintro e w4 ⟨g, v, rfl, hg, hv, r4, b4⟩))
      have F4 := (HF1.out.then_below b3).then_below b4
      have hgw : w.heap.size ≤ g := by have h1 := HF1.out.size; have h2 := b3.size; omega
      have hvw : ∀ j, v.ownBlock = some j → w.heap.size ≤ j := fun j hj => by have h1 := HF1.out.size; have h2 := b3.size; have h3 := hv j hj; omega
      have HF4 := Lib.hid F4
      have HR4 := Lib.hid r4
      have HVW := Lib.hid hvw
      clear F4 r4 hv hvw L3
      go_loopw [6] (fun i wr => ∃ k : Nat, k ≤ l.length ∧ i = .int .i64 k ∧ Rd wr g v X (laidAll (l.take k)).length 0 ∧ Fr (fun k => w.heap.size ≤ k) w wr) (fun i _ => l.length - (intOf i).toNat)
      case atStart => exact ⟨0, Nat.zero_le _, rfl, HR4.out, HF4.out⟩
      case round =>
        obtain ⟨k, hk, rfl, rd, F5⟩ := hrel
        have HF5 := Lib.hid F5
        clear F5
        by_cases hlt : k < l.length
        · obtain ⟨p, hp⟩ : ∃ p, l[k]? = some p := ⟨l[k], List.getElem?_eq_getElem hlt⟩
          obtain ⟨d1, d2, d3, d4, d5⟩ := HOK.out p (List.mem_of_getElem? hp)
          have hk0 : (0 : Int) ≤ (k : Int) := by omega
          have hk1 : (k : Int) < l.length := by omega
          have HLr := HL.out.below (HF5.out.below (fun i hi => by omega))
          obtain ⟨b, o, hA⟩ := HL.out.addr hlt
          subst hA
          obtain ⟨c0, c1, c2⟩ := HLr.cells hp
          obtain ⟨rest, hd, hle⟩ := laidAll_drop hp
          have HSN := Lib.hid (laidAll_snoc hp)
          obtain ⟨q, hq⟩ : ∃ q, (laidAll (l.take k)).length = q := ⟨_, rfl⟩
          rw [hq, HX.out] at hd hle
          rw [hq] at rd
          have HQ := Lib.hid hq
          obtain ⟨pd, pn, ps⟩ := p
          simp only at c0 c1 c2 d1 d2 d3 d4 d5
          unfold PutD.laid at hd
          simp only at hd
          have HD := Lib.hid hd
          clear hp HLr hd hq
          have hgl : g < wr.heap.size := rd.whole.lt
          have hgn : ¬ wr.heap.size = g := by omega
          have hra := Lib.hid (rd.below ((Below.refl _ _).alloc (Nat.le_refl _) (.cells #[.int .i64 pd, .int .u64 pn, .string ps] 29)))
          by_cases e0 : pd = 0
          · subst e0
            obtain ⟨hb1, hb2, hb3⟩ := byte_fwd (b := toB (pn % 256)) HD.out hle
            have HB := Lib.hid (show ((byteAt X q 0).toNat : Int) = pn % 256 by rw [hb1, toB_toNat (by omega) (by omega)]; omega)
            have HB2 := Lib.hid hb2
            have HB3 := Lib.hid hb3
            have HQN := Lib.hid (show q + 1 = (laidAll (l.take (k + 1))).length by rw [HSN.out, List.length_append, HQ.out]; rfl)
            clear hb1 hb2 hb3
            go_wp2_with fail
            go_region_held3 (fun w' => w'.cell? ⟨wr.heap.size, 1, none⟩ = some (.int .u64 pn)) (go_keep)
              ((go_at_call 17; refine (RByte_any g v X q 0 _ ?_).mono ?_; exact (hra.out.drewN 1); rintro e w5 ⟨rfl, r5, f5⟩; rw [HB2.out, HB3.out] at r5; rw [HB.out]; have kc := Fr.cell f5 (p := ⟨wr.heap.size, 1, none⟩) (u := .int .u64 pn) (by simp) hgn))
            go_wp2_with fail
            · rename_i hh; simp at hh
            go_roundw
            case rel => exact ⟨k + 1, by omega, by go_num, by rw [← HQN.out]; exact r5, ((HF5.out.alloc _).drew).trans f5 (fun i hi e => by omega)⟩
            case measure => simp [intOf]; omega
          · by_cases e1 : pd = 1
            · subst e1
              obtain ⟨hb1, hb2, hb3⟩ := num_fwd (ys := hiB (pn % 4294967296) 4 4) HD.out hle
              rw [hiB_length] at hb1 hb2 hb3
              have HB := Lib.hid (show ((numV X q 0 4 : Nat) : Int) = pn % 4294967296 by rw [hb1]; exact hiB_big4 _ (by omega) (by omega))
              have HB2 := Lib.hid hb2
              have HB3 := Lib.hid hb3
              have HQN := Lib.hid (show q + 4 = (laidAll (l.take (k + 1))).length by rw [HSN.out, List.length_append, HQ.out]; rfl)
              clear hb1 hb2 hb3
              go_wp2_with fail
              go_region_held3 (fun w' => w'.cell? ⟨wr.heap.size, 1, none⟩ = some (.int .u64 pn)) (go_keep)
                ((go_at_call 18; refine (RU32_any g v X q 0 _ ?_).mono ?_; exact (hra.out.drewN 1); rintro e w5 ⟨rfl, r5, f5⟩; replace r5 : Rd w5 g v X (q + 4) 0 := (by have h := r5; rw [show stepAt X.length q 0 4 = q + 4 from HB2.out, show hasErr X.length q 0 4 = 0 from HB3.out] at h; exact h); rw [HB.out]; have kc := Fr.cell f5 (p := ⟨wr.heap.size, 1, none⟩) (u := .int .u64 pn) (by simp) hgn))
              go_wp2_with fail
              · rename_i hh; simp at hh
              go_roundw
              case rel => exact ⟨k + 1, by omega, by go_num, by rw [← HQN.out]; exact r5, ((HF5.out.alloc _).drew).trans f5 (fun i hi e => by omega)⟩
              case measure => simp [intOf]; omega
            · by_cases e2 : pd = 2
              · subst e2
                obtain ⟨hb1, hb2, hb3⟩ := num_fwd (ys := hiB pn 8 8) HD.out hle
                rw [hiB_length] at hb1 hb2 hb3
                have HB := Lib.hid (show ((numV X q 0 8 : Nat) : Int) = pn by rw [hb1]; exact hiB_big8 _ (by omega) (by omega))
                have HB2 := Lib.hid hb2
                have HB3 := Lib.hid hb3
                have HQN := Lib.hid (show q + 8 = (laidAll (l.take (k + 1))).length by rw [HSN.out, List.length_append, HQ.out]; rfl)
                clear hb1 hb2 hb3
                go_wp2_with fail
                go_region_held3 (fun w' => w'.cell? ⟨wr.heap.size, 1, none⟩ = some (.int .u64 pn)) (go_keep)
                  ((go_at_call 19; refine (RU64_any g v X q 0 _ ?_).mono ?_; exact (hra.out.drewN 1); rintro e w5 ⟨rfl, r5, f5⟩; replace r5 : Rd w5 g v X (q + 8) 0 := (by have h := r5; rw [show stepAt X.length q 0 8 = q + 8 from HB2.out, show hasErr X.length q 0 8 = 0 from HB3.out] at h; exact h); rw [HB.out]; have kc := Fr.cell f5 (p := ⟨wr.heap.size, 1, none⟩) (u := .int .u64 pn) (by simp) hgn))
                go_wp2_with fail
                go_roundw
                case rel => exact ⟨k + 1, by omega, by go_num, by rw [← HQN.out]; exact r5, ((HF5.out.alloc _).drew).trans f5 (fun i hi e => by omega)⟩
                case measure => simp [intOf]; omega
              · by_cases e3 : pd = 3
                · subst e3
                  have hb := var_fwd (X := X) (p := q) (m := pn.toNat) (most := pn) HD.out (by omega) (by omega)
                  have HB := Lib.hid hb
                  have HPN := Lib.hid (show ((pn.toNat : Nat) : Int) = pn by omega)
                  have HQN := Lib.hid (show q + (varB pn.toNat).length = (laidAll (l.take (k + 1))).length by rw [HSN.out, List.length_append, HQ.out]; rfl)
                  clear hb
                  go_wp2_with fail
                  go_region_held3 (fun w' => w'.cell? ⟨wr.heap.size, 1, none⟩ = some (.int .u64 pn)) (go_keep)
                    ((go_at_call 20; refine (RVar_any g v X q 0 pn _ ?_ d3 d4).mono ?_; exact (hra.out.drewN 1); rintro e w5 ⟨rfl, r5, f5⟩; rw [HB.out] at r5; rw [HB.out, HPN.out]; have kc := Fr.cell f5 (p := ⟨wr.heap.size, 1, none⟩) (u := .int .u64 pn) (by simp) hgn))
                  go_wp2_with fail
                  go_roundw
                  case rel => exact ⟨k + 1, by omega, by go_num, by rw [← HQN.out]; exact r5, ((HF5.out.alloc _).drew).trans f5 (fun i hi e => by omega)⟩
                  case measure => simp [intOf]; omega
                · have hsl : ps.data.toList.length = ps.size := by rw [Array.length_toList]; rfl
                  have hsz : (ps.size : Int) ≤ 9223372036854775807 := by unfold maxLen at d5; omega
                  by_cases e4 : pd = 4
                  · subst e4
                    have hb := text_fwd (X := X) (p := q) (s := ps.data.toList) HD.out hle (by rw [hsl]; omega)
                    rw [hsl] at hb
                    have HB := Lib.hid hb
                    have HPN := Lib.hid (strB_of ps)
                    have HQN := Lib.hid (show q + (textB ps.data.toList).length = (laidAll (l.take (k + 1))).length by rw [HSN.out, List.length_append, HQ.out]; rfl)
                    clear hb hsl
                    go_wp2_with fail
                    go_region_held3 (fun w' => w'.cell? ⟨wr.heap.size, 2, none⟩ = some (.string ps)) (go_keep)
                      ((go_at_call 21; refine (RText_any g v X q 0 ps.size _ ?_ (by omega) hsz).mono ?_; exact (hra.out.drewN 1); rintro e w5 ⟨rfl, r5, f5⟩; rw [HB.out] at r5; rw [HB.out, HPN.out]; have kc := Fr.cell f5 (p := ⟨wr.heap.size, 2, none⟩) (u := .string ps) (by simp) hgn))
                    go_wp2_with fail
                    go_roundw
                    case rel => exact ⟨k + 1, by omega, by go_num, by rw [← HQN.out]; exact r5, ((HF5.out.alloc _).drew).trans f5 (fun i hi e => by omega)⟩
                    case measure => simp [intOf]; omega
                  · have hL : laidB pd pn ps.data.toList = ps.data.toList := by unfold laidB; rw [if_neg e0, if_neg e1, if_neg e2, if_neg e3, if_neg e4]
                    have hd2 := HD.out
                    rw [hL] at hd2
                    obtain ⟨hb1, hb2, hb3⟩ := raw_fwd hd2 hle
                    rw [hsl] at hb1 hb2 hb3
                    have HB1 := Lib.hid hb1
                    have HB2 := Lib.hid hb2
                    have HB3 := Lib.hid hb3
                    have HSL := Lib.hid hsl
                    have HPN := Lib.hid (strB_of ps)
                    have HQN := Lib.hid (show q + ps.size = (laidAll (l.take (k + 1))).length by rw [HSN.out, List.length_append, HQ.out, ← HSL.out]; unfold PutD.laid; rw [hL])
                    have b0 : (pd == 0) = false := by simpa using e0
                    have b1 : (pd == 1) = false := by simpa using e1
                    have b2 : (pd == 2) = false := by simpa using e2
                    have b3 : (pd == 3) = false := by simpa using e3
                    have b4 : (pd == 4) = false := by simpa using e4
                    clear hb1 hb2 hb3 hsl e0 e1 e2 e3 e4 hd2 hL
                    go_wp2_with fail
                    go_region_with ((go_at_call 22; refine (RRaw_any g v X q 0 ps.size _ ?_ (by omega) hsz).mono ?_; exact (hra.out.drewN 1); rintro e w5 ⟨v5, rfl, o5, r5, f5⟩; rw [HB2.out, HB3.out] at r5; rw [HB1.out, HSL.out] at o5; obtain ⟨A5, c5, hv5, -, -⟩ := own_slice o5; subst hv5; have L5 := Lies.of_own o5; have e5 : (convert 25 9 (.slice A5 ps.size c5)).run Try.prog w5 = .ok (.string ps) w5 := (by have h := run_convert_lies 25 9 5 Try.underlying25 Try.underlying5 Try.underlying9 L5 c5; rw [HSL.out, strB_of] at h; exact h); clear o5 L5; have kc := Fr.cell f5 (p := ⟨wr.heap.size, 2, none⟩) (u := .string ps) (by simp) hgn))
                    all_goals
                      go_wp2_with fail
                      go_roundw
                      case rel => exact ⟨k + 1, by omega, by go_num, by rw [← HQN.out]; exact r5, ((HF5.out.alloc _).drew).trans f5 (fun i hi e => by omega)⟩
                      case measure => simp [intOf]; omega
        · obtain rfl : k = l.length := by omega
          rw [List.take_length, HX.out] at rd
          have HE : Hid (endErr X.length X.length 0 = 0) := Lib.hid (by unfold endErr; rw [if_pos rfl, if_neg (by omega)])
          go_wp2_with (first
            | (go_at_call 23; refine (REnd_any g v X _ _ _ rd).mono ?_; rintro e w6 ⟨rfl, n, rfl⟩; rw [HE.out])
            | (go_at_call 14; refine (works_any _).mono ?_; rintro e w7 ⟨rfl, b7⟩))
          go_ret
          exact ⟨rfl, ((HF5.out.drewN n).then_below b7).below (fun i hi => by omega)⟩

theorem own_knob : ownKnob Try.prog.godebug = none := by kernel_rfl
theorem laidOut : laidOutB Try.prog = true := by kernel_rfl

theorem contract (H : Type) (enc : TypeId × Value → H) (W : World) (base : Nat) (args : Array Value) (ds gs : List (DataW H)) (before : List MemPlace)
    (hval : ∀ (j : Nat) t v, Try.f5.params[j]? = some t → args[j]? = some v → Value.okWide Try.prog W .any base t v)
    (hW : DataW.Whole enc Try.prog Try.f5.params.toList Rows.octetBackSpec.vars false W args.toList ds gs before) (hk : Rows.uptoSmall H (ds ++ gs) = true) :
    Calls Try.prog 5 args W fun e W' => ∃ v, e = .returned v ∧ Rows.octetBackSpec.post enc Try.prog Try.f5 false true false false W args v W' := by
  have hW' := hW
  obtain ⟨p, q, hA0, hV, rfl, hfz, hnd⟩ := hW
  have hA : DataW.TrodAll enc Try.prog W 0 (fun _ => true) true Try.f5.params.toList args.toList ds p := hA0
  rw [Try.params5] at hA hval
  obtain ⟨v0, vs0, d0, ds0, p0, q0, hargs, rfl, rfl, h0, r0⟩ := trodAll_cons hA
  obtain ⟨rfl, rfl, rfl⟩ := trodAll_nil r0
  obtain rfl : args = #[v0] := by cases args; simp_all
  obtain ⟨rfl, rfl⟩ := trodVars_none hV
  obtain ⟨a0, len0, cap0, rfl⟩ := okWide_slice Try.underlying22 (hval 0 22 v0 rfl rfl)
  have k0 := h0
  have lt0 : ∀ x ∈ p0, x.block < W.heap.size := by obtain ⟨m, hm⟩ := k0; exact DataW.trod_lt m _ _ _ hm
  obtain ⟨fuel, hf⟩ := h0
  obtain ⟨A, cap, l, hcs, hcap, hl, hok, hx⟩ := open_puts Try.underlying22 Try.underlying29 (by kernel_rfl) (by kernel_rfl) Try.underlying3 Try.underlying27 Try.underlying9 hf
  simp [Value.cells] at hcs
  obtain ⟨rfl, rfl, rfl⟩ := hcs
  have hb : totB l ≤ 100000000 ∧ l.length ≤ 100000000 := by
    rcases hx with ⟨_, h⟩ | ⟨spare, he⟩
    · subst h; simp [totB]
    · have he' : d0 = .slice (l.map PutD.datum) spare := he
      subst he'
      exact upto_puts hk
  clear hA0
  refine (walk a0 cap0 l W hl hcap hb.1 hb.2 hok).mono fun e W' ⟨he, bel⟩ => ?_
  subst he
  exact ⟨_, rfl, _, _, _, [], _, [], hW', trodAll_mk1 (shut_bool Try.underlying4 _), (trodAll_cons_mk (Below.trod laidOut (by kernel_rfl) (of_decide_eq_true (by kernel_rfl)) k0 bel lt0) trodAll_mk0), rfl, bel.frame _, fun h => by cases h⟩

set_option maxRecDepth 100000 in
theorem lifted (os : Os) (started : os.Started) (H : Type) (enc : TypeId × Value → H) (F : Stop.Interp) :
    ReturnsInHanded {} Try.checked os 5 .any ((Rows.OpenSpec.upto Rows.octetBackSpec).pre6 enc Try.prog Try.f5 Rows.octetBackUptoRow.domain false) (((Rows.OpenSpec.upto Rows.octetBackSpec).at F).post enc Try.prog Try.f5 false true false false) := by
  refine returnsInHanded_of_cond (C := Try.checked) (s := Rows.OpenSpec.upto Rows.octetBackSpec) (k := Rows.uptoSmall) rfl own_knob started (by kernel_rfl) Try.func5
    (OpenSpec.witness (enc := enc) (C := Try.checked) (s := Rows.OpenSpec.upto Rows.octetBackSpec) (k := Rows.uptoSmall) rfl false ⟨#[], #[.slice none 0 0], []⟩ 8 (by kernel_rfl) (by kernel_rfl) (by kernel_rfl)
      (x := ([.nil], [], [])) (by kernel_rfl) rfl (by kernel_rfl)) ?_
  intro W base args ds gs before hval hW _ hk _
  exact contract H enc W base args ds gs before hval hW hk

/-- The statement. -/
theorem proved : Rows.OctetBackUptoSaid :=
  OpenClaim.holds_of_cond 5 Try.f5 rfl rfl rfl rfl rfl rfl rfl ⟨rfl, rfl, rfl, rfl, rfl⟩ rfl rfl rfl rfl rfl (by kernel_rfl) Try.func5 (by kernel_rfl)
    (of_decide_eq_true (by kernel_rfl)) (by unfold Func.isWrapper; first | (rw [if_pos (by decide +kernel)]; kernel_rfl) | (rw [if_neg (by decide +kernel)]; exact ⟨rfl, rfl⟩))
    (fun os started H enc _ F => lifted os started H enc F)
#print axioms proved
end Go.Proofs.Yticgmfnidhlkjaa.back

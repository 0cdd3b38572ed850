/- What is proved: whether a word stands for a part, by the document. Conditions: the texts are not too long for any machine. -/
import Derived.Test.YtnekddpnajgmdaaDoorRtm
namespace Go.Proofs.YtnekddpnajgmdaaDoor
open Go.RowKit
set_option linter.unusedVariables false

/-- The document's table: the word from i on for the part from k on. -/
def wrow (W S : List UInt8) (i k : Nat) : Bool := wordB (W.drop i) (S.drop k)
theorem wrow_end (W S : List UInt8) (k : Nat) (hk : k ≤ S.length) : wrow W S W.length k = decide (k = S.length) := by
  rw [wrow, List.drop_length, word_nil, Bool.eq_iff_iff, List.isEmpty_iff, decide_eq_true_eq, List.drop_eq_nil_iff]
  omega
theorem wrow_star (W S : List UInt8) (i k : Nat) (hi : i < W.length) (h : W.getD i 0 = 42) (hk : k ≤ S.length) : wrow W S i k = (wrow W S (i + 1) k || (decide (k < S.length) && wrow W S i (k + 1))) := by
  unfold wrow
  rw [drop_at W i hi, h]
  have := mat_star_step (st := fun c : UInt8 => c == 42) (on := fun c x : UInt8 => c == 63 || c == x) (p := 42) (by decide) (W.drop (i + 1)) (S.drop k)
  rw [List.tail_drop, List.length_drop] at this
  refine this.trans ?_
  congr 2
  rw [decide_eq_decide]
  omega
theorem wrow_one (W S : List UInt8) (i k : Nat) (hi : i < W.length) (h : W.getD i 0 ≠ 42) (hk : k < S.length) : wrow W S i k = ((W.getD i 0 == 63 || W.getD i 0 == S.getD k 0) && wrow W S (i + 1) (k + 1)) := by
  unfold wrow
  rw [drop_at W i hi, drop_at S k hk, word_one h]
theorem wrow_one_end (W S : List UInt8) (i : Nat) (hi : i < W.length) (h : W.getD i 0 ≠ 42) : wrow W S i S.length = false := by
  unfold wrow
  rw [drop_at W i hi, List.drop_length, word_one_nil h]
theorem StRel.drewN {w0 w wr : World} {f g : Nat} {R T : Nat → Bool} {m : Nat} (h : StRel w0 w f g R T m wr) (n : Nat) : StRel w0 w f g R T m (wr.drewN n) := h.below (((Fr.refl (fun _ => False) wr).drewN n).below (fun _ _ e => e))
/-- The row from k on. -/
def part (R : Nat → Bool) (k j : Nat) : Bool := decide (k ≤ j) && R j
theorem part_put (R : Nat → Bool) (k m : Nat) (b : Bool) (hb : R k = b) : ∀ j, j < m → (if j = k then b else part R (k + 1) j) = part R k j := by
  intro j hj
  unfold part
  by_cases e : j = k
  · subst e; rw [if_pos rfl, hb]; simp
  · rw [if_neg e]
    congr 1
    rw [decide_eq_decide]
    omega
theorem part_skip (R : Nat → Bool) (k m : Nat) (hb : R k = false) : ∀ j, j < m → part R (k + 1) j = part R k j := by
  intro j hj
  unfold part
  by_cases e : j = k
  · subst e; rw [hb]; simp
  · congr 1
    rw [decide_eq_decide]
    omega

set_option maxRecDepth 100000 in
set_option maxHeartbeats 12800000 in
theorem QrWord_any (W S : List UInt8) (hW : W.length ≤ 900000) (hS : S.length ≤ 900000) (w : World) : Calls Tryd.prog 61 #[.string (strB W), .string (strB S)] w fun e w' => e = .returned (.bool (wordB W S)) ∧ Below w.heap.size w w' := by
  have HIW := Lib.hid (fun k hk w => index_str (P := Tryd.prog) w Tryd.underlying9 W k hk)
  have HIS := Lib.hid (fun k hk w => index_str (P := Tryd.prog) w Tryd.underlying9 S k hk)
  have hsw := strB_size W
  have hss := strB_size S
  have hmk := fun w => make_bools (S.length + 1) (by omega) w
  rw [Int.natCast_add, Int.natCast_one] at hmk
  have HWs := Lib.hid (wrow_star W S)
  have HWo := Lib.hid (wrow_one W S)
  have HWe := Lib.hid (wrow_one_end W S)
  obtain ⟨X, hX⟩ : ∃ X, strB W = X := ⟨_, rfl⟩
  obtain ⟨Y, hY⟩ : ∃ X, strB S = X := ⟨_, rfl⟩
  rw [hX] at HIW hsw ⊢
  rw [hY] at HIS hss ⊢
  have h0 : (tabC (fun _ => false) (S.length + 1)).setIfInBounds S.length (.bool true) = tabC (wrow W S W.length) (S.length + 1) := by
    rw [tabC_set _ _ _ _ (by omega)]
    refine tabC_congr (fun k hk => ?_)
    rw [wrow_end W S k (by omega)]
    by_cases e : k = S.length
    · simp [e]
    · simp [e]
  obtain ⟨n, hn⟩ : ∃ n, W.length = n := ⟨_, rfl⟩
  obtain ⟨m, hm⟩ : ∃ n, S.length = n := ⟨_, rfl⟩
  have HNn := Lib.hid hn
  have HMm := Lib.hid hm
  rw [hn] at HIW hsw hW h0 HWs HWo HWe
  rw [hm] at HIS hss hS h0 hmk HWs HWo HWe
  have hA1 : Whole (w.alloc (.cells (tabC (fun _ => false) (m + 1)) 4)) w.heap.size 4 (tabC (fun _ => false) (m + 1)) := Whole.new w 4 _
  have c0 := hA1.tcell m (by omega)
  have f0 := hA1.frozen m
  have HW0 : Hid (Whole (w.alloc (.cells ((tabC (fun _ => false) (m + 1)).setIfInBounds m (.bool true)) 4)) w.heap.size 4 (tabC (wrow W S n) (m + 1))) := Lib.hid (by rw [h0]; exact Whole.new w 4 _)
  have HZn : Hid (∀ w : World, Whole (w.alloc (.cells (tabC (fun _ => false) (m + 1)) 4)) w.heap.size 4 (tabC (fun _ => false) (m + 1))) := Lib.hid (fun w => Whole.new w 4 _)
  obtain ⟨Z, hZ⟩ : ∃ Z, tabC (fun _ => false) (m + 1) = Z := ⟨_, rfl⟩
  have HZ := Lib.hid hZ
  rw [hZ] at hmk hA1 c0 f0 HW0 HZn
  clear hX hY hn hm h0 hZ hA1
  go_enter Tryd.func61, Tryd.ntmps61
  go_wp2
  clear c0 f0
  go_loopw [5, 6] (fun s5 s6 wr => ∃ j g : Nat, j ≤ n ∧ s6 = .int .i64 (j - 1) ∧ s5 = .slice (some ⟨g, 0, none⟩) (m + 1) (m + 1) ∧ w.heap.size ≤ g ∧ Whole wr g 4 (tabC (wrow W S j) (m + 1)) ∧ Fr (fun _ => False) w wr) (fun _ s6 _ => (intOf s6 + 1).toNat)
  case atStart => exact ⟨n, w.heap.size, by omega, rfl, rfl, Nat.le_refl _, HW0.out, (Fr.refl _ w).alloc _⟩
  case round =>
    obtain ⟨j, g, hj, rfl, rfl, hg0, hgW, hfr⟩ := hrel
    obtain ⟨wo, hwo⟩ : ∃ wo, wo = wr := ⟨wr, rfl⟩
    rw [← hwo] at hgW hfr ⊢
    clear hwo wr
    by_cases hlt : 0 < j
    · obtain ⟨i, rfl⟩ : ∃ i, j = i + 1 := ⟨j - 1, by omega⟩
      rw [show (((i + 1 : Nat) : Int) - 1) = (i : Int) by omega]
      have hiw := HIW.out i (by omega)
      obtain ⟨c, hc⟩ : ∃ c : Int, (((W.getD i 0).toNat : Nat) : Int) = c := ⟨_, rfl⟩
      rw [hc] at hiw
      have HC := Lib.hid hc
      clear hc
      have hne : g ≠ wo.heap.size := fun e => by have := hgW.lt; omega
      have HIn : Hid (StRel w (wo.alloc (.cells Z 4)) g wo.heap.size (wrow W S (i + 1)) (part (wrow W S i) (m + 1)) (m + 1) (wo.alloc (.cells Z 4))) := Lib.hid
        ⟨hgW.fr ((Fr.refl (fun _ => False) wo).alloc _) (fun e => e), by
          have := HZn.out wo
          rw [← HZ.out] at this
          rw [← HZ.out, tabC_congr (g := fun _ => false) (f := part (wrow W S i) (m + 1)) (fun q hq => by unfold part; rw [decide_eq_false (by omega)]; rfl)]
          exact this, hfr.alloc _, Fr.refl _ _⟩
      have hgo : w.heap.size ≤ wo.heap.size := hfr.size
      have HPut := Lib.hid (fun (wr : World) (T T' : Nat → Bool) (h : StRel w (wo.alloc (.cells Z 4)) g wo.heap.size (wrow W S (i + 1)) T (m + 1) wr) => h.put (T' := T') hne hgo)
      obtain ⟨G, hG⟩ : ∃ G, wo.heap.size = G := ⟨_, rfl⟩
      rw [hG] at HIn HPut hgo
      have HG := Lib.hid hG
      go_wp2_with fail
      clear hmk
      go_loopw [8] (fun s8 wr => ∃ k : Nat, k ≤ m + 1 ∧ s8 = .int .i64 (k - 1) ∧ StRel w (wo.alloc (.cells Z 4)) g G (wrow W S (i + 1)) (part (wrow W S i) k) (m + 1) wr) (fun s8 _ => (intOf s8 + 1).toNat)
      case atStart => exact ⟨m + 1, by omega, by rw [show (((m + 1 : Nat) : Int) - 1) = (m : Int) by omega], HIn.out⟩
      case round =>
        obtain ⟨k1, hk1, rfl, hr⟩ := hrel
        have HR := Lib.hid hr
        by_cases hpos : 0 < k1
        · obtain ⟨k, rfl⟩ : ∃ k, k1 = k + 1 := ⟨k1 - 1, by omega⟩
          rw [show (((k + 1 : Nat) : Int) - 1) = (k : Int) by omega]
          by_cases h42 : c = 42
          · have hs := HWs.out i k (by omega) (UInt8.toNat_inj.1 (by have := HC.out; show (W.getD i 0).toNat = 42; omega)) (by omega)
            have c1 := hr.src.tcell k (by omega)
            have f1 := hr.dst.frozen k
            have c2 := hr.dst.tcell k (by omega)
            subst h42
            obtain ⟨b, hb⟩ : ∃ b, wrow W S (i + 1) k = b := ⟨_, rfl⟩
            rw [hb] at hs c1
            clear hb
            cases b
            · by_cases hkm : k < m
              · have hkm' : (k : Int) < m := by omega
                rw [decide_eq_true hkm, Bool.false_or, Bool.true_and] at hs
                have c3 := hr.dst.tcell (k + 1) (by omega)
                have e3 : part (wrow W S i) (k + 1) (k + 1) = wrow W S i k := by rw [hs]; simp [part]
                rw [e3] at c3
                obtain ⟨b2, hb2⟩ : ∃ b, wrow W S i k = b := ⟨_, rfl⟩
                rw [hb2] at c3
                have HN := Lib.hid (HPut.out _ _ _ HR.out k b2 (by omega) (part_put _ k _ b2 hb2))
                clear hr hs e3 hb2
                go_wp2_with fail
                go_roundw
                case rel => exact ⟨k, by omega, by rw [show ((k : Int) - 1) = ((k : Nat) : Int) - 1 from rfl], HN.out⟩
                case measure => simp [intOf]
              · have hkm' : ¬ (k : Int) < m := by omega
                rw [decide_eq_false hkm, Bool.false_or, Bool.false_and] at hs
                have HN := Lib.hid (HPut.out _ _ _ HR.out k false (by omega) (part_put _ k _ false hs))
                clear hr hs
                go_wp2_with fail
                go_roundw
                case rel => exact ⟨k, by omega, by rw [show ((k : Int) - 1) = ((k : Nat) : Int) - 1 from rfl], HN.out⟩
                case measure => simp [intOf]
            · rw [Bool.true_or] at hs
              have HN := Lib.hid (HPut.out _ _ _ HR.out k true (by omega) (part_put _ k _ true hs))
              clear hr hs
              go_wp2_with fail
              go_roundw
              case rel => exact ⟨k, by omega, by rw [show ((k : Int) - 1) = ((k : Nat) : Int) - 1 from rfl], HN.out⟩
              case measure => simp [intOf]
          · have e42 : (c == 42) = false := by simpa using h42
            have d42 : decide (c = 42) = false := decide_eq_false h42
            have HN42 : Hid (W.getD i 0 ≠ 42) := Lib.hid (fun e => h42 (by rw [← HC.out, e]; rfl))
            by_cases hkm : k < m
            · have hkm' : (k : Int) < m := by omega
              have d1 : decide ((k : Int) < m) = true := decide_eq_true hkm'
              have his := HIS.out k hkm
              have ho := HWo.out i k (by omega) HN42.out hkm
              obtain ⟨d, hd⟩ : ∃ d : Int, (((S.getD k 0).toNat : Nat) : Int) = d := ⟨_, rfl⟩
              rw [hd] at his
              have HD := Lib.hid hd
              clear hd
              by_cases h63 : c = 63
              · have eo : (W.getD i 0 == 63 || W.getD i 0 == S.getD k 0) = true := by
                  have : W.getD i 0 = 63 := UInt8.toNat_inj.1 (by have := HC.out; show (W.getD i 0).toNat = 63; omega)
                  rw [this]; rfl
                rw [eo, Bool.true_and] at ho
                have HHC := HC
                subst h63
                (
                  have c1 := hr.src.tcell (k + 1) (by omega)
                  have f1 := hr.dst.frozen k
                  have c2 := hr.dst.tcell k (by omega)
                  rw [← ho] at c1
                  obtain ⟨b2, hb2⟩ : ∃ b, wrow W S i k = b := ⟨_, rfl⟩
                  rw [hb2] at c1
                  have HN := Lib.hid (fun q => HPut.out _ _ _ (HR.out.drewN q) k b2 (by omega) (part_put _ k _ b2 hb2))
                  clear hr ho hb2 eo
                  go_wp2_with fail
                  go_quiet (fail)
                  go_wp2
                  go_roundw
                  case rel => exact ⟨k, by omega, by rw [show ((k : Int) - 1) = ((k : Nat) : Int) - 1 from rfl], HN.out nq⟩
                  case measure => simp [intOf])
              · have e63 : (c == 63) = false := by simpa using h63
                have d63 : decide (c = 63) = false := decide_eq_false h63
                by_cases hcd : c = d
                · have eo : (W.getD i 0 == 63 || W.getD i 0 == S.getD k 0) = true := by
                    have : W.getD i 0 = S.getD k 0 := UInt8.toNat_inj.1 (by have := HC.out; have := HD.out; omega)
                    rw [this]; simp
                  rw [eo, Bool.true_and] at ho
                  clear HD
                  have ecd : (c == d) = true := by simpa using hcd
                  have dcd : decide (c = d) = true := decide_eq_true hcd
                  subst hcd
                  (
                    have c1 := hr.src.tcell (k + 1) (by omega)
                    have f1 := hr.dst.frozen k
                    have c2 := hr.dst.tcell k (by omega)
                    rw [← ho] at c1
                    obtain ⟨b2, hb2⟩ : ∃ b, wrow W S i k = b := ⟨_, rfl⟩
                    rw [hb2] at c1
                    have HN := Lib.hid (fun q => HPut.out _ _ _ (HR.out.drewN q) k b2 (by omega) (part_put _ k _ b2 hb2))
                    clear hr ho hb2 eo
                    go_wp2_with fail
                    go_quiet (fail)
                    go_wp2
                    go_roundw
                    case rel => exact ⟨k, by omega, by rw [show ((k : Int) - 1) = ((k : Nat) : Int) - 1 from rfl], HN.out nq⟩
                    case measure => simp [intOf])
                · have ecd : (c == d) = false := by simpa using hcd
                  have dcd : decide (c = d) = false := decide_eq_false hcd
                  have eo : (W.getD i 0 == 63 || W.getD i 0 == S.getD k 0) = false := by
                    simp only [Bool.or_eq_false_iff, beq_eq_false_iff_ne]
                    exact ⟨fun e => h63 (by rw [← HC.out, e]; rfl), fun e => hcd (by rw [← HC.out, ← HD.out, e])⟩
                  rw [eo, Bool.false_and] at ho
                  (
                    have HN : Hid (StRel w (wo.alloc (.cells Z 4)) g G (wrow W S (i + 1)) (part (wrow W S i) k) (m + 1) wr) := Lib.hid ⟨HR.out.src, by rw [← tabC_congr (part_skip _ k _ ho)]; exact HR.out.dst, HR.out.old, HR.out.fr⟩
                    clear hr ho
                    go_wp2_with fail
                    go_quiet (fail)
                    go_wp2
                    go_roundw
                    case rel => exact ⟨k, by omega, by rw [show ((k : Int) - 1) = ((k : Nat) : Int) - 1 from rfl], HN.out.drewN nq⟩
                    case measure => simp [intOf])
            · have hkm' : ¬ (k : Int) < m := by omega
              have d1 : decide ((k : Int) < m) = false := decide_eq_false hkm'
              have ho := HWe.out i (by omega) HN42.out
              rw [← (by omega : k = m)] at ho
              (
                have HN : Hid (StRel w (wo.alloc (.cells Z 4)) g G (wrow W S (i + 1)) (part (wrow W S i) k) (m + 1) wr) := Lib.hid ⟨HR.out.src, by rw [← tabC_congr (part_skip _ k _ ho)]; exact HR.out.dst, HR.out.old, HR.out.fr⟩
                clear hr ho
                go_wp2_with fail
                go_quiet (fail)
                go_wp2
                go_roundw
                case rel => exact ⟨k, by omega, by rw [show ((k : Int) - 1) = ((k : Nat) : Int) - 1 from rfl], HN.out.drewN nq⟩
                case measure => simp [intOf])
        · obtain rfl : k1 = 0 := by omega
          have HE : Hid (Whole wr G 4 (tabC (wrow W S i) (m + 1))) := Lib.hid (by rw [← tabC_congr (f := part (wrow W S i) 0) (fun q hq => by simp [part])]; exact hr.dst)
          have HO := Lib.hid hr.old
          clear hr
          go_wp2_with fail
          go_roundw
          case rel => exact ⟨i, G, by omega, rfl, rfl, hgo, HE.out, HO.out⟩
          case measure => simp [intOf]
    · obtain rfl : j = 0 := by omega
      have c1 := hgW.tcell 0 (by omega)
      have e0 : wrow W S 0 0 = wordB W S := by simp [wrow]
      rw [e0] at c1
      have HB := Lib.hid (hfr.below (fun _ _ e => e))
      obtain ⟨r, hr⟩ : ∃ r, wordB W S = r := ⟨_, rfl⟩
      rw [hr] at c1
      have HRr := Lib.hid hr
      clear hr hgW hfr
      go_wp2_with fail
      go_ret
      exact ⟨by rw [HRr.out]; rfl, HB.out⟩
end Go.Proofs.YtnekddpnajgmdaaDoor

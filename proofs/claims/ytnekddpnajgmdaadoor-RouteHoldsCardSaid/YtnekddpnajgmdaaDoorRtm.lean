/- What is proved: one part more of a pattern, gone on by from each place; for how many first parts a pattern stands, by the program. Conditions: the lists and rows are there. -/
import Derived.Test.YtnekddpnajgmdaaDoorRtl
import Derived.Test.YtnekddpnajgmdaaDoorRtk
namespace Go.Proofs.YtnekddpnajgmdaaDoor
open Go.RowKit
set_option linter.unusedVariables false

/-- What stands at the head of a round of step. -/
structure StRel (w0 w : World) (f g : Nat) (R T : Nat → Bool) (m : Nat) (wr : World) : Prop where
  src : Whole wr f 4 (tabC R m)
  dst : Whole wr g 4 (tabC T m)
  old : Fr (fun _ => False) w0 wr
  fr : Fr (fun k => k = g) w wr
theorem StRel.put {w0 w wr : World} {f g : Nat} {R T T' : Nat → Bool} {m : Nat} (h : StRel w0 w f g R T m wr) (hfg : f ≠ g) (hg0 : w0.heap.size ≤ g) (k : Nat) (b : Bool) (hk : k < m) (hT : ∀ j, j < m → (if j = k then b else T j) = T' j) :
    StRel w0 w f g R T' m (wr.setCell ⟨g, k, none⟩ (.bool b)) := by
  have hs : Fr (fun k => k = g) wr (wr.setCell ⟨g, k, none⟩ (.bool b)) := (Fr.refl (fun k => k = g) wr).setCell (p := ⟨g, k, none⟩) (fun _ => rfl) _
  exact ⟨h.src.fr hs hfg, h.dst.tset k b hk _ hT, h.old.trans hs (fun i hi e => by omega), h.fr.setCell (p := ⟨g, k, none⟩) (fun _ => rfl) _⟩
theorem StRel.below {w0 w wr w' : World} {f g : Nat} {R T : Nat → Bool} {m : Nat} (h : StRel w0 w f g R T m wr) (b : Below wr.heap.size wr w') : StRel w0 w f g R T m w' :=
  ⟨h.src.fr (Fr.of_below (S := fun _ => False) b) (fun e => e), h.dst.fr (Fr.of_below (S := fun _ => False) b) (fun e => e), h.old.then_below b, h.fr.then_below b⟩

set_option maxHeartbeats 6400000 in
theorem Rtstep_any (p : List UInt8) (P L : List (List UInt8)) (hp : p.length ≤ 900000) (hL : L.length ≤ 900000) (hs : ∀ k, k < L.length → (L.getD k []).length ≤ 900000) (A : Option Addr) (c f g : Nat) (w0 w : World)
    (hl : Lies w0 A (strV L)) (hfg : f ≠ g) (hg0 : w0.heap.size ≤ g) (h : StRel w0 w f g (rowB P L) (fun _ => false) (L.length + 1) w) :
    Calls Tryd.prog 59 #[.string (strB p), .slice A L.length c, .slice (some ⟨f, 0, none⟩) (L.length + 1) (L.length + 1), .slice (some ⟨g, 0, none⟩) (L.length + 1) (L.length + 1)] w fun e w' =>
      e = .returned (.tuple #[]) ∧ StRel w0 w f g (rowB P L) (rowB (P ++ [p]) L) (L.length + 1) w' := by
  have hq := strB_list p
  have HM := Lib.hid (fun k (hk : k < L.length) w => Rtmeans_any p (L.getD k []) hp (hs k hk) w)
  have HL := Lib.hid (fun w' (f : Fr (fun _ => False) w0 w') => lies_str hl f)
  have HPut := Lib.hid (fun (wr : World) (T T' : Nat → Bool) (h : StRel w0 w f g (rowB P L) T (L.length + 1) wr) => h.put (T' := T') hfg hg0)
  have H := Lib.hid h
  have HS1 := Lib.hid (row_star_step P L)
  have HO1 := Lib.hid (fun hp => row_one P L p hp)
  have HO0 := Lib.hid (row_one_zero P L p)
  obtain ⟨n, hn⟩ : ∃ n, L.length = n := ⟨_, rfl⟩
  rw [hn] at hL HM HL HPut H HS1 HO1 ⊢
  obtain ⟨S, hS⟩ : ∃ S, strB p = S := ⟨_, rfl⟩
  rw [hS] at hq HM ⊢
  clear hl h hs hn hS hg0
  go_enter Tryd.func59, Tryd.ntmps59
  go_wp2
  by_cases hst : p = [42, 42]
  · have hpe : (p == [42, 42]) = true := by simpa using hst
    go_loopw [12] (fun i wr => ∃ k : Nat, k ≤ n + 1 ∧ i = .int .i64 k ∧ StRel w0 w f g (rowB P L) (fun j => decide (j < k) && rowB (P ++ [p]) L j) (n + 1) wr) (fun i _ => n + 1 - (intOf i).toNat)
    case atStart => exact ⟨0, by omega, rfl, by simpa using H.out⟩
    case round =>
      obtain ⟨k, hk, rfl, hr⟩ := hrel
      by_cases hlt : k < n + 1
      · have c0 := hr.src.tcell k hlt
        have c1 := hr.dst.tcell k hlt
        have f1 := hr.dst.frozen k
        have hstep := HS1.out k (by omega)
        rw [← hst] at hstep
        have HR := Lib.hid hr
        obtain ⟨b, hb⟩ : ∃ b, rowB P L k = b := ⟨_, rfl⟩
        rw [hb] at c0 hstep
        clear hb
        cases b
        · rcases Nat.eq_zero_or_pos k with hk0 | hk0
          · subst hk0
            have HN : Hid (StRel w0 w f g (rowB P L) (fun j => decide (j < 0 + 1) && rowB (P ++ [p]) L j) (n + 1) (wr.setCell ⟨g, 0, none⟩ (.bool false))) := Lib.hid (HPut.out _ _ _ HR.out 0 false hlt (fun j hj => by
              by_cases e : j = 0
              · subst e; rw [if_pos rfl]; simp at hstep; simp [hstep]
              · rw [if_neg e, decide_eq_false (show ¬ j < 0 by omega), decide_eq_false (show ¬ j < 0 + 1 by omega)]))
            clear hr hstep
            go_wp2_with fail
            go_roundw
            case rel => exact ⟨0 + 1, by omega, by go_num, HN.out⟩
            case measure => simp [intOf]
          · obtain ⟨i, rfl⟩ : ∃ i, k = i + 1 := ⟨k - 1, by omega⟩
            have c2 := hr.dst.tcell i (by omega)
            have e2 : (decide (i < i + 1) && rowB (P ++ [p]) L i) = rowB (P ++ [p]) L i := by simp
            rw [e2] at c2
            rw [Bool.false_or, decide_eq_true (show 0 < i + 1 by omega), Bool.true_and, show i + 1 - 1 = i by omega] at hstep
            rw [← hstep] at c2
            obtain ⟨b2, hb2⟩ : ∃ b, rowB (P ++ [p]) L (i + 1) = b := ⟨_, rfl⟩
            rw [hb2] at c2
            have HN : Hid (StRel w0 w f g (rowB P L) (fun j => decide (j < i + 1 + 1) && rowB (P ++ [p]) L j) (n + 1) (wr.setCell ⟨g, i + 1, none⟩ (.bool b2))) := Lib.hid (HPut.out _ _ _ HR.out (i + 1) b2 hlt (fun j hj => by
              by_cases e : j = i + 1
              · subst e; rw [if_pos rfl, ← hb2]; simp
              · rw [if_neg e]
                congr 1
                rw [decide_eq_decide]
                omega))
            clear hr hstep hb2 e2
            go_wp2_with fail
            go_roundw
            case rel => exact ⟨i + 1 + 1, by omega, by go_num, HN.out⟩
            case measure => simp [intOf]; omega
        · have HN : Hid (StRel w0 w f g (rowB P L) (fun j => decide (j < k + 1) && rowB (P ++ [p]) L j) (n + 1) (wr.setCell ⟨g, k, none⟩ (.bool true))) := Lib.hid (HPut.out _ _ _ HR.out k true hlt (fun j hj => by
            by_cases e : j = k
            · subst e; rw [if_pos rfl]; simp at hstep; simp [hstep]
            · rw [if_neg e]
              congr 1
              rw [decide_eq_decide]
              omega))
          clear hr hstep
          go_wp2_with fail
          go_roundw
          case rel => exact ⟨k + 1, by omega, by go_num, HN.out⟩
          case measure => simp [intOf]; omega
      · obtain rfl : k = n + 1 := by omega
        have HE : Hid (StRel w0 w f g (rowB P L) (rowB (P ++ [p]) L) (n + 1) wr) := Lib.hid ⟨hr.src, by rw [← tabC_congr (f := fun j => decide (j < n + 1) && rowB (P ++ [p]) L j) (fun j hj => by simp [hj])]; exact hr.dst, hr.old, hr.fr⟩
        clear hr
        go_wp2_with fail
        go_end0
        exact ⟨rfl, HE.out⟩
  · have hpe : (p == [42, 42]) = false := by simpa using hst
    have HO := Lib.hid (HO1.out hst)
    have HZ := Lib.hid (HO0.out hst)
    go_loopw [12] (fun i wr => ∃ k : Nat, k ≤ n + 1 ∧ i = .int .i64 k ∧ StRel w0 w f g (rowB P L) (fun j => decide (j ≤ k) && rowB (P ++ [p]) L j) (n + 1) wr) (fun i _ => n + 1 - (intOf i).toNat)
    case atStart =>
      refine ⟨0, by omega, rfl, ?_⟩
      have e : ∀ j, j < n + 1 → (fun _ => false) j = (fun j => decide (j ≤ 0) && rowB (P ++ [p]) L j) j := fun j hj => by
        rcases Nat.eq_zero_or_pos j with rfl | h
        · simp [HZ.out]
        · simp; intro e; omega
      exact ⟨H.out.src, by rw [← tabC_congr e]; exact H.out.dst, H.out.old, H.out.fr⟩
    case round =>
      obtain ⟨k, hk, rfl, hr⟩ := hrel
      have HR := Lib.hid hr
      by_cases hlt : k < n + 1
      · have c0 := hr.src.tcell k hlt
        obtain ⟨b, hb⟩ : ∃ b, rowB P L k = b := ⟨_, rfl⟩
        rw [hb] at c0
        have hdst := fun hk1 => HO.out k hk1
        rw [hb] at hdst
        have HD := Lib.hid hdst
        clear hb hdst hr
        have HNo : Hid ((k < n → rowB (P ++ [p]) L (k + 1) = false) → StRel w0 w f g (rowB P L) (fun j => decide (j ≤ k + 1) && rowB (P ++ [p]) L j) (n + 1) wr) := Lib.hid (fun hz => ⟨HR.out.src, by
          rw [← tabC_congr (f := fun j => decide (j ≤ k) && rowB (P ++ [p]) L j) (fun j hj => by
            by_cases e : j = k + 1
            · subst e; rw [hz (by omega)]; simp
            · congr 1
              rw [decide_eq_decide]
              omega)]
          exact HR.out.dst, HR.out.old, HR.out.fr⟩)
        cases b
        · go_wp2_with fail
          go_roundw
          case rel => exact ⟨k + 1, by omega, by go_num, HNo.out (fun h => by rw [HD.out h]; rfl)⟩
          case measure => simp [intOf]; omega
        · by_cases hkn : k < n
          · have hki : (k : Int) < n := by omega
            obtain ⟨bb, o, rfl, hc⟩ := HL.out wr HR.out.old k hkn
            have hm := HM.out k hkn
            obtain ⟨x, hx⟩ : ∃ x, L.getD k [] = x := ⟨_, rfl⟩
            rw [hx] at hc hm HD
            obtain ⟨X, hX⟩ : ∃ X, strB x = X := ⟨_, rfl⟩
            rw [hX] at hc hm
            obtain ⟨b2, hb2⟩ : ∃ b, wordB p x = b := ⟨_, rfl⟩
            rw [hb2] at hm HD
            have HMm := Lib.hid hm
            clear hx hX hb2 hm
            cases b2
            · go_wp2_with (go_at_call 66; refine (HMm.out _).mono ?_; rintro e w2 ⟨rfl, b2⟩)
              have HN := Lib.hid ((HNo.out (fun h => by rw [HD.out h]; rfl)).below b2)
              clear b2
              go_wp2_with fail
              go_roundw
              case rel => exact ⟨k + 1, by omega, by go_num, HN.out⟩
              case measure => simp [intOf]; omega
            · go_wp2_with (go_at_call 66; refine (HMm.out _).mono ?_; rintro e w2 ⟨rfl, b2⟩
                           have HR2 := Lib.hid (HR.out.below b2)
                           have c1 := HR2.out.dst.tcell (k + 1) (by omega)
                           have f1 := HR2.out.dst.frozen (k + 1)
                           clear b2)
              have HN : Hid (StRel w0 w f g (rowB P L) (fun j => decide (j ≤ k + 1) && rowB (P ++ [p]) L j) (n + 1) (w2.setCell ⟨g, k + 1, none⟩ (.bool true))) := Lib.hid (HPut.out _ _ _ HR2.out (k + 1) true (by omega) (fun j hj => by
                by_cases e : j = k + 1
                · subst e; rw [if_pos rfl, HD.out hkn]; simp
                · rw [if_neg e]
                  congr 1
                  rw [decide_eq_decide]
                  omega))
              go_wp2_with fail
              go_roundw
              case rel => exact ⟨k + 1, by omega, by go_num, HN.out⟩
              case measure => simp [intOf]; omega
          · have hki : ¬ (k : Int) < n := by omega
            go_wp2_with fail
            go_roundw
            case rel => exact ⟨k + 1, by omega, by go_num, HNo.out (fun h => absurd h hkn)⟩
            case measure => simp [intOf]; omega
      · obtain rfl : k = n + 1 := by omega
        have HE : Hid (StRel w0 w f g (rowB P L) (rowB (P ++ [p]) L) (n + 1) wr) := Lib.hid ⟨hr.src, by rw [← tabC_congr (f := fun j => decide (j ≤ n + 1) && rowB (P ++ [p]) L j) (fun j hj => by simp; intro _; omega)]; exact hr.dst, hr.old, hr.fr⟩
        clear hr
        go_wp2_with fail
        go_end0
        exact ⟨rfl, HE.out⟩
end Go.Proofs.YtnekddpnajgmdaaDoor

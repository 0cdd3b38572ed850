/- What is proved: Make of the program. Conditions: the texts' bytes are there, at most 4000 each. -/
import Derived.Test.YthjfkeploofblaaDel
import Derived.Test.YthjfkeploofblaaDem
import Derived.Deep.RegionWith
import Derived.Deep.Cut
namespace Go.Proofs.Ythjfkeploofblaa
open Go.RowKit
set_option linter.unusedVariables false

theorem gd_eq (r : Nat × Nat) : (6 ≤ r.2 → gd r = r) ∧ (¬ 6 ≤ r.2 → gd r = (0, 0)) := ⟨fun h => if_pos h, fun h => if_neg h⟩
theorem withO_le (os : List DOp) (c : UInt8) (n m : Nat) (h1 : os.length ≤ n) (h2 : ∀ o ∈ os, o.b.length ≤ m) : (withO os c).length ≤ n + 1 ∧ ∀ o ∈ withO os c, o.b.length ≤ m + 1 := by
  rcases List.eq_nil_or_concat os with rfl | ⟨init, p, rfl⟩
  · rw [withO_nil]
    refine ⟨by simp, fun o ho => by rw [List.mem_singleton.1 ho]; simp [newO]⟩
  · rw [List.concat_eq_append] at *
    cases hp : p.copy
    · rw [withO_new _ _ _ hp]
      refine ⟨by simp at h1 ⊢; omega, fun o ho => ?_⟩
      rcases List.mem_append.1 ho with h3 | h3
      · have := h2 o (by simp [h3]); omega
      · rw [List.mem_singleton.1 h3]
        have := h2 p (by simp)
        simp; omega
    · rw [withO_copy _ _ _ hp]
      refine ⟨by simp at h1 ⊢; omega, fun o ho => ?_⟩
      rcases List.mem_append.1 ho with h3 | h3
      · have := h2 o h3; omega
      · rw [List.mem_singleton.1 h3]; simp [newO]
/-- What the call's ops are while they are made. -/
structure MkInv (base target : List UInt8) (at' : Nat) (os : List DOp) : Prop where
  rest : restM base target at' os = makeO base target
  len : os.length ≤ at'
  bs : ∀ o ∈ os, o.b.length ≤ at'
theorem MkInv.start (base target : List UInt8) : MkInv base target 0 [] := ⟨rfl, by simp, by simp⟩
theorem MkInv.copy {base target : List UInt8} {at' : Nat} {os : List DOp} (h : MkInv base target at' os) (hl : at' < target.length) {f n : Nat} (hg : gd (bestO base (target.drop at')) = (f, n)) (hn : n ≠ 0) : MkInv base target (at' + n) (os ++ [copyO f n]) ∧ at' + n ≤ target.length ∧ f + n ≤ base.length ∧ 6 ≤ n := by
  have h6 : 6 ≤ (bestO base (target.drop at')).2 := by
    refine Nat.le_of_not_lt (fun h7 => ?_)
    rw [(gd_eq _).2 (by omega)] at hg
    injection hg with _ h8
    exact hn h8.symm
  rw [(gd_eq _).1 h6] at hg
  have hle := bestK_le base (target.drop at') base.length (Nat.le_refl _)
  have e1 : (bestO base (target.drop at')).1 = f := by rw [hg]
  have e2 : (bestO base (target.drop at')).2 = n := by rw [hg]
  have hr := restM_copy base target at' os hl h6
  rw [e1, e2] at hr
  rw [show bestK base (target.drop at') base.length = bestO base (target.drop at') from rfl, e1, e2, List.length_drop] at hle
  rw [e2] at h6
  refine ⟨⟨hr.symm.trans h.rest, ?_, ?_⟩, by omega, by omega, h6⟩
  · have := h.len; simp; omega
  · intro o ho
    rcases List.mem_append.1 ho with h3 | h3
    · have := h.bs o h3; omega
    · rw [List.mem_singleton.1 h3]; simp [copyO]
theorem MkInv.new {base target : List UInt8} {at' : Nat} {os : List DOp} (h : MkInv base target at' os) (hl : at' < target.length) {f : Nat} (hg : gd (bestO base (target.drop at')) = (f, 0)) {c : UInt8} (hc : target[at']? = some c) : MkInv base target (at' + 1) (withO os c) := by
  have h6 : ¬ 6 ≤ (bestO base (target.drop at')).2 := by
    intro h7
    rw [(gd_eq _).1 h7] at hg
    rw [hg] at h7
    simp at h7
  have hr := restM_new base target at' os hl h6
  have e : target.getD at' 0 = c := by rw [List.getD_eq_getElem?_getD, hc]; rfl
  rw [e] at hr
  have hw := withO_le os c at' at' h.len h.bs
  exact ⟨hr.symm.trans h.rest, hw.1, hw.2⟩
theorem MapIs.below {w w' : World} {base b : Nat} {G : List UInt8 → List Nat} (h : MapIs w base b G) (f : Below w.heap.size w w') : MapIs w' base b G := h.fr (Fr.of_below f)
theorem i64_nat (n : Nat) (h : n ≤ 100000) : I64 (n : Int) := ⟨by omega, by omega⟩
theorem opsO_len (ps : List POp) : (opsO ps).length = ps.length := by simp [opsO]

set_option maxHeartbeats 12800000 in
set_option maxRecDepth 100000 in
theorem DMake_any (A B : Option Addr) (c d : Nat) (xs ys : List UInt8) (h1 : xs.length ≤ 4000) (h2 : ys.length ≤ 4000) (hc : xs.length ≤ c) (hd : ys.length ≤ d) (w : World) (ha : Lies w A (bytesV xs)) (hb : Lies w B (bytesV ys)) :
    Calls Try.prog 19 #[.slice A xs.length c, .slice B ys.length d] w fun e w' => ∃ A' c' ps, e = .returned (.tuple #[.agg #[.int .i64 xs.length, .int .i64 ys.length, .slice A' ps.length c'], .int .i64 0]) ∧ Scr w' A' c' ps ∧ opsO ps = makeO xs ys ∧ Below w.heap.size w w' := by
  obtain ⟨X, hX⟩ : ∃ X, xs.length = X := ⟨_, rfl⟩
  obtain ⟨Y, hY⟩ : ∃ Y, ys.length = Y := ⟨_, rfl⟩
  have HX := Lib.hid hX
  have HY := Lib.hid hY
  obtain ⟨w1, hw1⟩ : ∃ w1, w.alloc (.cells #[.int .i64 0, .int .i64 0, .slice none 0 0] 24) = w1 := ⟨_, rfl⟩
  have F1 : Fr (fun _ => False) w w1 := by subst hw1; exact (Fr.refl _ _).alloc _
  have W1 : Whole w1 w.heap.size 24 #[.int .i64 0, .int .i64 0, .slice none 0 0] := by subst hw1; exact Whole.new _ _ _
  have hs1 : w1.heap.size = w.heap.size + 1 := by subst hw1; simp
  have HA := Lib.hid (ha.fr F1 (fun _ _ e => e))
  have HB := Lib.hid (hb.fr F1 (fun _ _ e => e))
  have HF1 := Lib.hid F1
  have HW1 := Lib.hid W1
  have HS1 := Lib.hid hs1
  have HLx := Lib.hid (fun w => DisLen_any X w)
  have HLy := Lib.hid (fun w => DisLen_any Y w)
  have Hdx := Lib.hid (show decide ((0 : Int) ≤ (X : Int) ∧ (X : Int) ≤ 4000) = true by simp; omega)
  have Hdy := Lib.hid (show decide ((0 : Int) ≤ (Y : Int) ∧ (Y : Int) ≤ 4000) = true by simp; omega)
  have HPo := Lib.hid (DpartsOf_any A c xs h1 hc w1 HA.out)
  have HLo := Lib.hid (fun at' mb base0 B' d' w' (hm : MapIs w' base0 mb (plc xs (xs.length - 5))) (ha : Lies w' A (bytesV xs)) (hb : Lies w' B' (bytesV (ys.drop at'))) => Dlongest_any mb base0 A B' c d' xs (ys.drop at') h1 (by rw [List.length_drop]; omega) hc w' ha hb hm)
  rw [hX] at HPo HLo h1 hc ⊢
  rw [hY] at h2 hd ⊢
  obtain ⟨i1, gi, gz0, gz1, gz2⟩ := info_parts infoDO
  clear hX hY F1 W1 hs1 ha hb
  go_enter Try.func19, Try.ntmps19
  go_upto_region 5 with (first
    | (go_at_call 33; have _ := M1; refine (HLy.out _).mono ?_; rintro e w2 ⟨rfl, rfl⟩; simp only [Hdy.out])
    | (go_at_call 33; refine (HLx.out _).mono ?_; rintro e w2 ⟨rfl, rfl⟩; simp only [Hdx.out]; have M1 := True.intro)
    | (go_at_call 45; refine HPo.out.mono ?_; rintro e w6 ⟨rfl, b6, m6⟩; have HB6 := Lib.hid b6; have HM6 := Lib.hid m6; clear b6 m6))
  obtain ⟨w7, hw7⟩ : ∃ w7, w6.alloc (.cells #[.int .i64 X, .int .i64 Y, .slice none 0 0] 24) = w7 := ⟨_, rfl⟩
  rw [hw7]
  have F7 : Fr (fun _ => False) w6 w7 := by subst hw7; exact (Fr.refl _ _).alloc _
  have W7 : Whole w7 w6.heap.size 24 #[.int .i64 X, .int .i64 Y, .slice none 0 0] := by subst hw7; exact Whole.new _ _ _
  have hs7 : w7.heap.size = w6.heap.size + 1 := by subst hw7; simp
  have HF7 := Lib.hid F7
  have HS7 := Lib.hid hs7
  have HF16 := Lib.hid (Fr.of_below (S := fun _ => False) HB6.out)
  clear F7 hs7 hw7
  go_wp2_with fail
  go_loopw [8] (fun i wr => ∃ (k : Nat) (v : Value) (ps : List POp), k ≤ Y ∧ i = .int .i64 k ∧ Hid (Whole wr w6.heap.size 24 #[.int .i64 X, .int .i64 Y, v]) ∧ Hid (Mk w7 wr v ps) ∧ Hid (MkInv xs ys k (opsO ps)) ∧ Hid (Fr (fun j => w6.heap.size ≤ j) w6 wr)) (fun i _ => Y - (intOf i).toNat)
  case atStart => exact ⟨0, .slice none 0 0, [], by omega, rfl, Lib.hid W7, Lib.hid (Mk.nil w7), Lib.hid (MkInv.start xs ys), Lib.hid (HF7.out.mono (fun _ _ e => e.elim))⟩
  case round =>
    obtain ⟨k, v, ps, hk, rfl, HW, HM, HI, HF⟩ := hrel
    have hk1 : (0 : Int) ≤ k := by omega
    by_cases hlt : k < Y
    · have hk2 : (k : Int) < Y := by omega
      have hsz := HS7.out
      have HBr := Lib.hid (HF.out.below (fun i hi e => by omega))
      have HAr := Lib.hid ((HA.out.fr HF16.out (fun _ _ e => e)).fr (Fr.of_below (S := fun _ => False) HBr.out) (fun _ _ e => e))
      have hBr := ((HB.out.fr HF16.out (fun _ _ e => e)).fr (Fr.of_below (S := fun _ => False) HBr.out) (fun _ _ e => e))
      obtain ⟨cb, hcb⟩ : ∃ cb, ys[k]? = some cb := ⟨ys[k]'(by rw [HY.out]; exact hlt), List.getElem?_eq_getElem (by rw [HY.out]; exact hlt)⟩
      have HCb := Lib.hid hcb
      obtain ⟨bb, bo, hBe, hcell⟩ := hBr.byteAt hcb
      have hsl : ∀ w, (Instr.slice 26 (.slice B Y d) (some (.int .i64 k)) none none).run Try.prog w = .ok (.slice (tlB B d k) (Y - k) (d - k)) w := fun w => slice_tlB B Y d k (by omega) w
      have hLg := HLo.out k _ _ (tlB B d k) (d - k) wr (HM6.out.below HBr.out) HAr.out (hBr.tlB d k (by rw [HY.out]; exact hd))
      obtain ⟨f, n, hg⟩ : ∃ f n, gd (bestO xs (ys.drop k)) = (f, n) := ⟨_, _, rfl⟩
      rw [hg, List.length_drop, HY.out] at hLg
      have HG := Lib.hid hg
      obtain ⟨TB, hTB⟩ : ∃ TB, tlB B d k = TB := ⟨_, rfl⟩
      obtain ⟨N2, hN2⟩ : ∃ N2, Y - k = N2 := ⟨_, rfl⟩
      obtain ⟨D2, hD2⟩ : ∃ D2, d - k = D2 := ⟨_, rfl⟩
      rw [hTB, hN2, hD2] at hsl hLg
      have HLg := Lib.hid hLg
      simp only at HLg
      obtain ⟨Av, cv, hv, -⟩ := HM.out.len
      subst hv
      obtain ⟨L, hL⟩ : ∃ L, ps.length = L := ⟨_, rfl⟩
      have HLn := Lib.hid hL
      have hLk : L ≤ k := by have := HI.out.len; rw [opsO_len] at this; omega
      rw [hL] at HW HM
      clear hcb hBr hLg hg hTB hN2 hD2 hL
      by_cases hn0 : n = 0
      · subst hn0
        subst hBe
        have HWn := Lib.hid (fun w' (f : Fr (fun _ => False) wr w') => DwithNew_any w7 w' Av cv L ps cb HLn.out (by omega) (fun p hp => by
          have := HI.out.bs p.o (by simp only [opsO, List.mem_map]; exact ⟨p, hp, rfl⟩)
          omega) (by have := HF.out.size; have := f.size; obtain ⟨_, _⟩ := HM.out.len; have h9 := HW.out.lt; omega) (HM.out.fr f))
        have q0 : ∀ w', Fr (fun _ => False) wr w' → w'.cell? ⟨w6.heap.size, 2, none⟩ = some (.slice Av L cv) ∧ w'.cell? ⟨bb, bo + k, none⟩ = some (.int .u8 cb.toNat) := fun w' f => ⟨by rw [(HW.out.fr f (fun e => e)).cell]; rfl, f.cell hcell (fun e => e)⟩
        have Hq0 := Lib.hid q0
        clear q0 hcell
        go_wp2_with (go_at_call 46; refine HLg.out.mono ?_; rintro e w8 ⟨rfl, b8⟩; have HF8 := Lib.hid (Fr.of_below (S := fun _ => False) b8); obtain ⟨q1, q2⟩ := Hq0.out w8 HF8.out; clear b8)
        go_region_with (go_at_call 47; refine (HWn.out _ HF8.out.drew).mono ?_
                        rintro e w9 ⟨v9, ps9, rfl, hM9, hO9, hF9⟩
                        obtain ⟨A9, c9, hv9, -⟩ := hM9.len
                        subst hv9
                        have HM9 := Lib.hid hM9
                        have HO9 := Lib.hid hO9
                        have HF9 := Lib.hid hF9
                        have HW9 := Lib.hid ((HW.out.fr HF8.out.drew (fun e => e)).fr hF9 (fun e => by omega))
                        have e9 : w9.cell? ⟨w6.heap.size, 2, none⟩ = some (.slice Av L cv) := by rw [HW9.out.cell]; rfl
                        have z9 : w9.frozen? ⟨w6.heap.size, 2, none⟩ = false := HW9.out.frozen 2
                        clear hM9 hO9 hF9)
        all_goals
          go_wp2_with fail
          go_roundw
        all_goals first
          | (simp [intOf]; omega)
          | (have fset : Fr (fun j => j = w6.heap.size) w9 (w9.setCell ⟨w6.heap.size, 2, none⟩ (.slice A9 ps9.length c9)) := Fr.setCell (S := fun j => j = w6.heap.size) (p := ⟨w6.heap.size, 2, none⟩) (Fr.refl _ w9) (fun _ => rfl) _
             refine ⟨k + 1, _, ps9, by omega, by go_num, Lib.hid (HW9.out.set 2 _), Lib.hid (HM9.out.frS fset (fun j e => by have := HS7.out; omega)), Lib.hid (by rw [HO9.out]; exact HI.out.new (by rw [HY.out]; exact hlt) HG.out HCb.out), Lib.hid ?_⟩
             exact ((HF.out.trans HF8.out.drew (fun i hi e => e.elim)).trans HF9.out (fun i hi e => by have := HS7.out; omega)).trans fset (fun i hi e => by omega))
      · have hne : ((n : Int) == 0) = false := by simp; omega
        obtain ⟨hI2, hkn, hfn, hn6⟩ := HI.out.copy (by rw [HY.out]; exact hlt) HG.out hn0
        rw [HY.out] at hkn
        rw [HX.out] at hfn
        have HI2 := Lib.hid hI2
        have HF8p : Hid (∀ w8, Below wr.heap.size wr w8 → w8.cell? ⟨w6.heap.size, 2, none⟩ = some (.slice Av L cv)) := Lib.hid (fun w8 b8 => by rw [(HW.out.fr (Fr.of_below (S := fun _ => False) b8) (fun e => e)).cell]; rfl)
        have HSrc : Hid (∀ w : World, Src Try.prog 4 22 (.slice (some ⟨w.heap.size, 0, none⟩) 1 1) 1 [.bool true, .int .i64 f, .int .i64 n, .slice none 0 0] (w.alloc (.cells #[.bool true, .int .i64 f, .int .i64 n, .slice none 0 0] 57))) := Lib.hid (fun w => src_op w 22 57 Try.underlying22 ⟨⟨true, f, n, []⟩, none, 0⟩)
        obtain ⟨xp, hxp⟩ : ∃ xp, flatP ps = xp := ⟨_, rfl⟩
        have HXp := Lib.hid hxp
        have HMo := Lib.hid (show wr.ownsRow w7.heap.size 57 4 (.slice Av L cv) L xp from by have := HM.out.own; rwa [HLn.out, hxp] at this)
        have HWl := Lib.hid HW.out.lt
        clear hI2 hxp hcell hBe
        go_wp2_with (first
          | (go_at_call 46; refine HLg.out.mono ?_; rintro e w8 ⟨rfl, b8⟩; have HF8 := Lib.hid (Fr.of_below (S := fun _ => False) b8); have q1 := HF8p.out w8 b8; have HMo8 := Lib.hid (own_fr HMo.out HF8.out (fun _ _ e => e)); have HW8 := Lib.hid (HW.out.fr HF8.out (fun e => e)); clear b8)
          | (at_builtin; refine wpList_append_row _ rfl (.tmp 55) (.tmp 59) 22 22 rfl w7.heap.size 57 i1 (.agg zeroO) 4 48 Try.underlying22 gi gz0 gz1 gz2 rfl _ L xp rfl (HMo8.out.alloc _) _ 1 _ rfl (HSrc.out _) (by unfold maxLen; omega) (by omega) (by have := HS7.out; have := HWl.out; have := HF8.out.size; simp; omega) ?_
             intro v9 w9 o9 g9 at9
             have HO9 := Lib.hid o9
             have HF9 := Lib.hid (show Fr (fun j => Value.ownBlock (.slice Av L cv) = some j) w8 w9 from ((Fr.refl _ w8).alloc _).grown g9 (fun j hj _ => hj))
             have HA9 := Lib.hid (show v9.ownBlock = Value.ownBlock (.slice Av L cv) ∨ ∃ j, v9.ownBlock = some j ∧ w8.heap.size ≤ j from at9.imp id (fun e => ⟨_, e, by simp⟩))
             obtain ⟨A9, k9, hv9, _, _⟩ := own_slice o9
             subst hv9
             have HW9 := Lib.hid (HW8.out.fr HF9.out (fun e => by have := (World.ownsRow.lt HMo8.out _ e).1; have := HS7.out; omega))
             have e9 : w9.cell? ⟨w6.heap.size, 2, none⟩ = some (.slice Av L cv) := by rw [HW9.out.cell]; rfl
             have z9 : w9.frozen? ⟨w6.heap.size, 2, none⟩ = false := HW9.out.frozen 2
             clear o9 g9 at9))
        go_roundw
        case rel =>
          have fset : Fr (fun j => j = w6.heap.size) w9 (w9.setCell ⟨w6.heap.size, 2, none⟩ (.slice A9 (L + 1) k9)) := Fr.setCell (S := fun j => j = w6.heap.size) (p := ⟨w6.heap.size, 2, none⟩) (Fr.refl _ w9) (fun _ => rfl) _
          have hM9 : Mk w7 w9 (.slice A9 (L + 1) k9) (ps ++ [⟨⟨true, f, n, []⟩, none, 0⟩]) := by
            refine Mk.push (HM.out.fr HF8.out) ⟨i64_nat f (by omega), i64_nat n (by omega), Nat.le_refl _, Nat.zero_le _, .inl rfl⟩ (by rw [HLn.out, HXp.out]; exact HO9.out) HF9.out HA9.out rfl (fun e => by cases e)
          refine ⟨k + n, _, ps ++ [⟨⟨true, f, n, []⟩, none, 0⟩], by omega, by go_num, Lib.hid (HW9.out.set 2 _), Lib.hid (hM9.frS fset (fun j e => by have := HS7.out; omega)), Lib.hid (by rw [opsO_append]; exact HI2.out), Lib.hid ?_⟩
          exact ((HF.out.trans HF8.out (fun i hi e => e.elim)).trans HF9.out (fun i hi e => by have := (World.ownsRow.lt HMo8.out _ e).1; have := HS7.out; omega)).trans fset (fun i hi e => by omega)
        case measure => simp [intOf]; omega
    · obtain rfl : k = Y := by omega
      have HEn := Lib.hid (show opsO ps = makeO xs ys from by have := HI.out.rest; rwa [restM_end _ _ _ _ (by rw [HY.out]; exact Nat.le_refl _)] at this)
      obtain ⟨Av, cv, hv, -⟩ := HM.out.len
      subst hv
      have hsz := HS7.out
      have hsz1 := HS1.out
      have h61 := HF16.out.size
      have HBr := Lib.hid (HF.out.below (fun i hi e => by omega))
      have HWr := Lib.hid ((HW1.out.fr HF16.out (fun e => e)).fr (Fr.of_below (S := fun _ => False) HBr.out) (fun e => e))
      have c0 : wr.cell? ⟨w6.heap.size, 0, none⟩ = some (.int .i64 X) := by rw [HW.out.cell]; rfl
      have c1 : wr.cell? ⟨w6.heap.size, 1, none⟩ = some (.int .i64 k) := by rw [HW.out.cell]; rfl
      have c2 : wr.cell? ⟨w6.heap.size, 2, none⟩ = some (.slice Av ps.length cv) := by rw [HW.out.cell]; rfl
      have e0 : wr.cell? ⟨w.heap.size, 0, none⟩ = some (.int .i64 0) := by rw [HWr.out.cell]; rfl
      have e1 : wr.cell? ⟨w.heap.size, 1, none⟩ = some (.int .i64 0) := by rw [HWr.out.cell]; rfl
      have e2 : wr.cell? ⟨w.heap.size, 2, none⟩ = some (.slice none 0 0) := by rw [HWr.out.cell]; rfl
      have z0 := HWr.out.frozen 0
      have z1 := HWr.out.frozen 1
      have z2 := HWr.out.frozen 2
      go_wp2_with fail
      have hw9 : Whole (((wr.setCell ⟨w.heap.size, 0, none⟩ (.int .i64 X)).setCell ⟨w.heap.size, 1, none⟩ (.int .i64 k)).setCell ⟨w.heap.size, 2, none⟩ (.slice Av ps.length cv)) w.heap.size 24 #[.int .i64 X, .int .i64 k, .slice Av ps.length cv] := ((HWr.out.set 0 (.int .i64 X)).set 1 (.int .i64 k)).set 2 (.slice Av ps.length cv)
      refine bodyPost_ret (v := .tuple #[.agg #[.int .i64 X, .int .i64 k, .slice Av ps.length cv], .int .i64 0]) (results_cell_slot (p := 4) (u := 5) rfl _ _ _ _ _ _ rfl hw9 Try.underlying24 rfl (by kernel_rfl)) rfl ?_
      have fset : Fr (fun j => j = w.heap.size) wr (((wr.setCell ⟨w.heap.size, 0, none⟩ (.int .i64 X)).setCell ⟨w.heap.size, 1, none⟩ (.int .i64 k)).setCell ⟨w.heap.size, 2, none⟩ (.slice Av ps.length cv)) := ((((Fr.refl (fun j => j = w.heap.size) wr).setCell (p := ⟨w.heap.size, 0, none⟩) (fun _ => rfl) _).setCell (p := ⟨w.heap.size, 1, none⟩) (fun _ => rfl) _).setCell (p := ⟨w.heap.size, 2, none⟩) (fun _ => rfl) _)
      have fall : Fr (fun j => w.heap.size ≤ j) w (((wr.setCell ⟨w.heap.size, 0, none⟩ (.int .i64 X)).setCell ⟨w.heap.size, 1, none⟩ (.int .i64 k)).setCell ⟨w.heap.size, 2, none⟩ (.slice Av ps.length cv)) := (((HF1.out.mono (T := fun j => w.heap.size ≤ j) (fun _ _ e => e.elim)).trans HF16.out (fun i hi e => e.elim)).trans HF.out (fun i hi e => by omega)).trans fset (fun i hi e => by omega)
      obtain ⟨A9, c9, hv9, sc9, -⟩ := (HM.out.frS fset (fun j e => by omega)).slice
      injection hv9 with e1 e2 e3
      subst e1; subst e3
      exact ⟨Av, cv, ps, rfl, sc9, HEn.out, fall.below (fun i hi e => by omega)⟩
end Go.Proofs.Ythjfkeploofblaa
